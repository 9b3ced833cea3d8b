/- The document's reading of expressions: class. -/
import Derived.Test.YtjecopdbcaojcaaVX
import Derived.Deep.CutRange
namespace Go.Proofs.Ytjecopdbcaojcaa
open Go.RowKit Kb
set_option linter.unusedVariables false
set_option maxRecDepth 20000

set_option maxHeartbeats 16000000 in
theorem dclass_t (w : World) (B g : Nat) (s : ByteArray) (a op ww : Nat) (h : Txt w B g s ⟨a, op, 0, ww⟩) (hs : s.size ≤ 200) (ha : a ≤ s.size) (H94 : decide (pkB s a = 94) = true) :
    Calls Try.prog 57 #[.pointer (some ⟨g, 0, none⟩)] w fun e w' => ∃ (q : Se) (t' : Td), e = .returned (setV q) ∧ FitS q ∧ ClsD s a ⟨a, op, 0, ww⟩ t' q ∧ w.grownBy w' (some g) ∧ Txt w' B g s t' := by
  have hne := h.lt.2
  -- the result's variable
  have T0 := hide (h.below ((Below.refl _ w).alloc (Nat.le_refl _) (.cells #[.int .u64 0, .int .u64 0, .int .u64 0, .int .u64 0] 24)))
  have A0 := hide (World.ownsRow_lit (e := 24) (size := 4) w #[.int .u64 0, .int .u64 0, .int .u64 0, .int .u64 0] 1 (Nat.le_refl w.heap.size) (by unfold maxLen; omega) rfl)
  have hsz0 : (w.alloc (.cells #[.int .u64 0, .int .u64 0, .int .u64 0, .int .u64 0] 24)).heap.size = w.heap.size + 1 := by simp
  have G0 := hide (World.grownBy_alloc w (.cells #[.int .u64 0, .int .u64 0, .int .u64 0, .int .u64 0] 24) (some g))
  obtain ⟨W0, hW0⟩ : ∃ W0, w.alloc (.cells #[.int .u64 0, .int .u64 0, .int .u64 0, .int .u64 0] 24) = W0 := ⟨_, rfl⟩
  rw [hW0] at T0 A0 G0 hsz0
  have HP := hide (dpeekQ_any W0 B g s _ (unhide T0) hs (by show a ≤ _; omega))
  obtain ⟨nb, hnb⟩ : ∃ nb, decide (pkB s a = 94) = nb := ⟨_, rfl⟩
  have HNB2 : Hid (nb = true) := hide (hnb.symm.trans H94)
  clear H94
  have HNB := hide hnb
  have hpk : (((pk s ⟨a, op, 0, ww⟩).toList == [94]) : Bool) = nb := by
    by_cases hl : a < s.size
    · rw [pk_yes hl, ← hnb]
      by_cases h94 : pkB s a = 94
      · rw [one_t h94, decide_eq_true h94]
      · rw [one_f h94, decide_eq_false h94]
    · rw [pk_no (fun h => hl h.2), ← hnb, pkB_end hl, Lib.toList_data]; rfl
  obtain ⟨c, hc⟩ : ∃ c, pk s ⟨a, op, 0, ww⟩ = c := ⟨_, rfl⟩
  rw [hc] at HP hpk
  clear hc hnb h
  go_enter Try.func57, Try.ntmps57
  go_wp2_with fail
  clear hW0
  refine (unhide HP).mono ?_; rintro e w1 ⟨rfl, m1, rfl⟩
  have b1 : Below W0.heap.size W0 (W0.drewN m1) := Go.below_drewN (Below.refl _ _) _
  have hsz1 : (W0.drewN m1).heap.size = w.heap.size + 1 := by rw [← hsz0]; simp
  obtain ⟨w1, hw1⟩ : ∃ w1, W0.drewN m1 = w1 := ⟨_, rfl⟩
  rw [hw1] at b1 hsz1
  have ROWB := World.ownsRow_lit (e := 4) (size := 1) (base := w.heap.size) w1 #[.bool nb] 1 (by omega) (by unfold maxLen; omega) rfl
  have bb := (Below.refl w1.heap.size w1).alloc (Nat.le_refl _) (.cells #[.bool nb] 4)
  have T2 := hide (((unhide T0).below b1).below bb)
  have A2 := hide (own_below (own_below (unhide A0) b1) bb)
  have G2 := hide (((unhide G0).trans (grown_below' b1 (some g))).trans (grown_below' bb (some g)))
  rw [hsz1] at ROWB
  have RB := hide ROWB
  have hsz2 : (w1.alloc (.cells #[.bool nb] 4)).heap.size = w.heap.size + 2 := by simp [hsz1]
  obtain ⟨W2, hW2⟩ : ∃ W2, w1.alloc (.cells #[.bool nb] 4) = W2 := ⟨_, rfl⟩
  rw [hW2] at T2 A2 G2 RB hsz2
  clear ROWB bb b1 T0 A0 G0 HP
  cases (unhide HNB2)
  clear HNB2
  have cb := (unhide RB).cellAt 0 (by omega)
  simp only [List.getElem?_cons_zero] at cb
  obtain ⟨c0, c1, c2, c3, c4⟩ := (unhide T2).cells
  dsimp only at c0 c1 c2 c3 c4
  have f1 := World.ownsRow.frozenAt (unhide T2) 1
  rw [hw1]
  have h94 : pkB s a = 94 := by simpa using unhide HNB
  have HTK : Hid (tkA s a 94 ≤ s.size) := hide (by unfold tkA; rw [if_pos h94]; exact pk_lt (by rw [h94]; decide))
  have hta : tkA s a 94 = a + 1 := by unfold tkA; rw [if_pos h94]
  obtain ⟨s1, g1⟩ := World.ownsRow.stored (unhide T2) 1 (.int .i64 ((a + 1 : Nat) : Int))
  have A3 := hide ((unhide A2).kept g1 (.inr (by simp [Value.ownBlock]; omega)))
  have RB3 := hide ((unhide RB).kept g1 (.inr (by simp [Value.ownBlock]; omega)))
  have G3 := hide ((unhide G2).trans g1)
  have T3 : Hid (Txt (W2.setCell ⟨g, 1, none⟩ (.int .i64 ((a + 1 : Nat) : Int))) B g s ⟨tkA s a 94, op, 0, ww⟩) := hide (by rw [hta]; exact s1)
  have hsz3 : (W2.setCell ⟨g, 1, none⟩ (.int .i64 ((a + 1 : Nat) : Int))).heap.size = w.heap.size + 2 := by simp [hsz2]
  obtain ⟨W3, hW3⟩ : ∃ W, W2.setCell ⟨g, 1, none⟩ (.int .i64 ((a + 1 : Nat) : Int)) = W := ⟨_, rfl⟩
  rw [hW3] at A3 RB3 G3 T3 hsz3
  rw [Int.natCast_add, Int.cast_ofNat_Int] at hW3
  clear s1 g1 hta
  have mk := marksV_new W3 w.heap.size (by omega)
  have bb := (Below.refl W3.heap.size W3).alloc (Nat.le_refl _) (.cells Try.zeroCells107 107)
  rw [hsz3] at mk
  have S0 : Hid (CS w B g s ⟨tkA s a 94, op, 0, ww⟩ (fun _ => false) true (W3.alloc (.cells Try.zeroCells107 107))) := hide ⟨(unhide T3).below bb, own_below (unhide A3) bb, own_below (unhide RB3) bb, mk, (unhide G3).trans (grown_below' bb (some g)), hne⟩
  obtain ⟨W4, hW4⟩ : ∃ W, W3.alloc (.cells Try.zeroCells107 107) = W := ⟨_, rfl⟩
  rw [hW4] at S0
  clear mk bb h94 T2 A2 G2 RB T3 A3 RB3 G3
  go_wp2_with fail
  clear hW2 hW3 hW4 cb c0 c1 c2 c3 c4 f1 hw1
  go_loopw [5] (fun n wr => ∃ (k : Nat) (t : Td) (M : Nat → Bool), n = .int .i64 k ∧ t.op = op ∧ ClsI s a k t M ∧ CS w B g s t M true wr) (fun n _ => s.size + 2 - (intOf n).toNat)
  case atStart => exact ⟨0, ⟨tkA s a 94, op, 0, ww⟩, _, rfl, rfl, .inl ⟨rfl, unhide HTK, Nat.zero_le _, .inl ⟨rfl, rfl, rfl⟩⟩, unhide S0⟩
  case round =>
    obtain ⟨k, ⟨b, op', e, ww1⟩, M, rfl, hop, hcl, hcs⟩ := hrel
    dsimp only at hop
    subst hop
    have SS := hide hcs
    have CL := hide hcl
    clear S0 hcs
    obtain ⟨c0, c1, c2, c3, c4⟩ := (unhide SS).tx.cells
    dsimp only at c0 c1 c2 c3 c4
    have hbd : b ≤ 300 ∧ k ≤ s.size + 1 := by
      rcases hcl with ⟨_, h2, h3, _⟩ | ⟨_, h2, h3, _⟩ <;> (dsimp only at h2 h3; omega)
    by_cases he : e = 0
    · subst he
      have hsz := hs
      have HBS0 : Hid (b ≤ s.size) := hide (by
        rcases hcl with ⟨_, h2, _⟩ | ⟨h1, _⟩
        · exact h2
        · exact absurd (show (0 : Int) = 3 from h1) (by decide))
      by_cases hk0 : k = 0
      · subst hk0
        have HCC : Hid ((0 : Nat) = 0 ∨ pkB s b ≠ 93) := hide (.inl rfl)
        obtain ⟨WB, hWB⟩ : ∃ WB, wr = WB := ⟨_, rfl⟩
        rw [hWB] at SS c0 c1 c2 c3 c4 ⊢
        have SB := SS
        clear SS hcl hWB
        have HIT := hide (ditem_any WB B g s _ (unhide SB).tx hs (by show b ≤ _; omega))
        go_wp2_with fail
        refine (unhide HIT).mono ?_; rintro e6 w6 ⟨lo, ⟨qa, qb, qc, qd⟩, ⟨b1, op1, e1, ww2⟩, rfl, fit, hit, gr6, tx6⟩
        unfold setV
        have S6 := hide ((unhide SB).wrong gr6 tx6)
        obtain ⟨hop1, hle1, _, hcase⟩ := hit
        dsimp only at hop1 hle1
        subst hop1
        replace hcase := hcase rfl
        have FT := hide fit
        have hgg : g < w6.heap.size := (unhide S6).tx.lt.2
        have K7 := hide (World.ownsRow_lit (e := 24) (size := 4) (base := w6.heap.size) w6 #[.int .u64 qa, .int .u64 qb, .int .u64 qc, .int .u64 qd] 1 (Nat.le_refl _) (by unfold maxLen; omega) rfl)
        have bb7 := (Below.refl w6.heap.size w6).alloc (Nat.le_refl _) (.cells #[.int .u64 qa, .int .u64 qb, .int .u64 qc, .int .u64 qd] 24)
        have S7 := hide ((unhide S6).below bb7)
        obtain ⟨g7, hg7⟩ : ∃ g, w6.heap.size = g := ⟨_, rfl⟩
        obtain ⟨W7, hW7⟩ : ∃ W, w6.alloc (.cells #[.int .u64 qa, .int .u64 qb, .int .u64 qc, .int .u64 qd] 24) = W := ⟨_, rfl⟩
        have hge7 : w.heap.size + 3 ≤ g7 := by have h := ((unhide S6).b4.lt (w.heap.size + 2) rfl).2; rw [hg7] at h; omega
        clear bb7 gr6 tx6 fit HIT S6
        rcases hcase with ⟨p, hcls, rfl, bits, he1, hat⟩ | ⟨hcls, x, cc, hch, rfl, he1, hat⟩ | ⟨hcls, cc, hch, rfl, he1, hww⟩
        · dsimp only at he1 hat
          subst he1 hat
          have HST := hide (cls_ok (op' := op1) (ww' := ww2) (unhide CL) (by first | exact unhide HCC | exact .inl rfl) (by unfold itemR; rw [hcls]) rfl)
          have BT := hide bits
          clear hcls bits
          rw [hW7] at K7 S7
          rw [hg7] at K7 hgg
          go_wp2_with fail
          clear hW7 hg7
          go_loopw [9] (fun x wq => ∃ j : Nat, x = .int .i64 j ∧ j ≤ 256 ∧ CS w B g s ⟨b + 2, op1, 0, ww2⟩ (fun i => M i || (decide (i < j) && p i)) true wq ∧ wq.ownsRow (w.heap.size + 3) 24 4 (.slice (some ⟨g7, 0, none⟩) 1 1) 1 [.int .u64 qa, .int .u64 qb, .int .u64 qc, .int .u64 qd]) (fun x _ => 256 - (intOf x).toNat)
          case atStart => exact ⟨0, rfl, by omega, (unhide S7).ext (fun j hj => by simp), own_mono' (unhide K7) hge7⟩
          case round =>
            obtain ⟨j, rfl, hj, hcs7, hk7⟩ := hrel
            have SJ := hide hcs7
            have KJ := hide hk7
            clear hcs7 hk7
            by_cases hjl : j < 256
            · have hmc := (unhide SJ).b4.cellAt j (by omega)
              rw [cellsV_at _ j hjl] at hmc
              have hfz := (unhide SJ).b4.frozenAt j
              have hji : (j : Int) < 256 := by omega
              obtain ⟨v, hv⟩ : ∃ v, M j = v := ⟨_, rfl⟩
              have hv2 : (M j || (decide (j < j) && p j)) = v := by rw [hv]; simp
              rw [hv2] at hmc
              have HV := hide hv
              clear hv hv2
              have S10 := hide (((unhide SJ).mark j (v || p j)).ext (N := fun i => M i || (decide (i < j + 1) && p i)) (fun i hi => by
                by_cases e : i = j
                · subst e; rw [if_pos rfl, unhide HV]; simp
                · rw [if_neg e]; congr 2; rw [decide_eq_decide]; omega))
              cases v with
              | true =>
                have K10 := hide ((unhide KJ).kept ((unhide SJ).b4.stored j (.bool (true || p j))).2 (.inr (by simp [Value.ownBlock]; omega)))
                rw [Bool.true_or] at S10 K10
                go_wp2_with fail
                exact ⟨⟨j + 1, by go_num, by omega, unhide S10, unhide K10⟩, by simp [intOf]; omega⟩
              | false =>
                obtain ⟨n0, n1, n2, n3⟩ := set4 (unhide KJ)
                have HIS := hide (fun W => is_any ⟨qa, qb, qc, qd⟩ j W (unhide FT) hjl)
                rw [(unhide BT) j hjl] at HIS
                unfold setV at HIS
                dsimp only at HIS
                go_wp2_with fail
                refine ((unhide HIS) _).mono ?_; rintro e11 w11 ⟨rfl, b11⟩
                have S11 := hide ((unhide SJ).below b11)
                have K11 := hide (own_below (unhide KJ) b11)
                clear b11 S10 n0 n1 n2 n3 hmc hfz SJ KJ
                have hmc := (unhide S11).b4.cellAt j (by omega)
                rw [cellsV_at _ j hjl] at hmc
                have hfz := (unhide S11).b4.frozenAt j
                have K12 := hide ((unhide K11).kept ((unhide S11).b4.stored j (.bool (p j))).2 (.inr (by simp [Value.ownBlock]; omega)))
                have S12 := hide (((unhide S11).mark j (p j)).ext (N := fun i => M i || (decide (i < j + 1) && p i)) (fun i hi => by
                  by_cases e : i = j
                  · subst e; rw [if_pos rfl, unhide HV]; simp
                  · rw [if_neg e]; congr 2; rw [decide_eq_decide]; omega))
                obtain ⟨y, hy⟩ : ∃ y, p j = y := ⟨_, rfl⟩
                rw [hy] at S12 K12 ⊢
                clear hy
                go_wp2_with fail
                exact ⟨⟨j + 1, by go_num, by omega, unhide S12, unhide K12⟩, by simp [intOf]; omega⟩
            · obtain rfl : j = 256 := by omega
              have S13 := hide ((unhide SJ).ext (N := fun i => M i || p i) (fun i hi => by rw [decide_eq_true hi, Bool.true_and]))
              go_wp2_with fail
              exact ⟨⟨0 + 1, _, _, by go_num, rfl, unhide HST, unhide S13⟩, by simp [intOf]; try omega⟩
        · dsimp only at he1 hat
          subst he1 hat
          have hx256 : x < 256 := (charR_le s b (unhide HBS0)).2 x (by rw [hch])
          have hb1s : b1 ≤ s.size := by have := (charR_le s b (unhide HBS0)).1; rw [hch] at this; exact this
          by_cases h45 : pkB s b1 = 45
          · have hlt1 := pk_lt (s := s) (a := b1) (by rw [h45]; decide)
            have hit2 := item_dash hcls hch h45
            have HI2 := hide hit2
            have HPK := hide (dpeekQ_any W7 B g s _ (by have := (unhide S7).tx; rwa [hW7] at this) hs (by show b1 ≤ _; omega))
            rw [pk_yes hlt1, h45] at HPK
            rw [hW7] at K7 S7
            rw [hg7] at K7 hgg
            clear hcls hch h45 hit2
            go_wp2_with fail
            clear hW7 hg7
            refine (unhide HPK).mono ?_; rintro e8 w8 ⟨rfl, m8, rfl⟩
            have S8 := hide ((unhide S7).below (Go.below_drewN (Below.refl _ _) m8))
            obtain ⟨W8, hW8⟩ : ∃ W, W7.drewN m8 = W := ⟨_, rfl⟩
            rw [hW8] at S8 ⊢
            clear hW8 HPK S7 K7
            obtain ⟨c0, c1, c2, c3, c4⟩ := (unhide S8).tx.cells
            dsimp only at c0 c1 c2 c3 c4
            have f1 := World.ownsRow.frozenAt (unhide S8).tx 1
            obtain ⟨bz, hbz⟩ : ∃ z, b1 + 1 = z := ⟨_, rfl⟩
            have HBZ := hide hbz
            have S9 := hide ((unhide S8).at_ bz)
            obtain ⟨W9, hW9⟩ : ∃ W, W8.setCell ⟨g, 1, none⟩ (.int .i64 (bz : Int)) = W := ⟨_, rfl⟩
            rw [hW9] at S9
            rw [show (bz : Int) = (b1 : Int) + 1 by omega] at hW9
            rw [hbz] at HI2
            have hbz201 : bz ≤ s.size := by omega
            clear hbz
            obtain ⟨d0, d1, d2, d3, d4⟩ := (unhide S9).tx.cells
            dsimp only at d0 d1 d2 d3 d4
            obtain ⟨mb, hmb⟩ : ∃ mb, (decide (pkB s bz = 92) && has [100, 119, 115] (pkB s (bz + 1))) = mb := ⟨_, rfl⟩
            have HMB := hide hmb
            clear hmb
            go_upto_region 19 with fail
            go_cut [107] from 26 to 142 (fun v wx => v = .bool mb ∧ CS w B g s ⟨bz, op1, 0, ww2⟩ M true wx)
            case first =>
              clear c0 c1 c2 c3 c4 f1 hW9
              have HPK := hide (fun n => dpeekQ_any (W9.drewN n) B g s _ ((unhide S9).tx.below (Go.below_drewN (Below.refl _ _) n)) hs (by show bz ≤ _; omega))
              by_cases h92 : pkB s bz = 92
              · have hlt2 := pk_lt (s := s) (a := bz) (by rw [h92]; decide)
                rw [pk_yes hlt2, h92] at HPK
                by_cases hlt3 : bz + 1 < s.size
                · obtain ⟨y, hy⟩ : ∃ y, pkB s (bz + 1) = y := ⟨_, rfl⟩
                  have HIN := hide (fun n => in_any y ⟨#[100, 119, 115]⟩ (W9.drewN n) (by decide))
                  have hmy : has [100, 119, 115] y = mb := by rw [← unhide HMB, h92, hy]; simp
                  rw [show has (⟨#[100, 119, 115]⟩ : ByteArray).data.toList y = has [100, 119, 115] y from rfl, hmy] at HIN
                  have hlt4 : (bz : Int) + 1 < s.size := by omega
                  have hw1 : IntKind.i64.wrap ((bz : Int) + 1) = (bz : Int) + 1 := Kb.wr64 _ (by omega) (by omega)
                  have htn : ((bz : Int) + 1).toNat = bz + 1 := by omega
                  have hx3 : ∀ hb : bz + 1 < s.size, s[bz + 1] = y := fun hb => by
                    rw [← hy]; unfold pkB; rw [dif_pos hb]
                  clear h92 hy hmy
                  go_quiet (first | (go_at_call 33; exact Calls.quiet_of ((unhide HPK) _)) | (go_at_call 71; exact Calls.quiet_of_same ((unhide HIN) _)))
                  go_wp2
                  go_meet
                  exact ⟨by first | rfl | simp, (unhide S9).below (Go.below_drewN (Below.refl _ _) _)⟩
                · have hmbf : mb = false := by rw [← unhide HMB, pkB_end hlt3]; simp [has]
                  subst hmbf
                  have hlt4 : ¬ ((bz : Int) + 1 < s.size) := by omega
                  clear h92
                  go_quiet (first | (go_at_call 33; exact Calls.quiet_of ((unhide HPK) _)))
                  go_wp2
                  go_meet
                  exact ⟨rfl, (unhide S9).below (Go.below_drewN (Below.refl _ _) _)⟩
              · have hneq : ∃ r : ByteArray, pk s ⟨bz, op1, 0, ww2⟩ = r ∧ (r.toList == [92]) = false := by
                  by_cases hlt : bz < s.size
                  · exact ⟨_, pk_yes hlt, one_f h92⟩
                  · exact ⟨_, pk_no (fun h => hlt h.2), by rw [Lib.toList_data]; rfl⟩
                obtain ⟨r, hr, hrb⟩ := hneq
                rw [hr] at HPK
                have hmbf : mb = false := by rw [← unhide HMB, decide_eq_false h92]; rfl
                subst hmbf
                clear h92 hr
                go_quiet (first | (go_at_call 33; exact Calls.quiet_of ((unhide HPK) _)))
                go_wp2
                go_meet
                exact ⟨rfl, (unhide S9).below (Go.below_drewN (Below.refl _ _) _)⟩
            case rest =>
              obtain ⟨rfl, hcsx⟩ := hcut
              have SX := hide hcsx
              clear hcsx c0 c1 c2 c3 c4 d0 d1 d2 d3 d4 f1 hW9 S9 S8
              obtain ⟨c0, c1, c2, c3, c4⟩ := (unhide SX).tx.cells
              dsimp only at c0 c1 c2 c3 c4
              have HCO : Hid ((0 : Nat) = 0 ∨ pkB s b ≠ 93) := hide (by first | exact unhide HCC | exact .inl rfl)
              cases mb with
              | true =>
                have hcr : charR s bz = (none, bz + 1) := by
                  have h := unhide HMB
                  rw [Bool.and_eq_true, decide_eq_true_eq] at h
                  obtain ⟨h1, h2⟩ := h
                  unfold charR
                  rw [if_pos h1]
                  have h3 : pkB s (bz + 1) = 100 ∨ pkB s (bz + 1) = 119 ∨ pkB s (bz + 1) = 115 := by simpa [has] using h2
                  unfold escR
                  rcases h3 with h3 | h3 | h3 <;> (rw [h3]; rfl)
                have HST := hide (cls_bad (d := bz) (op' := op1) (N := M) (unhide CL) (by first | exact unhide HCO | exact .inl rfl) (show itemR s b = (none, bz + 1) by rw [unhide HI2, hcr]; rfl) (by have := unhide HBZ; omega))
                obtain ⟨wz, hwz⟩ : ∃ z, bz + 1 = z := ⟨_, rfl⟩
                have HWR := hide (wrong_any wc B g s _ (unhide SX).tx 3 wz)
                rw [show wrongT ⟨bz, op1, 0, ww2⟩ 3 wz = ⟨bz, op1, 3, wz⟩ from if_pos rfl, show (wz : Int) = (bz : Int) + 1 by omega] at HWR
                rw [hwz] at HST
                clear hcr hwz
                go_wp2_with fail
                refine (unhide HWR).mono ?_; rintro e10 w10 ⟨rfl, g10, t10⟩
                have SW := hide ((unhide SX).wrong g10 t10)
                obtain ⟨WE, hWE⟩ : ∃ WE, w10 = WE := ⟨_, rfl⟩
                rw [hWE] at SW ⊢
                clear g10 t10 HWR SX c0 c1 c2 c3 c4 hWE
                have HEND : Hid (openR s (itemR s (tkA s a 94)) = (none, wz)) := hide (by
                  rcases unhide HST with ⟨h1, _⟩ | ⟨_, _, _, h4⟩
                  · exact absurd (show (3 : Int) = 0 from h1) (by decide)
                  · exact h4)
                have HBS : Hid (bz ≤ s.size + 20) := hide (by omega)
                clear CL HST
                obtain ⟨d0, d1, d2, d3, d4⟩ := (unhide SW).tx.cells
                dsimp only at d0 d1 d2 d3 d4
                have HWC := hide (where_c1 #[.pointer (some ⟨w.heap.size + 2, 0, none⟩), .pointer (some ⟨w.heap.size + 1, 0, none⟩)] (fun j => M j != true) WE (fun bz W' hb hW' => cc1_any M true bz _ _ _ 0 W' hb (own_below (unhide SW).b4 hW') (cell_below (unhide SW).nbc (by have := (unhide SW).b3.lt _ rfl; exact this.2) hW')))
                go_wp2_with fail
                refine (unhide HWC).mono ?_; rintro e5 w5 ⟨⟨qa, qb, qc, qd⟩, rfl, fit, bits, b5⟩
                clear HWC d0 d1 d2 d3 d4
                unfold setV
                have S5 := hide ((unhide SW).below b5)
                have hgg : g < w5.heap.size := (unhide S5).tx.lt.2
                have FT := hide (And.intro fit bits)
                have K6 := hide (World.ownsRow_lit (e := 24) (size := 4) (base := w5.heap.size) w5 #[.int .u64 qa, .int .u64 qb, .int .u64 qc, .int .u64 qd] 1 (Nat.le_refl _) (by unfold maxLen; omega) rfl)
                have bb6 := (Below.refl w5.heap.size w5).alloc (Nat.le_refl _) (.cells #[.int .u64 qa, .int .u64 qb, .int .u64 qc, .int .u64 qd] 24)
                have S6 := hide ((unhide S5).below bb6)
                obtain ⟨g6, hg6⟩ : ∃ g, w5.heap.size = g := ⟨_, rfl⟩
                obtain ⟨W6, hW6⟩ : ∃ W, w5.alloc (.cells #[.int .u64 qa, .int .u64 qb, .int .u64 qc, .int .u64 qd] 24) = W := ⟨_, rfl⟩
                rw [hW6] at K6 S6
                rw [hg6] at K6 hgg
                clear bb6 S5 b5 fit bits
                obtain ⟨n0, n1, n2, n3⟩ := set4 (unhide K6)
                by_cases hz : (⟨qa, qb, qc, qd⟩ : Se) = ⟨0, 0, 0, 0⟩
                · injection hz with z1 z2 z3 z4
                  subst z1 z2 z3 z4
                  have heq := eqSet 0 0 0 0 0 0 0 0
                  rw [decide_eq_true rfl] at heq
                  have fr0 := (unhide K6).frozenAt 0
                  have fr1 := (unhide K6).frozenAt 1
                  have fr2 := (unhide K6).frozenAt 2
                  have fr3 := (unhide K6).frozenAt 3
                  have hput6 : (((W6.setCell ⟨g6, 0, none⟩ (.int .u64 0)).setCell ⟨g6, 1, none⟩ (.int .u64 0)).setCell ⟨g6, 2, none⟩ (.int .u64 0)).setCell ⟨g6, 3, none⟩ (.int .u64 0) = W6 := by
                    rw [← hW6, ← hg6, World.setCell_alloc_new, World.setCell_alloc_new, World.setCell_alloc_new, World.setCell_alloc_new]; rfl
                  have HWR := hide (wrong_any W6 B g s _ (unhide S6).tx 3 bz)
                  rw [show wrongT ⟨bz, op1, 3, wz⟩ 3 bz = ⟨bz, op1, 3, wz⟩ from if_neg (show ¬ (3 : Int) = 0 by decide)] at HWR
                  obtain ⟨d0, d1, d2, d3, d4⟩ := (unhide S6).tx.cells
                  dsimp only at d0 d1 d2 d3 d4
                  go_wp2_with fail
                  clear hW6 hg6 d0 d1 d2 d3 d4 hput6 fr0 fr1 fr2 fr3 n0 n1 n2 n3 heq
                  refine (unhide HWR).mono ?_; rintro e7 w7 ⟨rfl, g7, t7⟩
                  have S7 := hide ((unhide S6).wrong g7 t7)
                  have K7 := hide ((unhide K6).kept g7 (.inr (by simp [Value.ownBlock]; omega)))
                  clear g7 t7 HWR S6 K6
                  obtain ⟨d0, d1, d2, d3, d4⟩ := (unhide S7).tx.cells
                  dsimp only at d0 d1 d2 d3 d4
                  have f1 := World.ownsRow.frozenAt (unhide S7).tx 1
                  have S8 := hide ((unhide S7).at_ (bz + 1))
                  obtain ⟨s1, g1⟩ := World.ownsRow.stored (unhide S7).tx 1 (.int .i64 ((bz + 1 : Nat) : Int))
                  have K8 := hide ((unhide K7).kept g1 (.inr (by simp [Value.ownBlock]; omega)))
                  clear s1 g1
                  obtain ⟨W8, hW8⟩ : ∃ W, w7.setCell ⟨g, 1, none⟩ (.int .i64 ((bz + 1 : Nat) : Int)) = W := ⟨_, rfl⟩
                  rw [hW8] at S8 K8
                  rw [Int.natCast_add, Int.cast_ofNat_Int] at hW8
                  obtain ⟨m0, m1', m2, m3⟩ := set4 (unhide K8)
                  obtain ⟨q0, q1, q2, q3, k0, k1, k2, k3⟩ := (unhide S8).zero
                  obtain ⟨r1, r2, r3⟩ := (unhide S8).fin ⟨0, 0, 0, 0⟩
                  have R := hide (And.intro r1 (And.intro r2 r3))
                  clear r1 r2 r3
                  go_wp2_with fail
                  (try simp only [Exit.inBlock, Exit.then])
                  refine bodyPost_ret_by (v := setV ⟨0, 0, 0, 0⟩) ?_ rfl ⟨⟨0, 0, 0, 0⟩, ⟨bz + 1, op1, 3, wz⟩, rfl, (unhide FT).1, ⟨rfl, by have := unhide HBS; show bz + 1 ≤ s.size + 21; omega, .inr ⟨wz, by unfold itemsR; rw [unhide HEND]; rfl, rfl, rfl⟩⟩, (unhide R).2.1, (unhide R).1⟩
                  exact results_cell_q (ty := 24) rfl _ _ w.heap.size _ rfl (unhide R).2.2
                · have heq := eqSet qa qb qc qd 0 0 0 0
                  rw [decide_eq_false hz] at heq
                  have HZ := hide hz
                  clear hz
                  obtain ⟨d0, d1, d2, d3, d4⟩ := (unhide S6).tx.cells
                  dsimp only at d0 d1 d2 d3 d4
                  have f1 := World.ownsRow.frozenAt (unhide S6).tx 1
                  have S8 := hide ((unhide S6).at_ (bz + 1))
                  obtain ⟨s1, g1⟩ := World.ownsRow.stored (unhide S6).tx 1 (.int .i64 ((bz + 1 : Nat) : Int))
                  have K8 := hide ((unhide K6).kept g1 (.inr (by simp [Value.ownBlock]; omega)))
                  clear s1 g1
                  obtain ⟨W8, hW8⟩ : ∃ W, W6.setCell ⟨g, 1, none⟩ (.int .i64 ((bz + 1 : Nat) : Int)) = W := ⟨_, rfl⟩
                  rw [hW8] at S8 K8
                  rw [Int.natCast_add, Int.cast_ofNat_Int] at hW8
                  obtain ⟨m0, m1', m2, m3⟩ := set4 (unhide K8)
                  obtain ⟨q0, q1, q2, q3, k0, k1, k2, k3⟩ := (unhide S8).zero
                  obtain ⟨r1, r2, r3⟩ := (unhide S8).fin ⟨qa, qb, qc, qd⟩
                  have R := hide (And.intro r1 (And.intro r2 r3))
                  clear r1 r2 r3
                  go_wp2_with fail
                  (try simp only [Exit.inBlock, Exit.then])
                  refine bodyPost_ret_by (v := setV ⟨qa, qb, qc, qd⟩) ?_ rfl ⟨⟨qa, qb, qc, qd⟩, ⟨bz + 1, op1, 3, wz⟩, rfl, (unhide FT).1, ⟨rfl, by have := unhide HBS; show bz + 1 ≤ s.size + 21; omega, .inr ⟨wz, by unfold itemsR; rw [unhide HEND]; rfl, rfl, rfl⟩⟩, (unhide R).2.1, (unhide R).1⟩
                  exact results_cell_q (ty := 24) rfl _ _ w.heap.size _ rfl (unhide R).2.2
              | false =>
                have hcn : clsP s bz = none := by
                  have h := unhide HMB
                  cases hc : clsP s bz with
                  | none => rfl
                  | some p =>
                    exfalso
                    unfold clsP at hc
                    by_cases h1 : pkB s bz = 92
                    · rw [if_pos h1] at hc
                      rw [h1, decide_eq_true rfl, Bool.true_and] at h
                      have h2 : ¬ (pkB s (bz + 1) = 100 ∨ pkB s (bz + 1) = 119 ∨ pkB s (bz + 1) = 115) := by
                        intro h3
                        have : has [100, 119, 115] (pkB s (bz + 1)) = true := by simpa [has] using h3
                        rw [this] at h; cases h
                      rw [if_neg (fun e => h2 (.inl e)), if_neg (fun e => h2 (.inr (.inl e))), if_neg (fun e => h2 (.inr (.inr e)))] at hc
                      cases hc
                    · rw [if_neg h1] at hc; cases hc
                have HIT2 := hide (ditem_any wc B g s _ (unhide SX).tx hs (by show bz ≤ _; omega))
                go_wp2_with fail
                refine (unhide HIT2).mono ?_; rintro e10 w10 ⟨lo2, ⟨ta, tb, tc, td⟩, ⟨b2, op2, e2, ww3⟩, rfl, fit2, hit2, gr2, tx2⟩
                unfold setV
                have SY := hide ((unhide SX).wrong gr2 tx2)
                obtain ⟨hop2, hle2, _, hcase2⟩ := hit2
                dsimp only at hop2 hle2
                subst hop2
                replace hcase2 := hcase2 rfl
                clear gr2 tx2 fit2 HIT2 SX c0 c1 c2 c3 c4
                rcases hcase2 with ⟨p, hcls2, _⟩ | ⟨_, y, cc, hch2, rfl, he2, hat2⟩ | ⟨_, cc, hch2, rfl, he2, hww2⟩
                · dsimp only at hcls2; rw [hcn] at hcls2; cases hcls2
                · dsimp only at he2 hat2 hch2
                  subst he2 hat2
                  have hy256 : y < 256 := (charR_le s bz (by omega)).2 y (by rw [hch2])
                  obtain ⟨c0, c1, c2, c3, c4⟩ := (unhide SY).tx.cells
                  dsimp only at c0 c1 c2 c3 c4
                  by_cases hyx : y < x
                  · have HST := hide (cls_bad (d := b2) (op' := op2) (N := M) (unhide CL) (by first | exact unhide HCO | exact .inl rfl) (show itemR s b = (none, bz) by rw [unhide HI2, hch2]; exact if_pos hyx) (by have := unhide HBZ; omega))
                    have HWR := hide (wrong_any w10 B g s _ (unhide SY).tx 3 bz)
                    rw [show wrongT ⟨b2, op2, 0, ww3⟩ 3 bz = ⟨b2, op2, 3, bz⟩ from if_pos rfl] at HWR
                    have hlt : (y : Int) < x := by omega
                    clear hch2
                    go_wp2_with fail
                    refine (unhide HWR).mono ?_; rintro e12 w12 ⟨rfl, g12, t12⟩
                    have SW := hide ((unhide SY).wrong g12 t12)
                    clear g12 t12 HWR SY c0 c1 c2 c3 c4
                    obtain ⟨c0, c1, c2, c3, c4⟩ := (unhide SW).tx.cells
                    dsimp only at c0 c1 c2 c3 c4
                    have hnot : ¬ ((x : Int) ≤ y) := by omega
                    go_wp2_with fail
                    go_loopw [13] (fun v wq => v = .int .i64 x ∧ wq = w12) (fun _ _ => 0)
                    case atStart => exact ⟨rfl, rfl⟩
                    case round =>
                      obtain ⟨rfl, rfl⟩ := hrel
                      go_wp2_with fail
                      exact ⟨⟨0 + 1, _, _, by go_num, rfl, unhide HST, unhide SW⟩, by simp [intOf]; try omega⟩
                  · have HST := hide (cls_ok (op' := op2) (ww' := ww3) (unhide CL) (by first | exact unhide HCO | exact .inl rfl) (show itemR s b = (some (betw x y), b2) by rw [unhide HI2, hch2]; exact if_neg hyx) rfl)
                    have hnlt : ¬ ((y : Int) < x) := by omega
                    clear hch2
                    go_wp2_with fail
                    go_loopw [13] (fun v wq => ∃ j : Nat, v = .int .i64 j ∧ x ≤ j ∧ j ≤ y + 1 ∧ CS w B g s ⟨b2, op2, 0, ww3⟩ (fun i => M i || (decide (x ≤ i) && decide (i < j))) true wq) (fun v _ => y + 1 - (intOf v).toNat)
                    case atStart => exact ⟨x, rfl, Nat.le_refl _, by omega, (unhide SY).ext (fun i hi => by
                      by_cases h1 : x ≤ i
                      · rw [decide_eq_false (show ¬ i < x by omega)]; simp
                      · rw [decide_eq_false h1]; simp)⟩
                    case round =>
                      obtain ⟨j, rfl, hj1, hj2, hcs9⟩ := hrel
                      have SJ := hide hcs9
                      clear hcs9
                      obtain ⟨c0, c1, c2, c3, c4⟩ := (unhide SJ).tx.cells
                      dsimp only at c0 c1 c2 c3 c4
                      by_cases hjl : j ≤ y
                      · have hj256 : j < 256 := by omega
                        have hmc := (unhide SJ).b4.cellAt j (by omega)
                        rw [cellsV_at _ j hj256] at hmc
                        have hfz := (unhide SJ).b4.frozenAt j
                        have hji : (j : Int) < 256 := by omega
                        have hjl2 : (j : Int) ≤ y := by omega
                        have S10 := hide (((unhide SJ).mark j true).ext (N := fun i => M i || (decide (x ≤ i) && decide (i < j + 1))) (fun i hi => by
                          by_cases e : i = j
                          · subst e; rw [if_pos rfl, decide_eq_true hj1, decide_eq_true (show i < i + 1 by omega)]; simp
                          · rw [if_neg e]; congr 2; rw [decide_eq_decide]; omega))
                        go_wp2_with fail
                        exact ⟨⟨j + 1, by go_num, by omega, by omega, unhide S10⟩, by simp [intOf]; omega⟩
                      · obtain rfl : j = y + 1 := by omega
                        have hjl2 : ¬ (((y + 1 : Nat) : Int) ≤ y) := by omega
                        have hjl3 : ¬ (((y : Nat) : Int) + 1 ≤ y) := by omega
                        have S13 := hide ((unhide SJ).ext (N := fun i => M i || betw x y i) (fun i hi => by exact mark_rng M x y i))
                        go_wp2_with fail
                        exact ⟨⟨0 + 1, _, _, by go_num, rfl, unhide HST, unhide S13⟩, by simp [intOf]; try omega⟩
                · dsimp only at he2 hww2 hch2
                  subst he2 hww2
                  obtain ⟨c0, c1, c2, c3, c4⟩ := (unhide SY).tx.cells
                  dsimp only at c0 c1 c2 c3 c4
                  have HST := hide (cls_bad (d := b2) (op' := op2) (N := M) (unhide CL) (by first | exact unhide HCO | exact .inl rfl) (show itemR s b = (none, ww3) by rw [unhide HI2, hch2]; rfl) (by have := unhide HBZ; omega))
                  clear hch2
                  by_cases hx0 : 0 < x
                  · have HWR := hide (wrong_any w10 B g s _ (unhide SY).tx 3 bz)
                    rw [show wrongT ⟨b2, op2, 3, ww3⟩ 3 bz = ⟨b2, op2, 3, ww3⟩ from if_neg (show ¬ (3 : Int) = 0 by decide)] at HWR
                    have hlt : (0 : Int) < x := by omega
                    go_wp2_with fail
                    refine (unhide HWR).mono ?_; rintro e12 w12 ⟨rfl, g12, t12⟩
                    have SW := hide ((unhide SY).wrong g12 t12)
                    clear g12 t12 HWR SY c0 c1 c2 c3 c4
                    obtain ⟨c0, c1, c2, c3, c4⟩ := (unhide SW).tx.cells
                    dsimp only at c0 c1 c2 c3 c4
                    have hnot : ¬ ((x : Int) ≤ 0) := by omega
                    go_wp2_with fail
                    go_loopw [13] (fun v wq => v = .int .i64 x ∧ wq = w12) (fun _ _ => 0)
                    case atStart => exact ⟨rfl, rfl⟩
                    case round =>
                      obtain ⟨rfl, rfl⟩ := hrel
                      go_wp2_with fail
                      exact ⟨⟨0 + 1, _, _, by go_num, rfl, unhide HST, unhide SW⟩, by simp [intOf]; try omega⟩
                  · obtain rfl : x = 0 := by omega
                    go_wp2_with fail
                    go_loopw [13] (fun v wq => v = .int .i64 0 ∧ wq = w10) (fun _ _ => 0)
                    case atStart => exact ⟨rfl, rfl⟩
                    case round =>
                      obtain ⟨rfl, rfl⟩ := hrel
                      go_wp2_with fail
                      exact ⟨⟨0 + 1, _, _, by go_num, rfl, unhide HST, unhide SY⟩, by simp [intOf]; try omega⟩
          · have HST := hide (cls_ok (op' := op1) (ww' := ww2) (unhide CL) (by first | exact unhide HCC | exact .inl rfl) (show itemR s b = (some (fun j => decide (j = x)), b1) by unfold itemR; rw [hcls, hch]; dsimp only; rw [if_neg h45]) rfl)
            have hneq : ∃ r : ByteArray, pk s ⟨b1, op1, 0, ww2⟩ = r ∧ (r.toList == [45]) = false := by
              by_cases hlt : b1 < s.size
              · exact ⟨_, pk_yes hlt, one_f h45⟩
              · exact ⟨_, pk_no (fun h => hlt h.2), by rw [Lib.toList_data]; rfl⟩
            obtain ⟨r, hr, hrb⟩ := hneq
            have HPK := hide (dpeekQ_any W7 B g s _ (by have := (unhide S7).tx; rwa [hW7] at this) hs (by show b1 ≤ _; omega))
            rw [hr] at HPK
            rw [hW7] at K7 S7
            rw [hg7] at K7 hgg
            clear hcls hch hr h45
            go_wp2_with fail
            clear hW7 hg7
            refine (unhide HPK).mono ?_; rintro e8 w8 ⟨rfl, m8, rfl⟩
            have S8 := hide ((unhide S7).below (Go.below_drewN (Below.refl _ _) m8))
            obtain ⟨W8, hW8⟩ : ∃ W, W7.drewN m8 = W := ⟨_, rfl⟩
            rw [hW8] at S8 ⊢
            clear hW8 HPK S7 K7
            go_wp2_with fail
            go_loopw [13] (fun v wq => ∃ j : Nat, v = .int .i64 j ∧ x ≤ j ∧ j ≤ x + 1 ∧ CS w B g s ⟨b1, op1, 0, ww2⟩ (fun i => M i || (decide (x ≤ i) && decide (i < j))) true wq) (fun v _ => x + 1 - (intOf v).toNat)
            case atStart => exact ⟨x, rfl, Nat.le_refl _, by omega, (unhide S8).ext (fun i hi => by
              by_cases h1 : x ≤ i
              · rw [decide_eq_false (show ¬ i < x by omega)]; simp
              · rw [decide_eq_false h1]; simp)⟩
            case round =>
              obtain ⟨j, rfl, hj1, hj2, hcs9⟩ := hrel
              have SJ := hide hcs9
              clear hcs9
              obtain ⟨c0, c1, c2, c3, c4⟩ := (unhide SJ).tx.cells
              dsimp only at c0 c1 c2 c3 c4
              by_cases hjl : j ≤ x
              · have hj256 : j < 256 := by omega
                have hmc := (unhide SJ).b4.cellAt j (by omega)
                rw [cellsV_at _ j hj256] at hmc
                have hfz := (unhide SJ).b4.frozenAt j
                have hji : (j : Int) < 256 := by omega
                have hjl2 : (j : Int) ≤ x := by omega
                have S10 := hide (((unhide SJ).mark j true).ext (N := fun i => M i || (decide (x ≤ i) && decide (i < j + 1))) (fun i hi => by
                  by_cases e : i = j
                  · subst e; rw [if_pos rfl, decide_eq_true hj1, decide_eq_true (show i < i + 1 by omega)]; simp
                  · rw [if_neg e]; congr 2; rw [decide_eq_decide]; omega))
                go_wp2_with fail
                exact ⟨⟨j + 1, by go_num, by omega, by omega, unhide S10⟩, by simp [intOf]; omega⟩
              · obtain rfl : j = x + 1 := by omega
                have hjl2 : ¬ (((x + 1 : Nat) : Int) ≤ x) := by omega
                have hjl3 : ¬ (((x : Nat) : Int) + 1 ≤ x) := by omega
                have S13 := hide ((unhide SJ).ext (N := fun i => M i || decide (i = x)) (fun i hi => by exact mark_one M x i))
                go_wp2_with fail
                exact ⟨⟨0 + 1, _, _, by go_num, rfl, unhide HST, unhide S13⟩, by simp [intOf]; try omega⟩
        · dsimp only at he1 hww
          subst he1 hww
          have HST := hide (cls_bad (d := b1) (op' := op1) (N := M) (unhide CL) (by first | exact unhide HCC | exact .inl rfl) (by unfold itemR; rw [hcls, hch]) (by omega))
          have HPK := hide (dpeekQ_any W7 B g s _ (by have := (unhide S7).tx; rwa [hW7] at this) hs (by show b1 ≤ _; omega))
          rw [pk_no (fun h => absurd h.1 (by decide))] at HPK
          rw [hW7] at K7 S7
          rw [hg7] at K7 hgg
          clear hcls hch
          go_wp2_with fail
          clear hW7 hg7
          refine (unhide HPK).mono ?_; rintro e8 w8 ⟨rfl, m8, rfl⟩
          have S8 := hide ((unhide S7).below (Go.below_drewN (Below.refl _ _) m8))
          obtain ⟨W8, hW8⟩ : ∃ W, W7.drewN m8 = W := ⟨_, rfl⟩
          rw [hW8] at S8 ⊢
          clear hW8 HPK S7 K7
          obtain ⟨c0, c1, c2, c3, c4⟩ := (unhide S8).tx.cells
          dsimp only at c0 c1 c2 c3 c4
          go_wp2_with fail
          go_loopw [13] (fun v wq => v = .int .i64 0 ∧ wq = W8) (fun _ _ => 0)
          case atStart => exact ⟨rfl, rfl⟩
          case round =>
            obtain ⟨rfl, rfl⟩ := hrel
            go_wp2_with fail
            exact ⟨⟨0 + 1, _, _, by go_num, rfl, unhide HST, unhide S8⟩, by simp [intOf]; try omega⟩
      · have HPK := hide (dpeekQ_any wr B g s _ (unhide SS).tx hs (by show b ≤ _; omega))
        have hkp : ¬ ((k : Int) = 0) := by omega
        by_cases h93 : pkB s b = 93
        · have hlt := pk_lt (s := s) (a := b) (by rw [h93]; decide)
          rw [pk_yes hlt, h93] at HPK
          have HEND : Hid (openR s (itemR s (tkA s a 94)) = (some M, b)) := hide (by
            rcases hcl with ⟨_, _, _, h4⟩ | ⟨h1, _⟩
            · rcases h4 with ⟨h5, _⟩ | ⟨_, h5⟩
              · exact absurd h5 hk0
              · rw [h5]; exact loopR_end h93
            · exact absurd (show (0 : Int) = 3 from h1) (by decide))
          have HBS : Hid (b ≤ s.size + 20) := hide (by have := unhide HBS0; omega)
          clear h93 hcl CL
          go_wp2_with fail
          refine (unhide HPK).mono ?_; rintro e9 w9 ⟨rfl, m9, rfl⟩
          have S9 := hide ((unhide SS).below (Go.below_drewN (Below.refl _ _) m9))
          obtain ⟨WE, hWE⟩ : ∃ WE, wr.drewN m9 = WE := ⟨_, rfl⟩
          rw [hWE] at S9 ⊢
          clear SS HPK c0 c1 c2 c3 c4 hWE
          obtain ⟨d0, d1, d2, d3, d4⟩ := (unhide S9).tx.cells
          dsimp only at d0 d1 d2 d3 d4
          have HWC := hide (where_c1 #[.pointer (some ⟨w.heap.size + 2, 0, none⟩), .pointer (some ⟨w.heap.size + 1, 0, none⟩)] (fun j => M j != true) WE (fun b W' hb hW' => cc1_any M true b _ _ _ 0 W' hb (own_below (unhide S9).b4 hW') (cell_below (unhide S9).nbc (by have := (unhide S9).b3.lt _ rfl; exact this.2) hW')))
          go_wp2_with fail
          refine (unhide HWC).mono ?_; rintro e5 w5 ⟨⟨qa, qb, qc, qd⟩, rfl, fit, bits, b5⟩
          clear HWC d0 d1 d2 d3 d4
          unfold setV
          have S5 := hide ((unhide S9).below b5)
          have hgg : g < w5.heap.size := (unhide S5).tx.lt.2
          have FT := hide (And.intro fit bits)
          have K6 := hide (World.ownsRow_lit (e := 24) (size := 4) (base := w5.heap.size) w5 #[.int .u64 qa, .int .u64 qb, .int .u64 qc, .int .u64 qd] 1 (Nat.le_refl _) (by unfold maxLen; omega) rfl)
          have bb6 := (Below.refl w5.heap.size w5).alloc (Nat.le_refl _) (.cells #[.int .u64 qa, .int .u64 qb, .int .u64 qc, .int .u64 qd] 24)
          have S6 := hide ((unhide S5).below bb6)
          obtain ⟨g6, hg6⟩ : ∃ g, w5.heap.size = g := ⟨_, rfl⟩
          obtain ⟨W6, hW6⟩ : ∃ W, w5.alloc (.cells #[.int .u64 qa, .int .u64 qb, .int .u64 qc, .int .u64 qd] 24) = W := ⟨_, rfl⟩
          rw [hW6] at K6 S6
          rw [hg6] at K6 hgg
          clear bb6 S5 b5 fit bits
          obtain ⟨n0, n1, n2, n3⟩ := set4 (unhide K6)
          by_cases hz : (⟨qa, qb, qc, qd⟩ : Se) = ⟨0, 0, 0, 0⟩
          · injection hz with z1 z2 z3 z4
            subst z1 z2 z3 z4
            have heq := eqSet 0 0 0 0 0 0 0 0
            rw [decide_eq_true rfl] at heq
            have fr0 := (unhide K6).frozenAt 0
            have fr1 := (unhide K6).frozenAt 1
            have fr2 := (unhide K6).frozenAt 2
            have fr3 := (unhide K6).frozenAt 3
            have hput6 : (((W6.setCell ⟨g6, 0, none⟩ (.int .u64 0)).setCell ⟨g6, 1, none⟩ (.int .u64 0)).setCell ⟨g6, 2, none⟩ (.int .u64 0)).setCell ⟨g6, 3, none⟩ (.int .u64 0) = W6 := by
              rw [← hW6, ← hg6, World.setCell_alloc_new, World.setCell_alloc_new, World.setCell_alloc_new, World.setCell_alloc_new]; rfl
            have HWR := hide (wrong_any W6 B g s _ (unhide S6).tx 3 b)
            rw [show wrongT ⟨b, op', 0, ww1⟩ 3 b = ⟨b, op', 3, b⟩ from if_pos rfl] at HWR
            obtain ⟨d0, d1, d2, d3, d4⟩ := (unhide S6).tx.cells
            dsimp only at d0 d1 d2 d3 d4
            go_wp2_with fail
            clear hW6 hg6 d0 d1 d2 d3 d4 hput6 fr0 fr1 fr2 fr3 n0 n1 n2 n3 heq
            refine (unhide HWR).mono ?_; rintro e7 w7 ⟨rfl, g7, t7⟩
            have S7 := hide ((unhide S6).wrong g7 t7)
            have K7 := hide ((unhide K6).kept g7 (.inr (by simp [Value.ownBlock]; omega)))
            clear g7 t7 HWR S6 K6
            obtain ⟨d0, d1, d2, d3, d4⟩ := (unhide S7).tx.cells
            dsimp only at d0 d1 d2 d3 d4
            have f1 := World.ownsRow.frozenAt (unhide S7).tx 1
            have S8 := hide ((unhide S7).at_ (b + 1))
            obtain ⟨s1, g1⟩ := World.ownsRow.stored (unhide S7).tx 1 (.int .i64 ((b + 1 : Nat) : Int))
            have K8 := hide ((unhide K7).kept g1 (.inr (by simp [Value.ownBlock]; omega)))
            clear s1 g1
            obtain ⟨W8, hW8⟩ : ∃ W, w7.setCell ⟨g, 1, none⟩ (.int .i64 ((b + 1 : Nat) : Int)) = W := ⟨_, rfl⟩
            rw [hW8] at S8 K8
            rw [Int.natCast_add, Int.cast_ofNat_Int] at hW8
            obtain ⟨m0, m1', m2, m3⟩ := set4 (unhide K8)
            obtain ⟨q0, q1, q2, q3, k0, k1, k2, k3⟩ := (unhide S8).zero
            obtain ⟨r1, r2, r3⟩ := (unhide S8).fin ⟨0, 0, 0, 0⟩
            have R := hide (And.intro r1 (And.intro r2 r3))
            clear r1 r2 r3
            go_wp2_with fail
            (try simp only [Exit.inBlock, Exit.then])
            refine bodyPost_ret_by (v := setV ⟨0, 0, 0, 0⟩) ?_ rfl ⟨⟨0, 0, 0, 0⟩, ⟨b + 1, op', 3, b⟩, rfl, (unhide FT).1, ⟨rfl, by have := unhide HBS; show b + 1 ≤ s.size + 21; omega, .inr ⟨b, by unfold itemsR; rw [unhide HNB, unhide HEND]; exact cls_shut0 (unhide FT).2, rfl, rfl⟩⟩, (unhide R).2.1, (unhide R).1⟩
            exact results_cell_q (ty := 24) rfl _ _ w.heap.size _ rfl (unhide R).2.2
          · have heq := eqSet qa qb qc qd 0 0 0 0
            rw [decide_eq_false hz] at heq
            have HZ := hide hz
            clear hz
            obtain ⟨d0, d1, d2, d3, d4⟩ := (unhide S6).tx.cells
            dsimp only at d0 d1 d2 d3 d4
            have f1 := World.ownsRow.frozenAt (unhide S6).tx 1
            have S8 := hide ((unhide S6).at_ (b + 1))
            obtain ⟨s1, g1⟩ := World.ownsRow.stored (unhide S6).tx 1 (.int .i64 ((b + 1 : Nat) : Int))
            have K8 := hide ((unhide K6).kept g1 (.inr (by simp [Value.ownBlock]; omega)))
            clear s1 g1
            obtain ⟨W8, hW8⟩ : ∃ W, W6.setCell ⟨g, 1, none⟩ (.int .i64 ((b + 1 : Nat) : Int)) = W := ⟨_, rfl⟩
            rw [hW8] at S8 K8
            rw [Int.natCast_add, Int.cast_ofNat_Int] at hW8
            obtain ⟨m0, m1', m2, m3⟩ := set4 (unhide K8)
            obtain ⟨q0, q1, q2, q3, k0, k1, k2, k3⟩ := (unhide S8).zero
            obtain ⟨r1, r2, r3⟩ := (unhide S8).fin ⟨qa, qb, qc, qd⟩
            have R := hide (And.intro r1 (And.intro r2 r3))
            clear r1 r2 r3
            go_wp2_with fail
            (try simp only [Exit.inBlock, Exit.then])
            refine bodyPost_ret_by (v := setV ⟨qa, qb, qc, qd⟩) ?_ rfl ⟨⟨qa, qb, qc, qd⟩, ⟨b + 1, op', 0, ww1⟩, rfl, (unhide FT).1, ⟨rfl, by have := unhide HBS; show b + 1 ≤ s.size + 21; omega, .inl ⟨fun j => M j != true, by unfold itemsR; rw [unhide HNB, unhide HEND]; exact cls_shut (unhide FT).1 (unhide FT).2 (unhide HZ), rfl, (unhide FT).2⟩⟩, (unhide R).2.1, (unhide R).1⟩
            exact results_cell_q (ty := 24) rfl _ _ w.heap.size _ rfl (unhide R).2.2
        · have HCC : Hid (k = 0 ∨ pkB s b ≠ 93) := hide (.inr h93)
          have hneq : ∃ r : ByteArray, pk s ⟨b, op', 0, ww1⟩ = r ∧ (r.toList == [93]) = false := by
            by_cases hlt : b < s.size
            · exact ⟨_, pk_yes hlt, one_f h93⟩
            · exact ⟨_, pk_no (fun h => hlt h.2), by rw [Lib.toList_data]; rfl⟩
          obtain ⟨r, hr, hrb⟩ := hneq
          rw [hr] at HPK
          clear hr h93 hcl
          go_wp2_with fail
          refine (unhide HPK).mono ?_; rintro e9 w9 ⟨rfl, m9, rfl⟩
          have SB := hide ((unhide SS).below (Go.below_drewN (Below.refl _ _) m9))
          obtain ⟨WB, hWB⟩ : ∃ WB, wr.drewN m9 = WB := ⟨_, rfl⟩
          rw [hWB] at SB ⊢
          clear SS HPK c0 c1 c2 c3 c4 hWB
          have HIT := hide (ditem_any WB B g s _ (unhide SB).tx hs (by show b ≤ _; omega))
          go_wp2_with fail
          refine (unhide HIT).mono ?_; rintro e6 w6 ⟨lo, ⟨qa, qb, qc, qd⟩, ⟨b1, op1, e1, ww2⟩, rfl, fit, hit, gr6, tx6⟩
          unfold setV
          have S6 := hide ((unhide SB).wrong gr6 tx6)
          obtain ⟨hop1, hle1, _, hcase⟩ := hit
          dsimp only at hop1 hle1
          subst hop1
          replace hcase := hcase rfl
          have FT := hide fit
          have hgg : g < w6.heap.size := (unhide S6).tx.lt.2
          have K7 := hide (World.ownsRow_lit (e := 24) (size := 4) (base := w6.heap.size) w6 #[.int .u64 qa, .int .u64 qb, .int .u64 qc, .int .u64 qd] 1 (Nat.le_refl _) (by unfold maxLen; omega) rfl)
          have bb7 := (Below.refl w6.heap.size w6).alloc (Nat.le_refl _) (.cells #[.int .u64 qa, .int .u64 qb, .int .u64 qc, .int .u64 qd] 24)
          have S7 := hide ((unhide S6).below bb7)
          obtain ⟨g7, hg7⟩ : ∃ g, w6.heap.size = g := ⟨_, rfl⟩
          obtain ⟨W7, hW7⟩ : ∃ W, w6.alloc (.cells #[.int .u64 qa, .int .u64 qb, .int .u64 qc, .int .u64 qd] 24) = W := ⟨_, rfl⟩
          have hge7 : w.heap.size + 3 ≤ g7 := by have h := ((unhide S6).b4.lt (w.heap.size + 2) rfl).2; rw [hg7] at h; omega
          clear bb7 gr6 tx6 fit HIT S6
          rcases hcase with ⟨p, hcls, rfl, bits, he1, hat⟩ | ⟨hcls, x, cc, hch, rfl, he1, hat⟩ | ⟨hcls, cc, hch, rfl, he1, hww⟩
          · dsimp only at he1 hat
            subst he1 hat
            have HST := hide (cls_ok (op' := op1) (ww' := ww2) (unhide CL) (by first | exact unhide HCC | exact .inl rfl) (by unfold itemR; rw [hcls]) rfl)
            have BT := hide bits
            clear hcls bits
            rw [hW7] at K7 S7
            rw [hg7] at K7 hgg
            go_wp2_with fail
            clear hW7 hg7
            go_loopw [9] (fun x wq => ∃ j : Nat, x = .int .i64 j ∧ j ≤ 256 ∧ CS w B g s ⟨b + 2, op1, 0, ww2⟩ (fun i => M i || (decide (i < j) && p i)) true wq ∧ wq.ownsRow (w.heap.size + 3) 24 4 (.slice (some ⟨g7, 0, none⟩) 1 1) 1 [.int .u64 qa, .int .u64 qb, .int .u64 qc, .int .u64 qd]) (fun x _ => 256 - (intOf x).toNat)
            case atStart => exact ⟨0, rfl, by omega, (unhide S7).ext (fun j hj => by simp), own_mono' (unhide K7) hge7⟩
            case round =>
              obtain ⟨j, rfl, hj, hcs7, hk7⟩ := hrel
              have SJ := hide hcs7
              have KJ := hide hk7
              clear hcs7 hk7
              by_cases hjl : j < 256
              · have hmc := (unhide SJ).b4.cellAt j (by omega)
                rw [cellsV_at _ j hjl] at hmc
                have hfz := (unhide SJ).b4.frozenAt j
                have hji : (j : Int) < 256 := by omega
                obtain ⟨v, hv⟩ : ∃ v, M j = v := ⟨_, rfl⟩
                have hv2 : (M j || (decide (j < j) && p j)) = v := by rw [hv]; simp
                rw [hv2] at hmc
                have HV := hide hv
                clear hv hv2
                have S10 := hide (((unhide SJ).mark j (v || p j)).ext (N := fun i => M i || (decide (i < j + 1) && p i)) (fun i hi => by
                  by_cases e : i = j
                  · subst e; rw [if_pos rfl, unhide HV]; simp
                  · rw [if_neg e]; congr 2; rw [decide_eq_decide]; omega))
                cases v with
                | true =>
                  have K10 := hide ((unhide KJ).kept ((unhide SJ).b4.stored j (.bool (true || p j))).2 (.inr (by simp [Value.ownBlock]; omega)))
                  rw [Bool.true_or] at S10 K10
                  go_wp2_with fail
                  exact ⟨⟨j + 1, by go_num, by omega, unhide S10, unhide K10⟩, by simp [intOf]; omega⟩
                | false =>
                  obtain ⟨n0, n1, n2, n3⟩ := set4 (unhide KJ)
                  have HIS := hide (fun W => is_any ⟨qa, qb, qc, qd⟩ j W (unhide FT) hjl)
                  rw [(unhide BT) j hjl] at HIS
                  unfold setV at HIS
                  dsimp only at HIS
                  go_wp2_with fail
                  refine ((unhide HIS) _).mono ?_; rintro e11 w11 ⟨rfl, b11⟩
                  have S11 := hide ((unhide SJ).below b11)
                  have K11 := hide (own_below (unhide KJ) b11)
                  clear b11 S10 n0 n1 n2 n3 hmc hfz SJ KJ
                  have hmc := (unhide S11).b4.cellAt j (by omega)
                  rw [cellsV_at _ j hjl] at hmc
                  have hfz := (unhide S11).b4.frozenAt j
                  have K12 := hide ((unhide K11).kept ((unhide S11).b4.stored j (.bool (p j))).2 (.inr (by simp [Value.ownBlock]; omega)))
                  have S12 := hide (((unhide S11).mark j (p j)).ext (N := fun i => M i || (decide (i < j + 1) && p i)) (fun i hi => by
                    by_cases e : i = j
                    · subst e; rw [if_pos rfl, unhide HV]; simp
                    · rw [if_neg e]; congr 2; rw [decide_eq_decide]; omega))
                  obtain ⟨y, hy⟩ : ∃ y, p j = y := ⟨_, rfl⟩
                  rw [hy] at S12 K12 ⊢
                  clear hy
                  go_wp2_with fail
                  exact ⟨⟨j + 1, by go_num, by omega, unhide S12, unhide K12⟩, by simp [intOf]; omega⟩
              · obtain rfl : j = 256 := by omega
                have S13 := hide ((unhide SJ).ext (N := fun i => M i || p i) (fun i hi => by rw [decide_eq_true hi, Bool.true_and]))
                go_wp2_with fail
                exact ⟨⟨k + 1, _, _, by go_num, rfl, unhide HST, unhide S13⟩, by simp [intOf]; try omega⟩
          · dsimp only at he1 hat
            subst he1 hat
            have hx256 : x < 256 := (charR_le s b (unhide HBS0)).2 x (by rw [hch])
            have hb1s : b1 ≤ s.size := by have := (charR_le s b (unhide HBS0)).1; rw [hch] at this; exact this
            by_cases h45 : pkB s b1 = 45
            · have hlt1 := pk_lt (s := s) (a := b1) (by rw [h45]; decide)
              have hit2 := item_dash hcls hch h45
              have HI2 := hide hit2
              have HPK := hide (dpeekQ_any W7 B g s _ (by have := (unhide S7).tx; rwa [hW7] at this) hs (by show b1 ≤ _; omega))
              rw [pk_yes hlt1, h45] at HPK
              rw [hW7] at K7 S7
              rw [hg7] at K7 hgg
              clear hcls hch h45 hit2
              go_wp2_with fail
              clear hW7 hg7
              refine (unhide HPK).mono ?_; rintro e8 w8 ⟨rfl, m8, rfl⟩
              have S8 := hide ((unhide S7).below (Go.below_drewN (Below.refl _ _) m8))
              obtain ⟨W8, hW8⟩ : ∃ W, W7.drewN m8 = W := ⟨_, rfl⟩
              rw [hW8] at S8 ⊢
              clear hW8 HPK S7 K7
              obtain ⟨c0, c1, c2, c3, c4⟩ := (unhide S8).tx.cells
              dsimp only at c0 c1 c2 c3 c4
              have f1 := World.ownsRow.frozenAt (unhide S8).tx 1
              obtain ⟨bz, hbz⟩ : ∃ z, b1 + 1 = z := ⟨_, rfl⟩
              have HBZ := hide hbz
              have S9 := hide ((unhide S8).at_ bz)
              obtain ⟨W9, hW9⟩ : ∃ W, W8.setCell ⟨g, 1, none⟩ (.int .i64 (bz : Int)) = W := ⟨_, rfl⟩
              rw [hW9] at S9
              rw [show (bz : Int) = (b1 : Int) + 1 by omega] at hW9
              rw [hbz] at HI2
              have hbz201 : bz ≤ s.size := by omega
              clear hbz
              obtain ⟨d0, d1, d2, d3, d4⟩ := (unhide S9).tx.cells
              dsimp only at d0 d1 d2 d3 d4
              obtain ⟨mb, hmb⟩ : ∃ mb, (decide (pkB s bz = 92) && has [100, 119, 115] (pkB s (bz + 1))) = mb := ⟨_, rfl⟩
              have HMB := hide hmb
              clear hmb
              go_upto_region 19 with fail
              go_cut [107] from 26 to 142 (fun v wx => v = .bool mb ∧ CS w B g s ⟨bz, op1, 0, ww2⟩ M true wx)
              case first =>
                clear c0 c1 c2 c3 c4 f1 hW9
                have HPK := hide (fun n => dpeekQ_any (W9.drewN n) B g s _ ((unhide S9).tx.below (Go.below_drewN (Below.refl _ _) n)) hs (by show bz ≤ _; omega))
                by_cases h92 : pkB s bz = 92
                · have hlt2 := pk_lt (s := s) (a := bz) (by rw [h92]; decide)
                  rw [pk_yes hlt2, h92] at HPK
                  by_cases hlt3 : bz + 1 < s.size
                  · obtain ⟨y, hy⟩ : ∃ y, pkB s (bz + 1) = y := ⟨_, rfl⟩
                    have HIN := hide (fun n => in_any y ⟨#[100, 119, 115]⟩ (W9.drewN n) (by decide))
                    have hmy : has [100, 119, 115] y = mb := by rw [← unhide HMB, h92, hy]; simp
                    rw [show has (⟨#[100, 119, 115]⟩ : ByteArray).data.toList y = has [100, 119, 115] y from rfl, hmy] at HIN
                    have hlt4 : (bz : Int) + 1 < s.size := by omega
                    have hw1 : IntKind.i64.wrap ((bz : Int) + 1) = (bz : Int) + 1 := Kb.wr64 _ (by omega) (by omega)
                    have htn : ((bz : Int) + 1).toNat = bz + 1 := by omega
                    have hx3 : ∀ hb : bz + 1 < s.size, s[bz + 1] = y := fun hb => by
                      rw [← hy]; unfold pkB; rw [dif_pos hb]
                    clear h92 hy hmy
                    go_quiet (first | (go_at_call 33; exact Calls.quiet_of ((unhide HPK) _)) | (go_at_call 71; exact Calls.quiet_of_same ((unhide HIN) _)))
                    go_wp2
                    go_meet
                    exact ⟨by first | rfl | simp, (unhide S9).below (Go.below_drewN (Below.refl _ _) _)⟩
                  · have hmbf : mb = false := by rw [← unhide HMB, pkB_end hlt3]; simp [has]
                    subst hmbf
                    have hlt4 : ¬ ((bz : Int) + 1 < s.size) := by omega
                    clear h92
                    go_quiet (first | (go_at_call 33; exact Calls.quiet_of ((unhide HPK) _)))
                    go_wp2
                    go_meet
                    exact ⟨rfl, (unhide S9).below (Go.below_drewN (Below.refl _ _) _)⟩
                · have hneq : ∃ r : ByteArray, pk s ⟨bz, op1, 0, ww2⟩ = r ∧ (r.toList == [92]) = false := by
                    by_cases hlt : bz < s.size
                    · exact ⟨_, pk_yes hlt, one_f h92⟩
                    · exact ⟨_, pk_no (fun h => hlt h.2), by rw [Lib.toList_data]; rfl⟩
                  obtain ⟨r, hr, hrb⟩ := hneq
                  rw [hr] at HPK
                  have hmbf : mb = false := by rw [← unhide HMB, decide_eq_false h92]; rfl
                  subst hmbf
                  clear h92 hr
                  go_quiet (first | (go_at_call 33; exact Calls.quiet_of ((unhide HPK) _)))
                  go_wp2
                  go_meet
                  exact ⟨rfl, (unhide S9).below (Go.below_drewN (Below.refl _ _) _)⟩
              case rest =>
                obtain ⟨rfl, hcsx⟩ := hcut
                have SX := hide hcsx
                clear hcsx c0 c1 c2 c3 c4 d0 d1 d2 d3 d4 f1 hW9 S9 S8
                obtain ⟨c0, c1, c2, c3, c4⟩ := (unhide SX).tx.cells
                dsimp only at c0 c1 c2 c3 c4
                have HCO : Hid (k = 0 ∨ pkB s b ≠ 93) := hide (by first | exact unhide HCC | exact .inl rfl)
                cases mb with
                | true =>
                  have hcr : charR s bz = (none, bz + 1) := by
                    have h := unhide HMB
                    rw [Bool.and_eq_true, decide_eq_true_eq] at h
                    obtain ⟨h1, h2⟩ := h
                    unfold charR
                    rw [if_pos h1]
                    have h3 : pkB s (bz + 1) = 100 ∨ pkB s (bz + 1) = 119 ∨ pkB s (bz + 1) = 115 := by simpa [has] using h2
                    unfold escR
                    rcases h3 with h3 | h3 | h3 <;> (rw [h3]; rfl)
                  have HST := hide (cls_bad (d := bz) (op' := op1) (N := M) (unhide CL) (by first | exact unhide HCO | exact .inl rfl) (show itemR s b = (none, bz + 1) by rw [unhide HI2, hcr]; rfl) (by have := unhide HBZ; omega))
                  obtain ⟨wz, hwz⟩ : ∃ z, bz + 1 = z := ⟨_, rfl⟩
                  have HWR := hide (wrong_any wc B g s _ (unhide SX).tx 3 wz)
                  rw [show wrongT ⟨bz, op1, 0, ww2⟩ 3 wz = ⟨bz, op1, 3, wz⟩ from if_pos rfl, show (wz : Int) = (bz : Int) + 1 by omega] at HWR
                  rw [hwz] at HST
                  clear hcr hwz
                  go_wp2_with fail
                  refine (unhide HWR).mono ?_; rintro e10 w10 ⟨rfl, g10, t10⟩
                  have SW := hide ((unhide SX).wrong g10 t10)
                  obtain ⟨WE, hWE⟩ : ∃ WE, w10 = WE := ⟨_, rfl⟩
                  rw [hWE] at SW ⊢
                  clear g10 t10 HWR SX c0 c1 c2 c3 c4 hWE
                  have HEND : Hid (openR s (itemR s (tkA s a 94)) = (none, wz)) := hide (by
                    rcases unhide HST with ⟨h1, _⟩ | ⟨_, _, _, h4⟩
                    · exact absurd (show (3 : Int) = 0 from h1) (by decide)
                    · exact h4)
                  have HBS : Hid (bz ≤ s.size + 20) := hide (by omega)
                  clear CL HST
                  obtain ⟨d0, d1, d2, d3, d4⟩ := (unhide SW).tx.cells
                  dsimp only at d0 d1 d2 d3 d4
                  have HWC := hide (where_c1 #[.pointer (some ⟨w.heap.size + 2, 0, none⟩), .pointer (some ⟨w.heap.size + 1, 0, none⟩)] (fun j => M j != true) WE (fun bz W' hb hW' => cc1_any M true bz _ _ _ 0 W' hb (own_below (unhide SW).b4 hW') (cell_below (unhide SW).nbc (by have := (unhide SW).b3.lt _ rfl; exact this.2) hW')))
                  go_wp2_with fail
                  refine (unhide HWC).mono ?_; rintro e5 w5 ⟨⟨qa, qb, qc, qd⟩, rfl, fit, bits, b5⟩
                  clear HWC d0 d1 d2 d3 d4
                  unfold setV
                  have S5 := hide ((unhide SW).below b5)
                  have hgg : g < w5.heap.size := (unhide S5).tx.lt.2
                  have FT := hide (And.intro fit bits)
                  have K6 := hide (World.ownsRow_lit (e := 24) (size := 4) (base := w5.heap.size) w5 #[.int .u64 qa, .int .u64 qb, .int .u64 qc, .int .u64 qd] 1 (Nat.le_refl _) (by unfold maxLen; omega) rfl)
                  have bb6 := (Below.refl w5.heap.size w5).alloc (Nat.le_refl _) (.cells #[.int .u64 qa, .int .u64 qb, .int .u64 qc, .int .u64 qd] 24)
                  have S6 := hide ((unhide S5).below bb6)
                  obtain ⟨g6, hg6⟩ : ∃ g, w5.heap.size = g := ⟨_, rfl⟩
                  obtain ⟨W6, hW6⟩ : ∃ W, w5.alloc (.cells #[.int .u64 qa, .int .u64 qb, .int .u64 qc, .int .u64 qd] 24) = W := ⟨_, rfl⟩
                  rw [hW6] at K6 S6
                  rw [hg6] at K6 hgg
                  clear bb6 S5 b5 fit bits
                  obtain ⟨n0, n1, n2, n3⟩ := set4 (unhide K6)
                  by_cases hz : (⟨qa, qb, qc, qd⟩ : Se) = ⟨0, 0, 0, 0⟩
                  · injection hz with z1 z2 z3 z4
                    subst z1 z2 z3 z4
                    have heq := eqSet 0 0 0 0 0 0 0 0
                    rw [decide_eq_true rfl] at heq
                    have fr0 := (unhide K6).frozenAt 0
                    have fr1 := (unhide K6).frozenAt 1
                    have fr2 := (unhide K6).frozenAt 2
                    have fr3 := (unhide K6).frozenAt 3
                    have hput6 : (((W6.setCell ⟨g6, 0, none⟩ (.int .u64 0)).setCell ⟨g6, 1, none⟩ (.int .u64 0)).setCell ⟨g6, 2, none⟩ (.int .u64 0)).setCell ⟨g6, 3, none⟩ (.int .u64 0) = W6 := by
                      rw [← hW6, ← hg6, World.setCell_alloc_new, World.setCell_alloc_new, World.setCell_alloc_new, World.setCell_alloc_new]; rfl
                    have HWR := hide (wrong_any W6 B g s _ (unhide S6).tx 3 bz)
                    rw [show wrongT ⟨bz, op1, 3, wz⟩ 3 bz = ⟨bz, op1, 3, wz⟩ from if_neg (show ¬ (3 : Int) = 0 by decide)] at HWR
                    obtain ⟨d0, d1, d2, d3, d4⟩ := (unhide S6).tx.cells
                    dsimp only at d0 d1 d2 d3 d4
                    go_wp2_with fail
                    clear hW6 hg6 d0 d1 d2 d3 d4 hput6 fr0 fr1 fr2 fr3 n0 n1 n2 n3 heq
                    refine (unhide HWR).mono ?_; rintro e7 w7 ⟨rfl, g7, t7⟩
                    have S7 := hide ((unhide S6).wrong g7 t7)
                    have K7 := hide ((unhide K6).kept g7 (.inr (by simp [Value.ownBlock]; omega)))
                    clear g7 t7 HWR S6 K6
                    obtain ⟨d0, d1, d2, d3, d4⟩ := (unhide S7).tx.cells
                    dsimp only at d0 d1 d2 d3 d4
                    have f1 := World.ownsRow.frozenAt (unhide S7).tx 1
                    have S8 := hide ((unhide S7).at_ (bz + 1))
                    obtain ⟨s1, g1⟩ := World.ownsRow.stored (unhide S7).tx 1 (.int .i64 ((bz + 1 : Nat) : Int))
                    have K8 := hide ((unhide K7).kept g1 (.inr (by simp [Value.ownBlock]; omega)))
                    clear s1 g1
                    obtain ⟨W8, hW8⟩ : ∃ W, w7.setCell ⟨g, 1, none⟩ (.int .i64 ((bz + 1 : Nat) : Int)) = W := ⟨_, rfl⟩
                    rw [hW8] at S8 K8
                    rw [Int.natCast_add, Int.cast_ofNat_Int] at hW8
                    obtain ⟨m0, m1', m2, m3⟩ := set4 (unhide K8)
                    obtain ⟨q0, q1, q2, q3, k0, k1, k2, k3⟩ := (unhide S8).zero
                    obtain ⟨r1, r2, r3⟩ := (unhide S8).fin ⟨0, 0, 0, 0⟩
                    have R := hide (And.intro r1 (And.intro r2 r3))
                    clear r1 r2 r3
                    go_wp2_with fail
                    (try simp only [Exit.inBlock, Exit.then])
                    refine bodyPost_ret_by (v := setV ⟨0, 0, 0, 0⟩) ?_ rfl ⟨⟨0, 0, 0, 0⟩, ⟨bz + 1, op1, 3, wz⟩, rfl, (unhide FT).1, ⟨rfl, by have := unhide HBS; show bz + 1 ≤ s.size + 21; omega, .inr ⟨wz, by unfold itemsR; rw [unhide HEND]; rfl, rfl, rfl⟩⟩, (unhide R).2.1, (unhide R).1⟩
                    exact results_cell_q (ty := 24) rfl _ _ w.heap.size _ rfl (unhide R).2.2
                  · have heq := eqSet qa qb qc qd 0 0 0 0
                    rw [decide_eq_false hz] at heq
                    have HZ := hide hz
                    clear hz
                    obtain ⟨d0, d1, d2, d3, d4⟩ := (unhide S6).tx.cells
                    dsimp only at d0 d1 d2 d3 d4
                    have f1 := World.ownsRow.frozenAt (unhide S6).tx 1
                    have S8 := hide ((unhide S6).at_ (bz + 1))
                    obtain ⟨s1, g1⟩ := World.ownsRow.stored (unhide S6).tx 1 (.int .i64 ((bz + 1 : Nat) : Int))
                    have K8 := hide ((unhide K6).kept g1 (.inr (by simp [Value.ownBlock]; omega)))
                    clear s1 g1
                    obtain ⟨W8, hW8⟩ : ∃ W, W6.setCell ⟨g, 1, none⟩ (.int .i64 ((bz + 1 : Nat) : Int)) = W := ⟨_, rfl⟩
                    rw [hW8] at S8 K8
                    rw [Int.natCast_add, Int.cast_ofNat_Int] at hW8
                    obtain ⟨m0, m1', m2, m3⟩ := set4 (unhide K8)
                    obtain ⟨q0, q1, q2, q3, k0, k1, k2, k3⟩ := (unhide S8).zero
                    obtain ⟨r1, r2, r3⟩ := (unhide S8).fin ⟨qa, qb, qc, qd⟩
                    have R := hide (And.intro r1 (And.intro r2 r3))
                    clear r1 r2 r3
                    go_wp2_with fail
                    (try simp only [Exit.inBlock, Exit.then])
                    refine bodyPost_ret_by (v := setV ⟨qa, qb, qc, qd⟩) ?_ rfl ⟨⟨qa, qb, qc, qd⟩, ⟨bz + 1, op1, 3, wz⟩, rfl, (unhide FT).1, ⟨rfl, by have := unhide HBS; show bz + 1 ≤ s.size + 21; omega, .inr ⟨wz, by unfold itemsR; rw [unhide HEND]; rfl, rfl, rfl⟩⟩, (unhide R).2.1, (unhide R).1⟩
                    exact results_cell_q (ty := 24) rfl _ _ w.heap.size _ rfl (unhide R).2.2
                | false =>
                  have hcn : clsP s bz = none := by
                    have h := unhide HMB
                    cases hc : clsP s bz with
                    | none => rfl
                    | some p =>
                      exfalso
                      unfold clsP at hc
                      by_cases h1 : pkB s bz = 92
                      · rw [if_pos h1] at hc
                        rw [h1, decide_eq_true rfl, Bool.true_and] at h
                        have h2 : ¬ (pkB s (bz + 1) = 100 ∨ pkB s (bz + 1) = 119 ∨ pkB s (bz + 1) = 115) := by
                          intro h3
                          have : has [100, 119, 115] (pkB s (bz + 1)) = true := by simpa [has] using h3
                          rw [this] at h; cases h
                        rw [if_neg (fun e => h2 (.inl e)), if_neg (fun e => h2 (.inr (.inl e))), if_neg (fun e => h2 (.inr (.inr e)))] at hc
                        cases hc
                      · rw [if_neg h1] at hc; cases hc
                  have HIT2 := hide (ditem_any wc B g s _ (unhide SX).tx hs (by show bz ≤ _; omega))
                  go_wp2_with fail
                  refine (unhide HIT2).mono ?_; rintro e10 w10 ⟨lo2, ⟨ta, tb, tc, td⟩, ⟨b2, op2, e2, ww3⟩, rfl, fit2, hit2, gr2, tx2⟩
                  unfold setV
                  have SY := hide ((unhide SX).wrong gr2 tx2)
                  obtain ⟨hop2, hle2, _, hcase2⟩ := hit2
                  dsimp only at hop2 hle2
                  subst hop2
                  replace hcase2 := hcase2 rfl
                  clear gr2 tx2 fit2 HIT2 SX c0 c1 c2 c3 c4
                  rcases hcase2 with ⟨p, hcls2, _⟩ | ⟨_, y, cc, hch2, rfl, he2, hat2⟩ | ⟨_, cc, hch2, rfl, he2, hww2⟩
                  · dsimp only at hcls2; rw [hcn] at hcls2; cases hcls2
                  · dsimp only at he2 hat2 hch2
                    subst he2 hat2
                    have hy256 : y < 256 := (charR_le s bz (by omega)).2 y (by rw [hch2])
                    obtain ⟨c0, c1, c2, c3, c4⟩ := (unhide SY).tx.cells
                    dsimp only at c0 c1 c2 c3 c4
                    by_cases hyx : y < x
                    · have HST := hide (cls_bad (d := b2) (op' := op2) (N := M) (unhide CL) (by first | exact unhide HCO | exact .inl rfl) (show itemR s b = (none, bz) by rw [unhide HI2, hch2]; exact if_pos hyx) (by have := unhide HBZ; omega))
                      have HWR := hide (wrong_any w10 B g s _ (unhide SY).tx 3 bz)
                      rw [show wrongT ⟨b2, op2, 0, ww3⟩ 3 bz = ⟨b2, op2, 3, bz⟩ from if_pos rfl] at HWR
                      have hlt : (y : Int) < x := by omega
                      clear hch2
                      go_wp2_with fail
                      refine (unhide HWR).mono ?_; rintro e12 w12 ⟨rfl, g12, t12⟩
                      have SW := hide ((unhide SY).wrong g12 t12)
                      clear g12 t12 HWR SY c0 c1 c2 c3 c4
                      obtain ⟨c0, c1, c2, c3, c4⟩ := (unhide SW).tx.cells
                      dsimp only at c0 c1 c2 c3 c4
                      have hnot : ¬ ((x : Int) ≤ y) := by omega
                      go_wp2_with fail
                      go_loopw [13] (fun v wq => v = .int .i64 x ∧ wq = w12) (fun _ _ => 0)
                      case atStart => exact ⟨rfl, rfl⟩
                      case round =>
                        obtain ⟨rfl, rfl⟩ := hrel
                        go_wp2_with fail
                        exact ⟨⟨k + 1, _, _, by go_num, rfl, unhide HST, unhide SW⟩, by simp [intOf]; try omega⟩
                    · have HST := hide (cls_ok (op' := op2) (ww' := ww3) (unhide CL) (by first | exact unhide HCO | exact .inl rfl) (show itemR s b = (some (betw x y), b2) by rw [unhide HI2, hch2]; exact if_neg hyx) rfl)
                      have hnlt : ¬ ((y : Int) < x) := by omega
                      clear hch2
                      go_wp2_with fail
                      go_loopw [13] (fun v wq => ∃ j : Nat, v = .int .i64 j ∧ x ≤ j ∧ j ≤ y + 1 ∧ CS w B g s ⟨b2, op2, 0, ww3⟩ (fun i => M i || (decide (x ≤ i) && decide (i < j))) true wq) (fun v _ => y + 1 - (intOf v).toNat)
                      case atStart => exact ⟨x, rfl, Nat.le_refl _, by omega, (unhide SY).ext (fun i hi => by
                        by_cases h1 : x ≤ i
                        · rw [decide_eq_false (show ¬ i < x by omega)]; simp
                        · rw [decide_eq_false h1]; simp)⟩
                      case round =>
                        obtain ⟨j, rfl, hj1, hj2, hcs9⟩ := hrel
                        have SJ := hide hcs9
                        clear hcs9
                        obtain ⟨c0, c1, c2, c3, c4⟩ := (unhide SJ).tx.cells
                        dsimp only at c0 c1 c2 c3 c4
                        by_cases hjl : j ≤ y
                        · have hj256 : j < 256 := by omega
                          have hmc := (unhide SJ).b4.cellAt j (by omega)
                          rw [cellsV_at _ j hj256] at hmc
                          have hfz := (unhide SJ).b4.frozenAt j
                          have hji : (j : Int) < 256 := by omega
                          have hjl2 : (j : Int) ≤ y := by omega
                          have S10 := hide (((unhide SJ).mark j true).ext (N := fun i => M i || (decide (x ≤ i) && decide (i < j + 1))) (fun i hi => by
                            by_cases e : i = j
                            · subst e; rw [if_pos rfl, decide_eq_true hj1, decide_eq_true (show i < i + 1 by omega)]; simp
                            · rw [if_neg e]; congr 2; rw [decide_eq_decide]; omega))
                          go_wp2_with fail
                          exact ⟨⟨j + 1, by go_num, by omega, by omega, unhide S10⟩, by simp [intOf]; omega⟩
                        · obtain rfl : j = y + 1 := by omega
                          have hjl2 : ¬ (((y + 1 : Nat) : Int) ≤ y) := by omega
                          have hjl3 : ¬ (((y : Nat) : Int) + 1 ≤ y) := by omega
                          have S13 := hide ((unhide SJ).ext (N := fun i => M i || betw x y i) (fun i hi => by exact mark_rng M x y i))
                          go_wp2_with fail
                          exact ⟨⟨k + 1, _, _, by go_num, rfl, unhide HST, unhide S13⟩, by simp [intOf]; try omega⟩
                  · dsimp only at he2 hww2 hch2
                    subst he2 hww2
                    obtain ⟨c0, c1, c2, c3, c4⟩ := (unhide SY).tx.cells
                    dsimp only at c0 c1 c2 c3 c4
                    have HST := hide (cls_bad (d := b2) (op' := op2) (N := M) (unhide CL) (by first | exact unhide HCO | exact .inl rfl) (show itemR s b = (none, ww3) by rw [unhide HI2, hch2]; rfl) (by have := unhide HBZ; omega))
                    clear hch2
                    by_cases hx0 : 0 < x
                    · have HWR := hide (wrong_any w10 B g s _ (unhide SY).tx 3 bz)
                      rw [show wrongT ⟨b2, op2, 3, ww3⟩ 3 bz = ⟨b2, op2, 3, ww3⟩ from if_neg (show ¬ (3 : Int) = 0 by decide)] at HWR
                      have hlt : (0 : Int) < x := by omega
                      go_wp2_with fail
                      refine (unhide HWR).mono ?_; rintro e12 w12 ⟨rfl, g12, t12⟩
                      have SW := hide ((unhide SY).wrong g12 t12)
                      clear g12 t12 HWR SY c0 c1 c2 c3 c4
                      obtain ⟨c0, c1, c2, c3, c4⟩ := (unhide SW).tx.cells
                      dsimp only at c0 c1 c2 c3 c4
                      have hnot : ¬ ((x : Int) ≤ 0) := by omega
                      go_wp2_with fail
                      go_loopw [13] (fun v wq => v = .int .i64 x ∧ wq = w12) (fun _ _ => 0)
                      case atStart => exact ⟨rfl, rfl⟩
                      case round =>
                        obtain ⟨rfl, rfl⟩ := hrel
                        go_wp2_with fail
                        exact ⟨⟨k + 1, _, _, by go_num, rfl, unhide HST, unhide SW⟩, by simp [intOf]; try omega⟩
                    · obtain rfl : x = 0 := by omega
                      go_wp2_with fail
                      go_loopw [13] (fun v wq => v = .int .i64 0 ∧ wq = w10) (fun _ _ => 0)
                      case atStart => exact ⟨rfl, rfl⟩
                      case round =>
                        obtain ⟨rfl, rfl⟩ := hrel
                        go_wp2_with fail
                        exact ⟨⟨k + 1, _, _, by go_num, rfl, unhide HST, unhide SY⟩, by simp [intOf]; try omega⟩
            · have HST := hide (cls_ok (op' := op1) (ww' := ww2) (unhide CL) (by first | exact unhide HCC | exact .inl rfl) (show itemR s b = (some (fun j => decide (j = x)), b1) by unfold itemR; rw [hcls, hch]; dsimp only; rw [if_neg h45]) rfl)
              have hneq : ∃ r : ByteArray, pk s ⟨b1, op1, 0, ww2⟩ = r ∧ (r.toList == [45]) = false := by
                by_cases hlt : b1 < s.size
                · exact ⟨_, pk_yes hlt, one_f h45⟩
                · exact ⟨_, pk_no (fun h => hlt h.2), by rw [Lib.toList_data]; rfl⟩
              obtain ⟨r, hr, hrb⟩ := hneq
              have HPK := hide (dpeekQ_any W7 B g s _ (by have := (unhide S7).tx; rwa [hW7] at this) hs (by show b1 ≤ _; omega))
              rw [hr] at HPK
              rw [hW7] at K7 S7
              rw [hg7] at K7 hgg
              clear hcls hch hr h45
              go_wp2_with fail
              clear hW7 hg7
              refine (unhide HPK).mono ?_; rintro e8 w8 ⟨rfl, m8, rfl⟩
              have S8 := hide ((unhide S7).below (Go.below_drewN (Below.refl _ _) m8))
              obtain ⟨W8, hW8⟩ : ∃ W, W7.drewN m8 = W := ⟨_, rfl⟩
              rw [hW8] at S8 ⊢
              clear hW8 HPK S7 K7
              go_wp2_with fail
              go_loopw [13] (fun v wq => ∃ j : Nat, v = .int .i64 j ∧ x ≤ j ∧ j ≤ x + 1 ∧ CS w B g s ⟨b1, op1, 0, ww2⟩ (fun i => M i || (decide (x ≤ i) && decide (i < j))) true wq) (fun v _ => x + 1 - (intOf v).toNat)
              case atStart => exact ⟨x, rfl, Nat.le_refl _, by omega, (unhide S8).ext (fun i hi => by
                by_cases h1 : x ≤ i
                · rw [decide_eq_false (show ¬ i < x by omega)]; simp
                · rw [decide_eq_false h1]; simp)⟩
              case round =>
                obtain ⟨j, rfl, hj1, hj2, hcs9⟩ := hrel
                have SJ := hide hcs9
                clear hcs9
                obtain ⟨c0, c1, c2, c3, c4⟩ := (unhide SJ).tx.cells
                dsimp only at c0 c1 c2 c3 c4
                by_cases hjl : j ≤ x
                · have hj256 : j < 256 := by omega
                  have hmc := (unhide SJ).b4.cellAt j (by omega)
                  rw [cellsV_at _ j hj256] at hmc
                  have hfz := (unhide SJ).b4.frozenAt j
                  have hji : (j : Int) < 256 := by omega
                  have hjl2 : (j : Int) ≤ x := by omega
                  have S10 := hide (((unhide SJ).mark j true).ext (N := fun i => M i || (decide (x ≤ i) && decide (i < j + 1))) (fun i hi => by
                    by_cases e : i = j
                    · subst e; rw [if_pos rfl, decide_eq_true hj1, decide_eq_true (show i < i + 1 by omega)]; simp
                    · rw [if_neg e]; congr 2; rw [decide_eq_decide]; omega))
                  go_wp2_with fail
                  exact ⟨⟨j + 1, by go_num, by omega, by omega, unhide S10⟩, by simp [intOf]; omega⟩
                · obtain rfl : j = x + 1 := by omega
                  have hjl2 : ¬ (((x + 1 : Nat) : Int) ≤ x) := by omega
                  have hjl3 : ¬ (((x : Nat) : Int) + 1 ≤ x) := by omega
                  have S13 := hide ((unhide SJ).ext (N := fun i => M i || decide (i = x)) (fun i hi => by exact mark_one M x i))
                  go_wp2_with fail
                  exact ⟨⟨k + 1, _, _, by go_num, rfl, unhide HST, unhide S13⟩, by simp [intOf]; try omega⟩
          · dsimp only at he1 hww
            subst he1 hww
            have HST := hide (cls_bad (d := b1) (op' := op1) (N := M) (unhide CL) (by first | exact unhide HCC | exact .inl rfl) (by unfold itemR; rw [hcls, hch]) (by omega))
            have HPK := hide (dpeekQ_any W7 B g s _ (by have := (unhide S7).tx; rwa [hW7] at this) hs (by show b1 ≤ _; omega))
            rw [pk_no (fun h => absurd h.1 (by decide))] at HPK
            rw [hW7] at K7 S7
            rw [hg7] at K7 hgg
            clear hcls hch
            go_wp2_with fail
            clear hW7 hg7
            refine (unhide HPK).mono ?_; rintro e8 w8 ⟨rfl, m8, rfl⟩
            have S8 := hide ((unhide S7).below (Go.below_drewN (Below.refl _ _) m8))
            obtain ⟨W8, hW8⟩ : ∃ W, W7.drewN m8 = W := ⟨_, rfl⟩
            rw [hW8] at S8 ⊢
            clear hW8 HPK S7 K7
            obtain ⟨c0, c1, c2, c3, c4⟩ := (unhide S8).tx.cells
            dsimp only at c0 c1 c2 c3 c4
            go_wp2_with fail
            go_loopw [13] (fun v wq => v = .int .i64 0 ∧ wq = W8) (fun _ _ => 0)
            case atStart => exact ⟨rfl, rfl⟩
            case round =>
              obtain ⟨rfl, rfl⟩ := hrel
              go_wp2_with fail
              exact ⟨⟨k + 1, _, _, by go_num, rfl, unhide HST, unhide S8⟩, by simp [intOf]; try omega⟩
    · have he3 : e = 3 := by
        rcases hcl with ⟨h1, _⟩ | ⟨h1, _⟩
        · exact absurd h1 he
        · exact h1
      subst he3
      obtain ⟨WE, hWE⟩ : ∃ WE, wr = WE := ⟨_, rfl⟩
      rw [hWE] at SS c0 c1 c2 c3 c4 ⊢
      have HEND : Hid (openR s (itemR s (tkA s a 94)) = (none, ww1)) := hide (by
        rcases hcl with ⟨h1, _⟩ | ⟨_, _, _, h4⟩
        · exact absurd (show (3 : Int) = 0 from h1) (by decide)
        · exact h4)
      have HBS : Hid (b ≤ s.size + 20) := hide (by
        rcases hcl with ⟨h1, _⟩ | ⟨_, _, h3, _⟩
        · exact absurd (show (3 : Int) = 0 from h1) (by decide)
        · exact h3)
      clear c1 c2 c4 hcl CL
      obtain ⟨d0, d1, d2, d3, d4⟩ := (unhide SS).tx.cells
      dsimp only at d0 d1 d2 d3 d4
      have HWC := hide (where_c1 #[.pointer (some ⟨w.heap.size + 2, 0, none⟩), .pointer (some ⟨w.heap.size + 1, 0, none⟩)] (fun j => M j != true) WE (fun b W' hb hW' => cc1_any M true b _ _ _ 0 W' hb (own_below (unhide SS).b4 hW') (cell_below (unhide SS).nbc (by have := (unhide SS).b3.lt _ rfl; exact this.2) hW')))
      go_wp2_with fail
      refine (unhide HWC).mono ?_; rintro e5 w5 ⟨⟨qa, qb, qc, qd⟩, rfl, fit, bits, b5⟩
      clear HWC d0 d1 d2 d3 d4
      unfold setV
      have S5 := hide ((unhide SS).below b5)
      have hgg : g < w5.heap.size := (unhide S5).tx.lt.2
      have FT := hide (And.intro fit bits)
      have K6 := hide (World.ownsRow_lit (e := 24) (size := 4) (base := w5.heap.size) w5 #[.int .u64 qa, .int .u64 qb, .int .u64 qc, .int .u64 qd] 1 (Nat.le_refl _) (by unfold maxLen; omega) rfl)
      have bb6 := (Below.refl w5.heap.size w5).alloc (Nat.le_refl _) (.cells #[.int .u64 qa, .int .u64 qb, .int .u64 qc, .int .u64 qd] 24)
      have S6 := hide ((unhide S5).below bb6)
      obtain ⟨g6, hg6⟩ : ∃ g, w5.heap.size = g := ⟨_, rfl⟩
      obtain ⟨W6, hW6⟩ : ∃ W, w5.alloc (.cells #[.int .u64 qa, .int .u64 qb, .int .u64 qc, .int .u64 qd] 24) = W := ⟨_, rfl⟩
      rw [hW6] at K6 S6
      rw [hg6] at K6 hgg
      clear bb6 S5 b5 fit bits
      obtain ⟨n0, n1, n2, n3⟩ := set4 (unhide K6)
      by_cases hz : (⟨qa, qb, qc, qd⟩ : Se) = ⟨0, 0, 0, 0⟩
      · injection hz with z1 z2 z3 z4
        subst z1 z2 z3 z4
        have heq := eqSet 0 0 0 0 0 0 0 0
        rw [decide_eq_true rfl] at heq
        have fr0 := (unhide K6).frozenAt 0
        have fr1 := (unhide K6).frozenAt 1
        have fr2 := (unhide K6).frozenAt 2
        have fr3 := (unhide K6).frozenAt 3
        have hput6 : (((W6.setCell ⟨g6, 0, none⟩ (.int .u64 0)).setCell ⟨g6, 1, none⟩ (.int .u64 0)).setCell ⟨g6, 2, none⟩ (.int .u64 0)).setCell ⟨g6, 3, none⟩ (.int .u64 0) = W6 := by
          rw [← hW6, ← hg6, World.setCell_alloc_new, World.setCell_alloc_new, World.setCell_alloc_new, World.setCell_alloc_new]; rfl
        have HWR := hide (wrong_any W6 B g s _ (unhide S6).tx 3 b)
        rw [show wrongT ⟨b, op', 3, ww1⟩ 3 b = ⟨b, op', 3, ww1⟩ from if_neg (show ¬ (3 : Int) = 0 by decide)] at HWR
        obtain ⟨d0, d1, d2, d3, d4⟩ := (unhide S6).tx.cells
        dsimp only at d0 d1 d2 d3 d4
        go_wp2_with fail
        clear hW6 hg6 d0 d1 d2 d3 d4 hput6 fr0 fr1 fr2 fr3 n0 n1 n2 n3 heq
        refine (unhide HWR).mono ?_; rintro e7 w7 ⟨rfl, g7, t7⟩
        have S7 := hide ((unhide S6).wrong g7 t7)
        have K7 := hide ((unhide K6).kept g7 (.inr (by simp [Value.ownBlock]; omega)))
        clear g7 t7 HWR S6 K6
        obtain ⟨d0, d1, d2, d3, d4⟩ := (unhide S7).tx.cells
        dsimp only at d0 d1 d2 d3 d4
        have f1 := World.ownsRow.frozenAt (unhide S7).tx 1
        have S8 := hide ((unhide S7).at_ (b + 1))
        obtain ⟨s1, g1⟩ := World.ownsRow.stored (unhide S7).tx 1 (.int .i64 ((b + 1 : Nat) : Int))
        have K8 := hide ((unhide K7).kept g1 (.inr (by simp [Value.ownBlock]; omega)))
        clear s1 g1
        obtain ⟨W8, hW8⟩ : ∃ W, w7.setCell ⟨g, 1, none⟩ (.int .i64 ((b + 1 : Nat) : Int)) = W := ⟨_, rfl⟩
        rw [hW8] at S8 K8
        rw [Int.natCast_add, Int.cast_ofNat_Int] at hW8
        obtain ⟨m0, m1', m2, m3⟩ := set4 (unhide K8)
        obtain ⟨q0, q1, q2, q3, k0, k1, k2, k3⟩ := (unhide S8).zero
        obtain ⟨r1, r2, r3⟩ := (unhide S8).fin ⟨0, 0, 0, 0⟩
        have R := hide (And.intro r1 (And.intro r2 r3))
        clear r1 r2 r3
        go_wp2_with fail
        (try simp only [Exit.inBlock, Exit.then])
        refine bodyPost_ret_by (v := setV ⟨0, 0, 0, 0⟩) ?_ rfl ⟨⟨0, 0, 0, 0⟩, ⟨b + 1, op', 3, ww1⟩, rfl, (unhide FT).1, ⟨rfl, by have := unhide HBS; show b + 1 ≤ s.size + 21; omega, .inr ⟨ww1, by unfold itemsR; rw [unhide HEND]; rfl, rfl, rfl⟩⟩, (unhide R).2.1, (unhide R).1⟩
        exact results_cell_q (ty := 24) rfl _ _ w.heap.size _ rfl (unhide R).2.2
      · have heq := eqSet qa qb qc qd 0 0 0 0
        rw [decide_eq_false hz] at heq
        have HZ := hide hz
        clear hz
        obtain ⟨d0, d1, d2, d3, d4⟩ := (unhide S6).tx.cells
        dsimp only at d0 d1 d2 d3 d4
        have f1 := World.ownsRow.frozenAt (unhide S6).tx 1
        have S8 := hide ((unhide S6).at_ (b + 1))
        obtain ⟨s1, g1⟩ := World.ownsRow.stored (unhide S6).tx 1 (.int .i64 ((b + 1 : Nat) : Int))
        have K8 := hide ((unhide K6).kept g1 (.inr (by simp [Value.ownBlock]; omega)))
        clear s1 g1
        obtain ⟨W8, hW8⟩ : ∃ W, W6.setCell ⟨g, 1, none⟩ (.int .i64 ((b + 1 : Nat) : Int)) = W := ⟨_, rfl⟩
        rw [hW8] at S8 K8
        rw [Int.natCast_add, Int.cast_ofNat_Int] at hW8
        obtain ⟨m0, m1', m2, m3⟩ := set4 (unhide K8)
        obtain ⟨q0, q1, q2, q3, k0, k1, k2, k3⟩ := (unhide S8).zero
        obtain ⟨r1, r2, r3⟩ := (unhide S8).fin ⟨qa, qb, qc, qd⟩
        have R := hide (And.intro r1 (And.intro r2 r3))
        clear r1 r2 r3
        go_wp2_with fail
        (try simp only [Exit.inBlock, Exit.then])
        refine bodyPost_ret_by (v := setV ⟨qa, qb, qc, qd⟩) ?_ rfl ⟨⟨qa, qb, qc, qd⟩, ⟨b + 1, op', 3, ww1⟩, rfl, (unhide FT).1, ⟨rfl, by have := unhide HBS; show b + 1 ≤ s.size + 21; omega, .inr ⟨ww1, by unfold itemsR; rw [unhide HEND]; rfl, rfl, rfl⟩⟩, (unhide R).2.1, (unhide R).1⟩
        exact results_cell_q (ty := 24) rfl _ _ w.heap.size _ rfl (unhide R).2.2
end Go.Proofs.Ytjecopdbcaojcaa
