/- The document's Ranges. -/
import Derived.Test.YtloidooaebhliaaDoorSu
import Derived.Test.YtloidooaebhliaaDoorNg
import Derived.Test.YtloidooaebhliaaDoorNi
import Derived.Test.YtloidooaebhliaaDoorSs
namespace Go.Proofs.YtloidooaebhliaaDoor
open Go.RowKit Kb
set_option linter.unusedVariables false
set_option maxRecDepth 20000

theorem marks_new (W : World) (B : Nat) (hB : B ≤ W.heap.size) : (W.alloc (.cells Tryd.zeroCells54 54)).ownsRow B 54 256 (.slice (some ⟨W.heap.size, 0, none⟩) 1 1) 1 (cellsB fun _ => false) := by
  have h := World.ownsRow_lit (e := 54) (size := 256) (base := B) W Tryd.zeroCells54 1 hB (by unfold maxLen; omega) (by kernel_rfl)
  have e : Tryd.zeroCells54.toList = cellsB (fun _ => false) := by kernel_rfl
  rw [e] at h; exact h
def putW (w : World) (g : Nat) (s : Se) : World := (((w.setCell ⟨g, 0, none⟩ (.int .u64 s.a)).setCell ⟨g, 1, none⟩ (.int .u64 s.b)).setCell ⟨g, 2, none⟩ (.int .u64 s.c)).setCell ⟨g, 3, none⟩ (.int .u64 s.d)
theorem putW_own {w : World} {base g : Nat} {a b c d : Value} (h : w.ownsRow base 24 4 (.slice (some ⟨g, 0, none⟩) 1 1) 1 [a, b, c, d]) (s : Se) :
    (putW w g s).ownsRow base 24 4 (.slice (some ⟨g, 0, none⟩) 1 1) 1 [.int .u64 s.a, .int .u64 s.b, .int .u64 s.c, .int .u64 s.d] ∧ w.grownBy (putW w g s) (some g) := by
  obtain ⟨v0, m0⟩ := World.ownsRow.stored h 0 (.int .u64 s.a)
  obtain ⟨v1, m1⟩ := v0.stored 1 (.int .u64 s.b)
  obtain ⟨v2, m2⟩ := v1.stored 2 (.int .u64 s.c)
  obtain ⟨v3, m3⟩ := v2.stored 3 (.int .u64 s.d)
  exact ⟨v3, ((m0.trans m1).trans m2).trans m3⟩
theorem putW_load {w : World} {base g : Nat} {a b c d : Value} (h : w.ownsRow base 24 4 (.slice (some ⟨g, 0, none⟩) 1 1) 1 [a, b, c, d]) (s : Se) :
    (loadVar 24 ⟨g, 0, none⟩).run Tryd.prog (putW w g s) = .ok (setV s) (putW w g s) := by
  obtain ⟨fr, hh⟩ := own_one' (putW_own h s).1
  exact run_loadVar_row (putW w g s) g 24 24 #[.int .u64 s.a, .int .u64 s.b, .int .u64 s.c, .int .u64 s.d] fr _ hh Tryd.underlying24 rfl (by kernel_rfl)
theorem hits_snoc (cs : List (List UInt8)) (k : Nat) (p : List UInt8) (h : cs[k]? = some p) (j : Nat) : (cs.take (k + 1)).any (Nt.hits · j) = ((cs.take k).any (Nt.hits · j) || Nt.hits p j) := by
  rw [List.take_add_one, h, List.any_append]; simp
set_option maxHeartbeats 4000000 in
theorem rranges_any (s : ByteArray) (w : World) (hs : s.size ≤ 4294960000) (cs : List (List UInt8)) (hcs : Cs.cut 44 s.data.toList = cs) :
    Calls Tryd.prog 9 #[.string s] w fun e w' => ((∃ q, e = .returned (.tuple #[setV q, .int .i64 0]) ∧ FitS q ∧ (∀ x ∈ cs, (Nt.rng x).isSome = true) ∧ ∀ j, j < 256 → bit q j = cs.any (Nt.hits · j)) ∨ (e = .returned (.tuple #[setV ⟨0, 0, 0, 0⟩, .int .i64 3]) ∧ ∃ x ∈ cs, Nt.rng x = none)) ∧ Below w.heap.size w w' := by
  have H2 := hide (fun w => rpieces_any_c 44 s w hs)
  have hdr : ∀ p ∈ Cs.cut 44 s.data.toList, p.length ≤ s.size := fun p hp => by
    have h1 := Cs.wt_cut 44 s.data.toList
    have h2 := wt_mem hp
    rw [len_data] at h1; omega
  have hpos : 0 < cs.length := by rw [← hcs]; exact List.length_pos_iff.2 (Cs.cut_ne 44 _)
  have hb : cs.length ≤ s.size + 1 := by
    have := Cp.len_wt (Cs.cut 44 s.data.toList); rw [Cs.wt_cut, hcs, len_data] at this; exact this
  rw [hcs] at H2 hdr
  clear hcs
  have HD := hide hdr
  clear hdr
  go_enter Tryd.func9, Tryd.ntmps9
  go_wp2_with fail
  refine ((unhide H2) _).mono ?_; rintro e w1 ⟨v, rfl, own1, b1⟩
  obtain ⟨g9, c9, rfl, hc9⟩ := own_form own1 hpos
  have HB1 := hide b1
  have O1 := hide own1
  have hg1 := own1.lt g9 rfl
  clear own1 b1 H2
  have MK0 := marks_new (w.alloc (.cells #[.int .u64 0, .int .u64 0, .int .u64 0, .int .u64 0] 24)) w.heap.size (by simp)
  have hs1 : (w.alloc (.cells #[.int .u64 0, .int .u64 0, .int .u64 0, .int .u64 0] 24)).heap.size = w.heap.size + 1 := by simp
  rw [hs1] at MK0
  have BXA := own_below (World.ownsRow_lit (e := 24) (size := 4) (base := w.heap.size) w #[.int .u64 0, .int .u64 0, .int .u64 0, .int .u64 0] 1 (Nat.le_refl _) (by unfold maxLen; omega) rfl) ((Below.refl _ _).alloc (Nat.le_refl _) (.cells Tryd.zeroCells54 54))
  have BW0 : Below w.heap.size w ((w.alloc (.cells #[.int .u64 0, .int .u64 0, .int .u64 0, .int .u64 0] 24)).alloc (.cells Tryd.zeroCells54 54)) := ((Below.refl _ _).alloc (Nat.le_refl _) _).alloc (by simp) _
  have hsW : ((w.alloc (.cells #[.int .u64 0, .int .u64 0, .int .u64 0, .int .u64 0] 24)).alloc (.cells Tryd.zeroCells54 54)).heap.size = w.heap.size + 2 := by simp
  obtain ⟨WA, hWA⟩ : ∃ W, ((w.alloc (.cells #[.int .u64 0, .int .u64 0, .int .u64 0, .int .u64 0] 24)).alloc (.cells Tryd.zeroCells54 54)) = W := ⟨_, rfl⟩
  rw [hWA] at MK0 BW0 hsW HB1 O1 hg1 BXA
  have MK1 := hide (own_below MK0 (unhide HB1))
  have B1 := hide (bel_trans BW0 (unhide HB1))
  have HC1 : Hid (∀ j p, cs[j]? = some p → w1.cell? ⟨g9, j, none⟩ = some (.string (mk p))) := hide (by
    intro j p hp
    have hj := (List.getElem?_eq_some_iff.1 hp).1
    rw [(unhide O1).cellAt j (by omega), cellsS, List.getElem?_map, hp]; rfl)
  have hg9 : w.heap.size + 2 ≤ g9 ∧ g9 < w1.heap.size := by omega
  have BX1 := hide (own_below BXA (unhide HB1))
  have HBX : Hid (∀ W, w1.grownBy W (some (w.heap.size + 1)) → (W.cell? ⟨w.heap.size, 0, none⟩ = some (.int .u64 0) ∧ W.cell? ⟨w.heap.size, 1, none⟩ = some (.int .u64 0) ∧ W.cell? ⟨w.heap.size, 2, none⟩ = some (.int .u64 0) ∧ W.cell? ⟨w.heap.size, 3, none⟩ = some (.int .u64 0)) ∧ (W.frozen? ⟨w.heap.size, 0, none⟩ = false ∧ W.frozen? ⟨w.heap.size, 1, none⟩ = false ∧ W.frozen? ⟨w.heap.size, 2, none⟩ = false ∧ W.frozen? ⟨w.heap.size, 3, none⟩ = false) ∧ (loadVar 24 ⟨w.heap.size, 0, none⟩).run Tryd.prog (putW W w.heap.size ⟨0, 0, 0, 0⟩) = .ok (setV ⟨0, 0, 0, 0⟩) (putW W w.heap.size ⟨0, 0, 0, 0⟩) ∧ Below w.heap.size w (putW W w.heap.size ⟨0, 0, 0, 0⟩)) := hide (fun W g => by
    have bx := World.ownsRow.kept (unhide BX1) g (.inr (by simp [Value.ownBlock]))
    have bw := (unhide B1).grown g (unhide B1).size (fun q hq => by have := Option.some.inj hq; omega)
    exact ⟨⟨bx.cellAt 0 (by omega), bx.cellAt 1 (by omega), bx.cellAt 2 (by omega), bx.cellAt 3 (by omega)⟩, ⟨bx.frozenAt 0, bx.frozenAt 1, bx.frozenAt 2, bx.frozenAt 3⟩, putW_load bx ⟨0, 0, 0, 0⟩, bw.grown (putW_own bx ⟨0, 0, 0, 0⟩).2 bw.size (fun q hq => by have := Option.some.inj hq; omega)⟩)
  clear MK0 BW0 hs1 hsW HB1 O1 hg1 hWA BXA
  go_wp2_with fail
  go_loopw [6] (fun i wr => ∃ (k : Nat) (M : Nat → Bool), i = .int .i64 k ∧ k ≤ cs.length ∧ wr.ownsRow w.heap.size 54 256 (.slice (some ⟨w.heap.size + 1, 0, none⟩) 1 1) 1 (cellsB M) ∧ (∀ j, M j = (cs.take k).any (Nt.hits · j)) ∧ (∀ x ∈ cs.take k, (Nt.rng x).isSome = true) ∧ w1.grownBy wr (some (w.heap.size + 1))) (fun i _ => cs.length - (intOf i).toNat)
  case atStart => exact ⟨0, fun _ => false, rfl, Nat.zero_le _, unhide MK1, fun _ => rfl, by simp, World.grownBy.refl _ _⟩
  case round =>
    obtain ⟨k, M, rfl, hk, hmk, hM, hall, hgr⟩ := hrel
    have MK := hide hmk
    have HM := hide hM
    have HA := hide hall
    have GR := hide hgr
    clear hmk hM hall hgr
    by_cases hlt : k < cs.length
    · obtain ⟨p, hp⟩ : ∃ p, cs[k]? = some p := ⟨cs[k], List.getElem?_eq_getElem hlt⟩
      have hload := (unhide GR).cell ((unhide HC1) k p hp) (by intro e; have := Option.some.inj e; have h2 : g9 = w.heap.size + 1 := this; omega)
      have hps := (unhide HD) p (List.mem_of_getElem? hp)
      have HSN := hide (hits_snoc cs k p hp)
      have HMEM := hide (List.mem_of_getElem? hp)
      have HTK : Hid (∀ x ∈ cs.take (k + 1), x ∈ cs.take k ∨ x = p) := hide (fun x hx => by
        rw [List.take_add_one, hp] at hx
        rcases List.mem_append.1 hx with h | h
        · exact .inl h
        · exact .inr (by simpa using h))
      obtain ⟨⟨u, v, ok⟩, hq⟩ : ∃ q, Lib.cut p [45] = q := ⟨_, rfl⟩
      have hln : u.length ≤ p.length ∧ v.length ≤ p.length := by
        have h : (Lib.cut p [45]).1.length ≤ p.length ∧ (Lib.cut p [45]).2.1.length ≤ p.length := by
          unfold Lib.cut
          split
          · exact ⟨by rw [List.length_take]; omega, by rw [List.length_drop]; omega⟩
          · exact ⟨Nat.le_refl _, Nat.zero_le _⟩
        rw [hq] at h; exact h
      have HCT := hide (rcut_any 45 (mk p) wr (by rw [szM]; omega) (u, v, ok) (by rw [show (mk p).data.toList = p by simp [mk]]; exact hq))
      have hrng : Nt.rng p = Nt.rngF (Nt.sm 255 u) (Nt.sm 255 (if ok = true then v else u)) := by
        unfold Nt.rng; rw [hq]; cases ok <;> rfl
      have HU := hide (fun W => rsmall_any (mk u) 255 W (by rw [szM]; unfold maxLen; omega))
      have HV := hide (fun W => rsmall_any (mk (if ok = true then v else u)) 255 W (by rw [szM]; unfold maxLen; split <;> omega))
      rw [show ∀ l, (mk l).data.toList = l from fun l => by simp [mk]] at HU HV
      have hub := Nt.sm_bd 255 u
      have hvb := Nt.sm_bd 255 (if ok = true then v else u)
      obtain ⟨f, hf⟩ : ∃ f, Nt.sm 255 u = f := ⟨_, rfl⟩
      obtain ⟨t, ht⟩ : ∃ t, Nt.sm 255 (if ok = true then v else u) = t := ⟨_, rfl⟩
      rw [hf] at HU hrng hub
      rw [ht] at HV hrng hvb
      obtain ⟨px, hpx⟩ : ∃ x, mk p = x := ⟨_, rfl⟩
      obtain ⟨ux, hux⟩ : ∃ x, mk u = x := ⟨_, rfl⟩
      obtain ⟨vx, hvx⟩ : ∃ x, mk v = x := ⟨_, rfl⟩
      rw [hpx] at hload HCT
      have HVV : Hid (mk (if ok = true then v else u) = if ok = true then vx else ux) := hide (by cases ok <;> simp [hux, hvx])
      rw [unhide HVV] at HV
      rw [hux] at HU HCT
      rw [hvx] at HCT
      have HR := hide hrng
      dsimp only at HCT
      clear hpx hux hvx hf ht hq hln hps hp hrng HVV
      go_wp2_with fail
      refine (unhide HCT).mono ?_; rintro e w2 ⟨rfl, b2⟩
      have MK2 := hide (own_below (unhide MK) b2)
      have GR2 : Hid (w1.grownBy w2 (some (w.heap.size + 1))) := hide (by
        obtain ⟨h1, h2, h3, h4, h5⟩ := unhide GR
        exact ⟨b2.os.trans h1, b2.tape.trans h2, b2.output.trans h3, Nat.le_trans h4 b2.size, fun q hq hne => (b2.block q (Nat.lt_of_lt_of_le hq h4)).trans (h5 q hq hne)⟩)
      clear b2 MK GR hload HCT
      have BX2 := hide ((unhide HBX) w2 (unhide GR2))
      cases ok
      · rw [if_neg (by simp)] at HV
        go_wp2_with fail
        refine ((unhide HU) w2).mono ?_; rintro e wx ⟨rfl, hwx⟩; rw [hwx]; clear hwx wx
        go_wp2_with fail
        refine ((unhide HV) w2).mono ?_; rintro e wx ⟨rfl, hwx⟩; rw [hwx]; clear hwx wx
        obtain ⟨y0, y1, y2, y3⟩ := (unhide BX2).1
        obtain ⟨f0, f1, f2, f3⟩ := (unhide BX2).2.1
        have P1 := hide (unhide BX2).2.2
        by_cases h1 : f < 0
        · have HEE : Hid (Nt.rng p = none) := hide (by rw [unhide HR]; unfold Nt.rngF; rw [if_pos (.inl h1)])
          clear HR
          go_wp2_with fail
          (try simp only [Exit.inBlock, Exit.then])
          refine bodyPost_ret_by (v := .tuple #[setV ⟨0, 0, 0, 0⟩, .int .i64 3]) ?_ rfl ⟨.inr ⟨rfl, p, unhide HMEM, unhide HEE⟩, (unhide P1).2⟩
          refine results_ct (p := 2) (u := 3) (ty := 24) ?_ _ _ w.heap.size _ ?_ (unhide P1).1 _ ?_ <;> rfl
        by_cases h2 : t < 0
        · have HEE : Hid (Nt.rng p = none) := hide (by rw [unhide HR]; unfold Nt.rngF; rw [if_pos (.inr (.inl h2))])
          clear HR
          go_wp2_with fail
          (try simp only [Exit.inBlock, Exit.then])
          refine bodyPost_ret_by (v := .tuple #[setV ⟨0, 0, 0, 0⟩, .int .i64 3]) ?_ rfl ⟨.inr ⟨rfl, p, unhide HMEM, unhide HEE⟩, (unhide P1).2⟩
          refine results_ct (p := 2) (u := 3) (ty := 24) ?_ _ _ w.heap.size _ ?_ (unhide P1).1 _ ?_ <;> rfl
        by_cases h3 : t < f
        · have HEE : Hid (Nt.rng p = none) := hide (by rw [unhide HR]; unfold Nt.rngF; rw [if_pos (.inr (.inr h3))])
          clear HR
          go_wp2_with fail
          (try simp only [Exit.inBlock, Exit.then])
          refine bodyPost_ret_by (v := .tuple #[setV ⟨0, 0, 0, 0⟩, .int .i64 3]) ?_ rfl ⟨.inr ⟨rfl, p, unhide HMEM, unhide HEE⟩, (unhide P1).2⟩
          refine results_ct (p := 2) (u := 3) (ty := 24) ?_ _ _ w.heap.size _ ?_ (unhide P1).1 _ ?_ <;> rfl
        clear y0 y1 y2 y3 f0 f1 f2 f3 P1
        obtain ⟨fn, rfl⟩ := Int.eq_ofNat_of_zero_le (by omega : 0 ≤ f)
        obtain ⟨tn, rfl⟩ := Int.eq_ofNat_of_zero_le (by omega : 0 ≤ t)
        have HG : Hid (Nt.rng p = some (fn, tn)) := hide (by rw [unhide HR]; unfold Nt.rngF; rw [if_neg (by omega)]; rfl)
        have hft : fn ≤ tn ∧ tn ≤ 255 := by omega
        clear HR h1 h2 h3
        go_wp2_with fail
        go_loopw [12] (fun n wr => ∃ (c : Nat) (N : Nat → Bool), n = .int .i64 c ∧ fn ≤ c ∧ c ≤ tn + 1 ∧ wr.ownsRow w.heap.size 54 256 (.slice (some ⟨w.heap.size + 1, 0, none⟩) 1 1) 1 (cellsB N) ∧ (∀ j, N j = (M j || (decide (fn ≤ j) && decide (j < c)))) ∧ w1.grownBy wr (some (w.heap.size + 1))) (fun n _ => tn + 1 - (intOf n).toNat)
        case atStart => exact ⟨fn, M, rfl, Nat.le_refl _, by omega, unhide MK2, fun j => by cases M j <;> simp <;> omega, unhide GR2⟩
        case round =>
          obtain ⟨c, N, rfl, hc1, hc2, hmk, hN, hgr⟩ := hrel
          have MK3 := hide hmk
          have HN := hide hN
          have GR3 := hide hgr
          have c256 : c ≤ 256 := by omega
          clear hmk hN hgr
          by_cases hlc : c ≤ tn
          · have hcell := (unhide MK3).cellAt c (by omega)
            rw [cellsB_at N c (by omega)] at hcell
            have hfz := (unhide MK3).frozenAt c
            obtain ⟨own4, gr4⟩ := (unhide MK3).stored c (.bool true)
            rw [cellsB_set] at own4
            have OW4 := hide own4
            have GR4 := hide ((unhide GR3).trans gr4)
            have hci : (c : Int) < 256 := by omega
            clear own4 gr4
            go_wp2_with fail
            exact ⟨⟨c + 1, _, by go_num, by omega, by omega, unhide OW4, fun j => by
              by_cases e : j = c
              · subst e; rw [if_pos rfl, decide_eq_true hc1, decide_eq_true (by omega)]; simp
              · rw [if_neg e, unhide HN]; congr 2; rw [decide_eq_decide]; omega, unhide GR4⟩, by simp [intOf]; omega⟩
          · obtain rfl : c = tn + 1 := by omega
            go_wp2_with fail
            exact ⟨⟨k + 1, N, by go_num, by omega, unhide MK3, fun j => by
              rw [unhide HN, unhide HM, unhide HSN]
              congr 1
              unfold Nt.hits
              rw [unhide HG]
              dsimp only
              congr 1; rw [decide_eq_decide]; omega, fun x hx => by
                rcases unhide HTK x hx with h | h
                · exact unhide HA x h
                · rw [h, unhide HG]; rfl, unhide GR3⟩, by simp [intOf]; omega⟩
      · rw [if_pos rfl] at HV
        go_wp2_with fail
        refine ((unhide HU) w2).mono ?_; rintro e wx ⟨rfl, hwx⟩; rw [hwx]; clear hwx wx
        go_wp2_with fail
        refine ((unhide HV) w2).mono ?_; rintro e wx ⟨rfl, hwx⟩; rw [hwx]; clear hwx wx
        obtain ⟨y0, y1, y2, y3⟩ := (unhide BX2).1
        obtain ⟨f0, f1, f2, f3⟩ := (unhide BX2).2.1
        have P1 := hide (unhide BX2).2.2
        by_cases h1 : f < 0
        · have HEE : Hid (Nt.rng p = none) := hide (by rw [unhide HR]; unfold Nt.rngF; rw [if_pos (.inl h1)])
          clear HR
          go_wp2_with fail
          (try simp only [Exit.inBlock, Exit.then])
          refine bodyPost_ret_by (v := .tuple #[setV ⟨0, 0, 0, 0⟩, .int .i64 3]) ?_ rfl ⟨.inr ⟨rfl, p, unhide HMEM, unhide HEE⟩, (unhide P1).2⟩
          refine results_ct (p := 2) (u := 3) (ty := 24) ?_ _ _ w.heap.size _ ?_ (unhide P1).1 _ ?_ <;> rfl
        by_cases h2 : t < 0
        · have HEE : Hid (Nt.rng p = none) := hide (by rw [unhide HR]; unfold Nt.rngF; rw [if_pos (.inr (.inl h2))])
          clear HR
          go_wp2_with fail
          (try simp only [Exit.inBlock, Exit.then])
          refine bodyPost_ret_by (v := .tuple #[setV ⟨0, 0, 0, 0⟩, .int .i64 3]) ?_ rfl ⟨.inr ⟨rfl, p, unhide HMEM, unhide HEE⟩, (unhide P1).2⟩
          refine results_ct (p := 2) (u := 3) (ty := 24) ?_ _ _ w.heap.size _ ?_ (unhide P1).1 _ ?_ <;> rfl
        by_cases h3 : t < f
        · have HEE : Hid (Nt.rng p = none) := hide (by rw [unhide HR]; unfold Nt.rngF; rw [if_pos (.inr (.inr h3))])
          clear HR
          go_wp2_with fail
          (try simp only [Exit.inBlock, Exit.then])
          refine bodyPost_ret_by (v := .tuple #[setV ⟨0, 0, 0, 0⟩, .int .i64 3]) ?_ rfl ⟨.inr ⟨rfl, p, unhide HMEM, unhide HEE⟩, (unhide P1).2⟩
          refine results_ct (p := 2) (u := 3) (ty := 24) ?_ _ _ w.heap.size _ ?_ (unhide P1).1 _ ?_ <;> rfl
        clear y0 y1 y2 y3 f0 f1 f2 f3 P1
        obtain ⟨fn, rfl⟩ := Int.eq_ofNat_of_zero_le (by omega : 0 ≤ f)
        obtain ⟨tn, rfl⟩ := Int.eq_ofNat_of_zero_le (by omega : 0 ≤ t)
        have HG : Hid (Nt.rng p = some (fn, tn)) := hide (by rw [unhide HR]; unfold Nt.rngF; rw [if_neg (by omega)]; rfl)
        have hft : fn ≤ tn ∧ tn ≤ 255 := by omega
        clear HR h1 h2 h3
        go_wp2_with fail
        go_loopw [12] (fun n wr => ∃ (c : Nat) (N : Nat → Bool), n = .int .i64 c ∧ fn ≤ c ∧ c ≤ tn + 1 ∧ wr.ownsRow w.heap.size 54 256 (.slice (some ⟨w.heap.size + 1, 0, none⟩) 1 1) 1 (cellsB N) ∧ (∀ j, N j = (M j || (decide (fn ≤ j) && decide (j < c)))) ∧ w1.grownBy wr (some (w.heap.size + 1))) (fun n _ => tn + 1 - (intOf n).toNat)
        case atStart => exact ⟨fn, M, rfl, Nat.le_refl _, by omega, unhide MK2, fun j => by cases M j <;> simp <;> omega, unhide GR2⟩
        case round =>
          obtain ⟨c, N, rfl, hc1, hc2, hmk, hN, hgr⟩ := hrel
          have MK3 := hide hmk
          have HN := hide hN
          have GR3 := hide hgr
          have c256 : c ≤ 256 := by omega
          clear hmk hN hgr
          by_cases hlc : c ≤ tn
          · have hcell := (unhide MK3).cellAt c (by omega)
            rw [cellsB_at N c (by omega)] at hcell
            have hfz := (unhide MK3).frozenAt c
            obtain ⟨own4, gr4⟩ := (unhide MK3).stored c (.bool true)
            rw [cellsB_set] at own4
            have OW4 := hide own4
            have GR4 := hide ((unhide GR3).trans gr4)
            have hci : (c : Int) < 256 := by omega
            clear own4 gr4
            go_wp2_with fail
            exact ⟨⟨c + 1, _, by go_num, by omega, by omega, unhide OW4, fun j => by
              by_cases e : j = c
              · subst e; rw [if_pos rfl, decide_eq_true hc1, decide_eq_true (by omega)]; simp
              · rw [if_neg e, unhide HN]; congr 2; rw [decide_eq_decide]; omega, unhide GR4⟩, by simp [intOf]; omega⟩
          · obtain rfl : c = tn + 1 := by omega
            go_wp2_with fail
            exact ⟨⟨k + 1, N, by go_num, by omega, unhide MK3, fun j => by
              rw [unhide HN, unhide HM, unhide HSN]
              congr 1
              unfold Nt.hits
              rw [unhide HG]
              dsimp only
              congr 1; rw [decide_eq_decide]; omega, fun x hx => by
                rcases unhide HTK x hx with h | h
                · exact unhide HA x h
                · rw [h, unhide HG]; rfl, unhide GR3⟩, by simp [intOf]; omega⟩
    · obtain rfl : k = cs.length := by omega
      have hMt := unhide HM
      have hAt := unhide HA
      rw [List.take_length] at hMt hAt
      have HM2 := hide hMt
      have HA2 := hide hAt
      have HWH := hide (where_r #[.pointer (some ⟨w.heap.size + 1, 0, none⟩)] M wr (fun b W hb hbel => ranges1_any M b (w.heap.size + 1) w.heap.size W hb (own_below (unhide MK) hbel)))
      have BXR := hide (World.ownsRow.kept (unhide BX1) (unhide GR) (.inr (by simp [Value.ownBlock])))
      have BWR := hide ((unhide B1).grown (unhide GR) (unhide B1).size (fun q hq => by have := Option.some.inj hq; omega))
      clear hMt hAt HM HA HBX
      go_wp2_with fail
      refine (unhide HWH).mono ?_; rintro e w3 ⟨⟨qa, qb, qc, qd⟩, rfl, hfit, hbits, b3⟩
      have HF := hide hfit
      have HB2 := hide hbits
      have bx3 := own_below (unhide BXR) b3
      have bw3 := bel_trans (unhide BWR) b3
      have y0 := bx3.cellAt 0 (by omega)
      have y1 := bx3.cellAt 1 (by omega)
      have y2 := bx3.cellAt 2 (by omega)
      have y3 := bx3.cellAt 3 (by omega)
      have f0 := bx3.frozenAt 0
      have f1 := bx3.frozenAt 1
      have f2 := bx3.frozenAt 2
      have f3 := bx3.frozenAt 3
      have P1 := hide (putW_load bx3 ⟨qa, qb, qc, qd⟩)
      have P2 := hide (bw3.grown (putW_own bx3 ⟨qa, qb, qc, qd⟩).2 bw3.size (fun q hq => by have := Option.some.inj hq; omega))
      unfold setV
      clear hfit hbits b3 bx3 bw3 HWH BXR BWR
      go_wp2_with fail
      (try simp only [Exit.inBlock, Exit.then])
      refine bodyPost_ret_by (v := .tuple #[setV ⟨qa, qb, qc, qd⟩, .int .i64 0]) ?_ rfl ⟨.inl ⟨⟨qa, qb, qc, qd⟩, rfl, unhide HF, unhide HA2, fun j hj => by rw [unhide HB2 j hj, unhide HM2]⟩, unhide P2⟩
      refine results_ct (p := 2) (u := 3) (ty := 24) ?_ _ _ w.heap.size _ ?_ (unhide P1) _ ?_ <;> rfl
end Go.Proofs.YtloidooaebhliaaDoor
