/- The program's reading of a class in brackets: items. -/
import Derived.Test.YtjecopdbcaojcaaKj
import Derived.Test.YtjecopdbcaojcaaKk
namespace Go.Proofs.Ytjecopdbcaojcaa
open Go.RowKit Kb
set_option linter.unusedVariables false
set_option maxRecDepth 20000

def cellsR (k : Int) (s : Se) (v : Value) : List Value := [.int .i64 k, .int .u64 s.a, .int .u64 s.b, .int .u64 s.c, .int .u64 s.d, v]
/-- a number in a cell -/
def cellI (w : World) (g j : Nat) : Nat := (intOf ((w.cell? ⟨g, j, none⟩).getD undef)).toNat
theorem SBnew {w : World} {W : World} (hw : w.heap.size ≤ W.heap.size) (t : Se) : (W.alloc (.cells #[.int .u64 t.a, .int .u64 t.b, .int .u64 t.c, .int .u64 t.d] 24)).ownsRow w.heap.size 24 4 (.slice (some ⟨W.heap.size, 0, none⟩) 1 1) 1 (cellsW t) :=
  World.ownsRow_lit (e := 24) (size := 4) (base := w.heap.size) W #[.int .u64 t.a, .int .u64 t.b, .int .u64 t.c, .int .u64 t.d] 1 hw (by unfold maxLen; omega) rfl
/-- what a class that is read, or not, answers -/
theorem cntS_zero {s : Se} : cntS s = 0 ↔ ∀ j, j < 256 → bit s j = false := by
  constructor
  · intro h; exact Pop.cntN_none h
  · intro h
    unfold cntS
    have : Pop.cntN (bit s) 256 = Pop.cntN (fun _ => false) 256 := Pop.cntN_congr h
    rw [this]; decide +kernel
theorem cntN_bits {s : Se} {p : Nat → Bool} (h : ∀ j, j < 256 → bit s j = p j) : cntS s = Pop.cntN p 256 := Pop.cntN_congr h
theorem load_rex {w : World} {g : Nat} {fr : Nat × Nat} {k s1 s2 s3 s4 : Int} {v : Value} (hv : v.oneCell' = true) (hh : w.heap[g]? = some (.cells #[.int .i64 k, .int .u64 s1, .int .u64 s2, .int .u64 s3, .int .u64 s4, v] 27 fr)) : (loadVar 27 ⟨g, 0, none⟩).run Try.prog w = .ok (.agg #[.int .i64 k, .int .u64 s1, .int .u64 s2, .int .u64 s3, .int .u64 s4, v]) w :=
  run_loadVar_row w g 27 27 #[.int .i64 k, .int .u64 s1, .int .u64 s2, .int .u64 s3, .int .u64 s4, v] fr _ hh Try.underlying27 rfl (by kernel_rfl)
theorem Rd.cellI {w : World} {B g : Nat} {s : ByteArray} {a op : Nat} (h : Rd w B g s a op) : cellI w g 1 = a := by
  unfold Go.Proofs.Ytjecopdbcaojcaa.cellI
  rw [h.cells.2.1]; simp [intOf]
set_option maxHeartbeats 4000000 in
theorem items_any' (w : World) (B g : Nat) (s : ByteArray) (a op : Nat) (h : Rd w B g s a op) (hs : s.size ≤ 100000) (ha : a ≤ s.size) :
    Calls Try.prog 49 #[.pointer (some ⟨g, 0, none⟩)] w fun e w' => ∃ (t : Se) (z : Int), e = .returned (.tuple #[.agg #[.int .i64 3, .int .u64 t.a, .int .u64 t.b, .int .u64 t.c, .int .u64 t.d, .slice none 0 0], .int .i64 z]) ∧ FitS t ∧ w.grownBy w' (some g) ∧ ItemP t z (itemsR s a).1 ∧ Rd w' B g s (itemsR s a).2 op := by
  have hlt := h.lt
  have hne : w.heap.size ≠ g := by omega
  have RB0 := hide (World.ownsRow_lit (e := 27) (size := 6) w #[.int .i64 0, .int .u64 0, .int .u64 0, .int .u64 0, .int .u64 0, .slice none 0 0] 1 (Nat.le_refl w.heap.size) (by unfold maxLen; omega) rfl)
  have R0 := hide (h.below ((Below.refl _ w).alloc (Nat.le_refl _) (.cells #[.int .i64 0, .int .u64 0, .int .u64 0, .int .u64 0, .int .u64 0, .slice none 0 0] 27)))
  have G0 := hide (World.grownBy_alloc w (.cells #[.int .i64 0, .int .u64 0, .int .u64 0, .int .u64 0, .int .u64 0, .slice none 0 0] 27) (some g))
  have HTK := hide (take_any _ B g s a op 94 (unhide R0) hs ha)
  have HIT := hide (fun W b (r : Rd W B g s b op) (hb : b ≤ s.size) => item_any W B g s b op r hs hb)
  have HPK := hide (fun W b (r : Rd W B g s b op) (hb : b ≤ s.size) => peekR_any W B g s b op r hs hb)
  have HUN := hide (fun s t W (hs : FitS s) (ht : FitS t) => union_any s t W hs ht)
  have HOT := hide (fun s W (hs : FitS s) => others_any s W hs)
  have HSZ := hide (fun s W (hs : FitS s) => size_any s W hs)
  have HBO := hide (fun s W => byteOf_any s W)
  obtain ⟨res, hres⟩ : ∃ res, itemsR s a = res := ⟨_, rfl⟩
  rw [hres]
  obtain ⟨nb, hnb⟩ : ∃ nb, decide (pkB s a = 94) = nb := ⟨_, rfl⟩
  have HRES : Hid (res = shutR nb (openR s (itemR s (tkA s a 94)))) := hide (by rw [← hres, ← hnb]; rfl)
  have ha1 : tkA s a 94 ≤ s.size := by
    unfold tkA
    by_cases h94 : pkB s a = 94
    · rw [if_pos h94]; have := pk_lt (s := s) (a := a) (by rw [h94]; decide); omega
    · rw [if_neg h94]; exact ha
  rw [hnb] at HTK
  obtain ⟨a1, ha1e⟩ : ∃ a1, tkA s a 94 = a1 := ⟨_, rfl⟩
  rw [ha1e] at HTK HRES ha1
  have hle := itemR_le s a1 ha1
  obtain ⟨⟨o1, b1⟩, ho1⟩ : ∃ z, itemR s a1 = z := ⟨_, rfl⟩
  rw [ho1] at HRES hle
  have HO1 := hide ho1
  clear hres hnb ha1e ho1 h R0
  unfold setV at *
  go_enter Try.func49, Try.ntmps49
  go_wp2_with fail
  refine (unhide HTK).mono ?_
  rintro e w1 ⟨rfl, g1, r1⟩
  have HI1 := hide ((unhide HIT) w1 a1 r1 ha1)
  rw [unhide HO1] at HI1
  have RB1 := hide ((unhide RB0).kept g1 (.inr (by simp [Value.ownBlock]; exact hne)))
  have G1 := hide ((unhide G0).trans g1)
  clear g1 r1 HTK RB0 G0
  go_wp2_with fail
  refine (unhide HI1).mono ?_
  rintro e w2 ⟨t, z, rfl, ft, g2, hip, r2⟩
  have RB2 := hide (((unhide RB1).kept g2 (.inr (by simp [Value.ownBlock]; exact hne))).alloc (.cells #[.int .u64 t.a, .int .u64 t.b, .int .u64 t.c, .int .u64 t.d] 24))
  have G2 := hide (((unhide G1).trans g2).trans (World.grownBy_alloc w2 (.cells #[.int .u64 t.a, .int .u64 t.b, .int .u64 t.c, .int .u64 t.d] 24) (some g)))
  have hww : w.heap.size < w2.heap.size := by
    have h1 := (unhide RB1).lt _ rfl
    have h2 := g2.size
    omega
  have SB2 := hide (SBnew (w := w) (W := w2) (by omega) t)
  have R2 := hide (r2.below ((Below.refl _ w2).alloc (Nat.le_refl _) (.cells #[.int .u64 t.a, .int .u64 t.b, .int .u64 t.c, .int .u64 t.d] 24)))
  have hgs : g < w2.heap.size := r2.lt.2
  have IP := hide hip
  have FT := hide ft
  clear g2 hip r2 ft HI1 RB1 G1
  obtain ⟨t1, t2, t3, t4⟩ := t
  dsimp only at *
  obtain ⟨W3, hW3⟩ : ∃ W3, w2.alloc (.cells #[.int .u64 t1, .int .u64 t2, .int .u64 t3, .int .u64 t4] 24) = W3 := ⟨_, rfl⟩
  rw [hW3] at RB2 G2 SB2 R2
  obtain ⟨gs, hgse⟩ : ∃ gs, w2.heap.size = gs := ⟨_, rfl⟩
  go_wp2_with fail
  clear hW3
  rw [hgse] at SB2 hgs hww
  clear hgse
  obtain ⟨LR, hLR⟩ : ∃ LR, openR s (o1, b1) = LR := ⟨_, rfl⟩
  have HEND : Hid (res = shutR nb LR) := hide (by rw [unhide HRES, hLR])
  have HST : Hid ((z = 0 ∧ ∃ p, (∀ j, j < 256 → bit ⟨t1, t2, t3, t4⟩ j = p j) ∧ LR = loopR s p b1) ∨ (z = 3 ∧ LR = (none, b1))) := hide (by
    have hip := unhide IP
    cases o1 with
    | none => exact .inr ⟨hip.2 rfl, hLR.symm⟩
    | some p => exact .inl ⟨(hip.1 p rfl).1, p, (hip.1 p rfl).2, hLR.symm⟩)
  have hb1 := hle.1
  clear hLR HRES IP hle HO1
  go_loopw [6] (fun x wr => ∃ (cur : Se) (z : Int) (b : Nat), x = .int .i64 z ∧ FitS cur ∧ Rd wr B g s b op ∧ b ≤ s.size ∧ wr.ownsRow w.heap.size 24 4 (.slice (some ⟨gs, 0, none⟩) 1 1) 1 (cellsW cur) ∧ wr.ownsRow w.heap.size 27 6 (.slice (some ⟨w.heap.size, 0, none⟩) 1 1) 1 [.int .i64 0, .int .u64 0, .int .u64 0, .int .u64 0, .int .u64 0, .slice none 0 0] ∧ w.grownBy wr (some g) ∧ ((z = 0 ∧ ∃ p, (∀ j, j < 256 → bit cur j = p j) ∧ LR = loopR s p b) ∨ (z = 3 ∧ LR = (none, b)))) (fun x wr => if intOf x = 0 then s.size + 1 - cellI wr g 1 else 0)
  case atStart => exact ⟨_, z, b1, rfl, unhide FT, unhide R2, hb1, unhide SB2, unhide RB2, unhide G2, unhide HST⟩
  case round =>
    clear HST FT R2 SB2 RB2 G2
    obtain ⟨cur, z, b, rfl, fc, hr, hb, hsb, hrb, hg, hst⟩ := hrel
    have FC := hide fc
    have R3 := hide hr
    have SB3 := hide hsb
    have RB3 := hide hrb
    have G3 := hide hg
    clear fc hr hsb hrb hg
    rcases hst with ⟨rfl, p, hp, hlr⟩ | ⟨rfl, hlr⟩
    · have HP := hide hp
      have HLR := hide hlr
      clear hp hlr
      have HPK1 := hide ((unhide HPK) _ b (unhide R3) hb)
      by_cases h93 : pkB s b = 93
      · have hbn : (((pkB s b).toNat : Int) != 93) = false := by rw [h93]; rfl
        have HLE : Hid (LR = (some p, b)) := hide (by rw [unhide HLR]; exact loopR_end h93)
        have HEN : Hid (res = if Pop.cntN (fun j => p j != nb) 256 = 0 then (none, b) else (some (fun j => p j != nb), b + 1)) := hide (by rw [unhide HEND, unhide HLE]; rfl)
        obtain ⟨pb, hpb⟩ : ∃ pb, pkB s b = pb := ⟨_, rfl⟩
        rw [hpb] at HPK1 hbn
        clear h93 hpb HLR HLE HEND HIT HPK HUN
        go_wp2_with fail
        refine (unhide HPK1).mono ?_
        rintro e w4 ⟨rfl, b4⟩
        have R4 := hide ((unhide R3).below b4)
        have SB4 := hide (own_below (unhide SB3) b4)
        have RB4 := hide (own_below (unhide RB3) b4)
        have G4 := hide ((unhide G3).trans (grown_below' b4 (some g)))
        have hgs4 : gs ≠ g := by omega
        have hgsr4 : gs ≠ w.heap.size := by omega
        obtain ⟨k1, k2, k3, k4⟩ := cur
        clear b4
        clear HPK1
        have s0 := (unhide SB4).cellAt 0 (by omega)
        have s1 := (unhide SB4).cellAt 1 (by omega)
        have s2 := (unhide SB4).cellAt 2 (by omega)
        have s3 := (unhide SB4).cellAt 3 (by omega)
        have f0 := (unhide SB4).frozenAt 0
        have f1 := (unhide SB4).frozenAt 1
        have f2 := (unhide SB4).frozenAt 2
        have f3 := (unhide SB4).frozenAt 3
        simp only [cellsW] at s0 s1 s2 s3
        cases nb
        · have HSC := hide ((unhide HSZ) ⟨k1, k2, k3, k4⟩ w4 (unhide FC))
          have HCN : Hid (cntS ⟨k1, k2, k3, k4⟩ = Pop.cntN (fun j => p j != false) 256) := hide (cntN_bits (fun j hj => by rw [(unhide HP) j hj]; simp))
          have HBF : Hid (∀ j, j < 256 → bit ⟨k1, k2, k3, k4⟩ j = ((fun j => p j != false)) j) := hide (fun j hj => by rw [(unhide HP) j hj]; simp)
          obtain ⟨C, hC⟩ : ∃ C, cntS ⟨k1, k2, k3, k4⟩ = C := ⟨_, rfl⟩
          rw [hC] at HSC HCN
          clear hC
          dsimp only at HSC
          have hCle : C ≤ 256 := by rw [unhide HCN]; exact Pop.cntN_le _ _
          obtain ⟨Q, hQ⟩ : ∃ Q : Nat → Bool, (fun j => p j != false) = Q := ⟨_, rfl⟩
          rw [hQ] at HCN HBF HEN
          clear hQ
          go_wp2_with fail
          refine (unhide HSC).mono ?_
          rintro e w7 ⟨rfl, b7⟩
          have R7 := hide ((unhide R4).below b7)
          have G7 := hide ((unhide G4).trans (grown_below' b7 (some g)))
          have RB7 := hide (own_below (unhide RB4) b7)
          have SB7 := hide (own_below (unhide SB4) b7)
          clear b7 HSC
          have i0 := (unhide SB7).cellAt 0 (by omega)
          have i1 := (unhide SB7).cellAt 1 (by omega)
          have i2 := (unhide SB7).cellAt 2 (by omega)
          have i3 := (unhide SB7).cellAt 3 (by omega)
          simp only [cellsW] at i0 i1 i2 i3
          by_cases hC0 : C = 0
          · have HRE : Hid (res = (none, b)) := hide (by rw [unhide HEN, if_pos ((unhide HCN).symm.trans hC0)])
            have hcb : ((C : Int) == 0) = true := by rw [hC0]; rfl
            clear hC0 HEN HCN
            go_wp2_with fail
            refine ((unhide HBO) ⟨k1, k2, k3, k4⟩ _).mono ?_
            rintro e w9 ⟨rfl, b9⟩
            have R9 := hide ((unhide R7).below b9)
            have G9 := hide ((unhide G7).trans (grown_below' b9 (some g)))
            have RB9 := hide (own_below (unhide RB7) b9)
            clear b9
            have y0 := (unhide RB9).cellAt 0 (by omega)
            have y1 := (unhide RB9).cellAt 1 (by omega)
            have y2 := (unhide RB9).cellAt 2 (by omega)
            have y3 := (unhide RB9).cellAt 3 (by omega)
            have y4 := (unhide RB9).cellAt 4 (by omega)
            have y5 := (unhide RB9).cellAt 5 (by omega)
            have h0 := (unhide RB9).frozenAt 0
            have h1 := (unhide RB9).frozenAt 1
            have h2 := (unhide RB9).frozenAt 2
            have h3 := (unhide RB9).frozenAt 3
            have h4 := (unhide RB9).frozenAt 4
            have h5 := (unhide RB9).frozenAt 5
            dsimp only
            go_wp2_with fail
            obtain ⟨v0, m0⟩ := (unhide RB9).stored 0 (.int .i64 3)
            obtain ⟨v1, m1⟩ := v0.stored 1 (.int .u64 k1)
            obtain ⟨v2, m2⟩ := v1.stored 2 (.int .u64 k2)
            obtain ⟨v3, m3⟩ := v2.stored 3 (.int .u64 k3)
            obtain ⟨v4, m4⟩ := v3.stored 4 (.int .u64 k4)
            obtain ⟨v5, m5⟩ := v4.stored 5 (.slice none 0 0)
            have mm := ((((m0.trans m1).trans m2).trans m3).trans m4).trans m5
            obtain ⟨fr, hh⟩ := own_one v5
            (try simp only [Exit.inBlock, Exit.then])
            refine bodyPost_ret_by (v := .tuple #[.agg #[.int .i64 3, .int .u64 k1, .int .u64 k2, .int .u64 k3, .int .u64 k4, .slice none 0 0], .int .i64 3]) ?_ rfl ⟨⟨k1, k2, k3, k4⟩, _, rfl, unhide FC, World.grownBy.andThen (unhide G9) mm (fun j hj => by cases hj; exact .inl (Nat.le_refl _)), by rw [unhide HRE]; exact ⟨⟨fun q hq => (by cases hq), fun _ => rfl⟩, World.ownsRow.kept (unhide R9) mm (.inr (by simp [Value.ownBlock]; omega))⟩⟩
            exact results_ct (ty := 27) rfl _ _ w.heap.size _ rfl (load_rex rfl hh) _ rfl
          · have HRE : Hid (res = (some Q, b + 1)) := hide (by rw [unhide HEN, if_neg (fun h => hC0 ((unhide HCN).trans h))])
            have hcb : ((C : Int) == 0) = false := by rw [beq_eq_false_iff_ne]; omega
            clear hC0 HEN HCN
            obtain ⟨l0, l1, l2⟩ := (unhide R7).cells
            have lf := (unhide R7).frozen 1
            obtain ⟨r8, g8⟩ := (unhide R7).setAt (b + 1)
            rw [show ((b + 1 : Nat) : Int) = (b : Int) + 1 by omega] at r8 g8
            obtain ⟨W8, hW8⟩ : ∃ W8, w7.setCell ⟨g, 1, none⟩ (.int .i64 ((b : Int) + 1)) = W8 := ⟨_, rfl⟩
            have SB8 := (unhide SB7).kept g8 (.inr (by simp [Value.ownBlock]; omega))
            have RB8 := (unhide RB7).kept g8 (.inr (by simp [Value.ownBlock]; omega))
            rw [hW8] at r8 g8 SB8 RB8
            have e0 := SB8.cellAt 0 (by omega)
            have e1 := SB8.cellAt 1 (by omega)
            have e2 := SB8.cellAt 2 (by omega)
            have e3 := SB8.cellAt 3 (by omega)
            simp only [cellsW] at e0 e1 e2 e3
            have R8 := hide r8
            have G8 := hide ((unhide G7).trans g8)
            have RB8' := hide RB8
            clear r8 g8 SB8 RB8
            go_wp2_with fail
            clear hW8
            refine ((unhide HBO) ⟨k1, k2, k3, k4⟩ _).mono ?_
            rintro e w9 ⟨rfl, b9⟩
            have R9 := hide ((unhide R8).below b9)
            have G9 := hide ((unhide G8).trans (grown_below' b9 (some g)))
            have RB9 := hide (own_below (unhide RB8') b9)
            clear b9
            have y0 := (unhide RB9).cellAt 0 (by omega)
            have y1 := (unhide RB9).cellAt 1 (by omega)
            have y2 := (unhide RB9).cellAt 2 (by omega)
            have y3 := (unhide RB9).cellAt 3 (by omega)
            have y4 := (unhide RB9).cellAt 4 (by omega)
            have y5 := (unhide RB9).cellAt 5 (by omega)
            have h0 := (unhide RB9).frozenAt 0
            have h1 := (unhide RB9).frozenAt 1
            have h2 := (unhide RB9).frozenAt 2
            have h3 := (unhide RB9).frozenAt 3
            have h4 := (unhide RB9).frozenAt 4
            have h5 := (unhide RB9).frozenAt 5
            dsimp only
            go_wp2_with fail
            obtain ⟨v0, m0⟩ := (unhide RB9).stored 0 (.int .i64 3)
            obtain ⟨v1, m1⟩ := v0.stored 1 (.int .u64 k1)
            obtain ⟨v2, m2⟩ := v1.stored 2 (.int .u64 k2)
            obtain ⟨v3, m3⟩ := v2.stored 3 (.int .u64 k3)
            obtain ⟨v4, m4⟩ := v3.stored 4 (.int .u64 k4)
            obtain ⟨v5, m5⟩ := v4.stored 5 (.slice none 0 0)
            have mm := ((((m0.trans m1).trans m2).trans m3).trans m4).trans m5
            obtain ⟨fr, hh⟩ := own_one v5
            (try simp only [Exit.inBlock, Exit.then])
            refine bodyPost_ret_by (v := .tuple #[.agg #[.int .i64 3, .int .u64 k1, .int .u64 k2, .int .u64 k3, .int .u64 k4, .slice none 0 0], .int .i64 0]) ?_ rfl ⟨⟨k1, k2, k3, k4⟩, _, rfl, unhide FC, World.grownBy.andThen (unhide G9) mm (fun j hj => by cases hj; exact .inl (Nat.le_refl _)), by rw [unhide HRE]; exact ⟨⟨fun q hq => by cases hq; exact ⟨rfl, unhide HBF⟩, fun h => by cases h⟩, World.ownsRow.kept (unhide R9) mm (.inr (by simp [Value.ownBlock]; omega))⟩⟩
            exact results_ct (ty := 27) rfl _ _ w.heap.size _ rfl (load_rex rfl hh) _ rfl
        · have HON := hide ((unhide HOT) ⟨k1, k2, k3, k4⟩ w4 (unhide FC))
          have FX := hide (notS_fit (unhide FC))
          have BX := hide (fun j hj => notS_bit (unhide FC) j hj)
          obtain ⟨⟨x1, x2, x3, x4⟩, hx⟩ : ∃ z, notS ⟨k1, k2, k3, k4⟩ = z := ⟨_, rfl⟩
          rw [hx] at HON FX BX
          dsimp only at HON
          clear hx
          go_wp2_with fail
          refine (unhide HON).mono ?_
          rintro e w5 ⟨rfl, b5⟩
          have SB5 := own_below (unhide SB4) b5
          have R5 := (unhide R4).below b5
          have RB5 := own_below (unhide RB4) b5
          have G5 := (unhide G4).trans (grown_below' b5 (some g))
          clear b5 s0 s1 s2 s3 f0 f1 f2 f3
          have s0 := SB5.cellAt 0 (by omega)
          have s1 := SB5.cellAt 1 (by omega)
          have s2 := SB5.cellAt 2 (by omega)
          have s3 := SB5.cellAt 3 (by omega)
          have f0 := SB5.frozenAt 0
          have f1 := SB5.frozenAt 1
          have f2 := SB5.frozenAt 2
          have f3 := SB5.frozenAt 3
          simp only [cellsW] at s0 s1 s2 s3
          obtain ⟨u1, n1⟩ := SB5.stored 0 (.int .u64 x1)
          obtain ⟨u2, n2⟩ := u1.stored 1 (.int .u64 x2)
          obtain ⟨u3, n3⟩ := u2.stored 2 (.int .u64 x3)
          obtain ⟨u4, n4⟩ := u3.stored 3 (.int .u64 x4)
          have nn := ((n1.trans n2).trans n3).trans n4
          obtain ⟨W6, hW6⟩ : ∃ W6, ((((w5.setCell ⟨gs, 0, none⟩ (.int .u64 x1)).setCell ⟨gs, 1, none⟩ (.int .u64 x2)).setCell ⟨gs, 2, none⟩ (.int .u64 x3)).setCell ⟨gs, 3, none⟩ (.int .u64 x4)) = W6 := ⟨_, rfl⟩
          have R6 : Rd W6 B g s b op := by rw [← hW6]; exact World.ownsRow.kept R5 nn (.inr (by simp [Value.ownBlock]; omega))
          have RB6 := RB5.kept nn (.inr (by simp [Value.ownBlock]; omega))
          have G6 := World.grownBy.andThen G5 nn (fun j hj => by cases hj; exact .inl (by omega))
          rw [hW6] at RB6 G6 u4
          have z0 := u4.cellAt 0 (by omega)
          have z1 := u4.cellAt 1 (by omega)
          have z2 := u4.cellAt 2 (by omega)
          have z3 := u4.cellAt 3 (by omega)
          simp only [cellsW] at z0 z1 z2 z3
          have SB6' := hide u4
          have R6' := hide R6
          have RB6' := hide RB6
          have G6' := hide G6
          clear SB5 R5 RB5 G5 u1 u2 u3 u4 n1 n2 n3 n4 nn R6 RB6 G6
          have HSC := hide ((unhide HSZ) ⟨x1, x2, x3, x4⟩ W6 (unhide FX))
          have HCN : Hid (cntS ⟨x1, x2, x3, x4⟩ = Pop.cntN (fun j => p j != true) 256) := hide (cntN_bits (fun j hj => by rw [(unhide BX) j hj, (unhide HP) j hj]; simp))
          have HBF : Hid (∀ j, j < 256 → bit ⟨x1, x2, x3, x4⟩ j = ((fun j => p j != true)) j) := hide (fun j hj => by rw [(unhide BX) j hj, (unhide HP) j hj]; simp)
          obtain ⟨C, hC⟩ : ∃ C, cntS ⟨x1, x2, x3, x4⟩ = C := ⟨_, rfl⟩
          rw [hC] at HSC HCN
          clear hC
          dsimp only at HSC
          have hCle : C ≤ 256 := by rw [unhide HCN]; exact Pop.cntN_le _ _
          obtain ⟨Q, hQ⟩ : ∃ Q : Nat → Bool, (fun j => p j != true) = Q := ⟨_, rfl⟩
          rw [hQ] at HCN HBF HEN
          clear hQ
          go_wp2_with fail
          refine (unhide HSC).mono ?_
          rintro e w7 ⟨rfl, b7⟩
          have R7 := hide ((unhide R6').below b7)
          have G7 := hide ((unhide G6').trans (grown_below' b7 (some g)))
          have RB7 := hide (own_below (unhide RB6') b7)
          have SB7 := hide (own_below (unhide SB6') b7)
          clear b7 HSC
          have i0 := (unhide SB7).cellAt 0 (by omega)
          have i1 := (unhide SB7).cellAt 1 (by omega)
          have i2 := (unhide SB7).cellAt 2 (by omega)
          have i3 := (unhide SB7).cellAt 3 (by omega)
          simp only [cellsW] at i0 i1 i2 i3
          by_cases hC0 : C = 0
          · have HRE : Hid (res = (none, b)) := hide (by rw [unhide HEN, if_pos ((unhide HCN).symm.trans hC0)])
            have hcb : ((C : Int) == 0) = true := by rw [hC0]; rfl
            clear hC0 HEN HCN
            go_wp2_with fail
            refine ((unhide HBO) ⟨x1, x2, x3, x4⟩ _).mono ?_
            rintro e w9 ⟨rfl, b9⟩
            have R9 := hide ((unhide R7).below b9)
            have G9 := hide ((unhide G7).trans (grown_below' b9 (some g)))
            have RB9 := hide (own_below (unhide RB7) b9)
            clear b9
            have y0 := (unhide RB9).cellAt 0 (by omega)
            have y1 := (unhide RB9).cellAt 1 (by omega)
            have y2 := (unhide RB9).cellAt 2 (by omega)
            have y3 := (unhide RB9).cellAt 3 (by omega)
            have y4 := (unhide RB9).cellAt 4 (by omega)
            have y5 := (unhide RB9).cellAt 5 (by omega)
            have h0 := (unhide RB9).frozenAt 0
            have h1 := (unhide RB9).frozenAt 1
            have h2 := (unhide RB9).frozenAt 2
            have h3 := (unhide RB9).frozenAt 3
            have h4 := (unhide RB9).frozenAt 4
            have h5 := (unhide RB9).frozenAt 5
            dsimp only
            go_wp2_with fail
            obtain ⟨v0, m0⟩ := (unhide RB9).stored 0 (.int .i64 3)
            obtain ⟨v1, m1⟩ := v0.stored 1 (.int .u64 x1)
            obtain ⟨v2, m2⟩ := v1.stored 2 (.int .u64 x2)
            obtain ⟨v3, m3⟩ := v2.stored 3 (.int .u64 x3)
            obtain ⟨v4, m4⟩ := v3.stored 4 (.int .u64 x4)
            obtain ⟨v5, m5⟩ := v4.stored 5 (.slice none 0 0)
            have mm := ((((m0.trans m1).trans m2).trans m3).trans m4).trans m5
            obtain ⟨fr, hh⟩ := own_one v5
            (try simp only [Exit.inBlock, Exit.then])
            refine bodyPost_ret_by (v := .tuple #[.agg #[.int .i64 3, .int .u64 x1, .int .u64 x2, .int .u64 x3, .int .u64 x4, .slice none 0 0], .int .i64 3]) ?_ rfl ⟨⟨x1, x2, x3, x4⟩, _, rfl, unhide FX, World.grownBy.andThen (unhide G9) mm (fun j hj => by cases hj; exact .inl (Nat.le_refl _)), by rw [unhide HRE]; exact ⟨⟨fun q hq => (by cases hq), fun _ => rfl⟩, World.ownsRow.kept (unhide R9) mm (.inr (by simp [Value.ownBlock]; omega))⟩⟩
            exact results_ct (ty := 27) rfl _ _ w.heap.size _ rfl (load_rex rfl hh) _ rfl
          · have HRE : Hid (res = (some Q, b + 1)) := hide (by rw [unhide HEN, if_neg (fun h => hC0 ((unhide HCN).trans h))])
            have hcb : ((C : Int) == 0) = false := by rw [beq_eq_false_iff_ne]; omega
            clear hC0 HEN HCN
            obtain ⟨l0, l1, l2⟩ := (unhide R7).cells
            have lf := (unhide R7).frozen 1
            obtain ⟨r8, g8⟩ := (unhide R7).setAt (b + 1)
            rw [show ((b + 1 : Nat) : Int) = (b : Int) + 1 by omega] at r8 g8
            obtain ⟨W8, hW8⟩ : ∃ W8, w7.setCell ⟨g, 1, none⟩ (.int .i64 ((b : Int) + 1)) = W8 := ⟨_, rfl⟩
            have SB8 := (unhide SB7).kept g8 (.inr (by simp [Value.ownBlock]; omega))
            have RB8 := (unhide RB7).kept g8 (.inr (by simp [Value.ownBlock]; omega))
            rw [hW8] at r8 g8 SB8 RB8
            have e0 := SB8.cellAt 0 (by omega)
            have e1 := SB8.cellAt 1 (by omega)
            have e2 := SB8.cellAt 2 (by omega)
            have e3 := SB8.cellAt 3 (by omega)
            simp only [cellsW] at e0 e1 e2 e3
            have R8 := hide r8
            have G8 := hide ((unhide G7).trans g8)
            have RB8' := hide RB8
            clear r8 g8 SB8 RB8
            go_wp2_with fail
            clear hW8
            refine ((unhide HBO) ⟨x1, x2, x3, x4⟩ _).mono ?_
            rintro e w9 ⟨rfl, b9⟩
            have R9 := hide ((unhide R8).below b9)
            have G9 := hide ((unhide G8).trans (grown_below' b9 (some g)))
            have RB9 := hide (own_below (unhide RB8') b9)
            clear b9
            have y0 := (unhide RB9).cellAt 0 (by omega)
            have y1 := (unhide RB9).cellAt 1 (by omega)
            have y2 := (unhide RB9).cellAt 2 (by omega)
            have y3 := (unhide RB9).cellAt 3 (by omega)
            have y4 := (unhide RB9).cellAt 4 (by omega)
            have y5 := (unhide RB9).cellAt 5 (by omega)
            have h0 := (unhide RB9).frozenAt 0
            have h1 := (unhide RB9).frozenAt 1
            have h2 := (unhide RB9).frozenAt 2
            have h3 := (unhide RB9).frozenAt 3
            have h4 := (unhide RB9).frozenAt 4
            have h5 := (unhide RB9).frozenAt 5
            dsimp only
            go_wp2_with fail
            obtain ⟨v0, m0⟩ := (unhide RB9).stored 0 (.int .i64 3)
            obtain ⟨v1, m1⟩ := v0.stored 1 (.int .u64 x1)
            obtain ⟨v2, m2⟩ := v1.stored 2 (.int .u64 x2)
            obtain ⟨v3, m3⟩ := v2.stored 3 (.int .u64 x3)
            obtain ⟨v4, m4⟩ := v3.stored 4 (.int .u64 x4)
            obtain ⟨v5, m5⟩ := v4.stored 5 (.slice none 0 0)
            have mm := ((((m0.trans m1).trans m2).trans m3).trans m4).trans m5
            obtain ⟨fr, hh⟩ := own_one v5
            (try simp only [Exit.inBlock, Exit.then])
            refine bodyPost_ret_by (v := .tuple #[.agg #[.int .i64 3, .int .u64 x1, .int .u64 x2, .int .u64 x3, .int .u64 x4, .slice none 0 0], .int .i64 0]) ?_ rfl ⟨⟨x1, x2, x3, x4⟩, _, rfl, unhide FX, World.grownBy.andThen (unhide G9) mm (fun j hj => by cases hj; exact .inl (Nat.le_refl _)), by rw [unhide HRE]; exact ⟨⟨fun q hq => by cases hq; exact ⟨rfl, unhide HBF⟩, fun h => by cases h⟩, World.ownsRow.kept (unhide R9) mm (.inr (by simp [Value.ownBlock]; omega))⟩⟩
            exact results_ct (ty := 27) rfl _ _ w.heap.size _ rfl (load_rex rfl hh) _ rfl
      · have hbn : (((pkB s b).toNat : Int) != 93) = true := by
          have : (pkB s b).toNat ≠ 93 := fun e => h93 (UInt8.toNat_inj.1 (by rw [e]; rfl))
          simp; omega
        have hil := itemR_le s b hb
        obtain ⟨⟨o2, c2⟩, ho2⟩ : ∃ z, itemR s b = z := ⟨_, rfl⟩
        have HNX : Hid ((o2 = none → LR = (none, c2)) ∧ (∀ q, o2 = some q → LR = loopR s (fun j => p j || q j) c2)) := hide ⟨fun e => by rw [unhide HLR]; subst e; exact loopR_err h93 ho2, fun q e => by rw [unhide HLR]; subst e; exact loopR_go hb h93 ho2⟩
        rw [ho2] at hil
        have HO2 := hide ho2
        obtain ⟨pb, hpb⟩ : ∃ pb, pkB s b = pb := ⟨_, rfl⟩
        rw [hpb] at HPK1 hbn
        clear h93 ho2 hpb HLR
        go_wp2_with fail
        refine (unhide HPK1).mono ?_
        rintro e w4 ⟨rfl, b4⟩
        have HM0 : Hid (s.size + 1 - cellI wr g 1 = s.size + 1 - b) := hide (by rw [(unhide R3).cellI])
        have hsz4 := b4.size
        have R4 := hide (((unhide R3).below b4).below ((Below.refl _ w4).alloc (Nat.le_refl _) (.cells #[.int .u64 0, .int .u64 0, .int .u64 0, .int .u64 0] 24)))
        have SB4 := hide ((own_below (unhide SB3) b4).alloc (.cells #[.int .u64 0, .int .u64 0, .int .u64 0, .int .u64 0] 24))
        have RB4 := hide ((own_below (unhide RB3) b4).alloc (.cells #[.int .u64 0, .int .u64 0, .int .u64 0, .int .u64 0] 24))
        have G4 := hide (((unhide G3).trans (grown_below' b4 (some g))).trans (World.grownBy_alloc w4 (.cells #[.int .u64 0, .int .u64 0, .int .u64 0, .int .u64 0] 24) (some g)))
        have hw4 : w.heap.size ≤ w4.heap.size := by have := (unhide G3).size; omega
        have MB4 := hide (SBnew (w := w) (W := w4) hw4 ⟨0, 0, 0, 0⟩)
        have hg4 : g < w4.heap.size := by have := ((unhide R3).below b4).lt.2; exact this
        have hs4 : gs < w4.heap.size := ((own_below (unhide SB3) b4).lt _ rfl).2
        have hr4 : w.heap.size < w4.heap.size := ((own_below (unhide RB3) b4).lt _ rfl).2
        obtain ⟨gm, hgm⟩ : ∃ gm, w4.heap.size = gm := ⟨_, rfl⟩
        have HI4 := hide ((unhide HIT) _ b (unhide R4) hb)
        rw [unhide HO2] at HI4
        rw [hgm] at MB4 hg4 hs4 hr4
        dsimp only at MB4
        have hgsg : gs ≠ g := by omega
        have hgmg : gm ≠ g := by omega
        have hgms : gm ≠ gs := by omega
        have hgmr : gm ≠ w.heap.size := by omega
        have hgsr : gs ≠ w.heap.size := by omega
        clear b4 HPK1 hsz4 hw4
        go_wp2_with fail
        refine (unhide HI4).mono ?_
        rintro e w5 ⟨t', z', rfl, ft', g5, hip, r5⟩
        have MB5 := (unhide MB4).kept g5 (.inr (by simp [Value.ownBlock]; exact hgmg))
        have SB5 := (unhide SB4).kept g5 (.inr (by simp [Value.ownBlock]; exact hgsg))
        have RB5 := (unhide RB4).kept g5 (.inr (by simp [Value.ownBlock]; exact hne))
        have G5 := (unhide G4).trans g5
        clear g5 HI4 MB4 SB4 RB4 G4 R4
        obtain ⟨p1, p2, p3, p4⟩ := t'
        obtain ⟨k1, k2, k3, k4⟩ := cur
        dsimp only at *
        have m0 := MB5.cellAt 0 (by omega)
        have m1 := MB5.cellAt 1 (by omega)
        have m2 := MB5.cellAt 2 (by omega)
        have m3 := MB5.cellAt 3 (by omega)
        have f0 := MB5.frozenAt 0
        have f1 := MB5.frozenAt 1
        have f2 := MB5.frozenAt 2
        have f3 := MB5.frozenAt 3
        obtain ⟨u1, n1⟩ := MB5.stored 0 (.int .u64 p1)
        obtain ⟨u2, n2⟩ := u1.stored 1 (.int .u64 p2)
        obtain ⟨u3, n3⟩ := u2.stored 2 (.int .u64 p3)
        obtain ⟨u4, n4⟩ := u3.stored 3 (.int .u64 p4)
        have nn := ((n1.trans n2).trans n3).trans n4
        obtain ⟨W6, hW6⟩ : ∃ W6, ((((w5.setCell ⟨gm, 0, none⟩ (.int .u64 p1)).setCell ⟨gm, 1, none⟩ (.int .u64 p2)).setCell ⟨gm, 2, none⟩ (.int .u64 p3)).setCell ⟨gm, 3, none⟩ (.int .u64 p4)) = W6 := ⟨_, rfl⟩
        have R6 : Rd W6 B g s c2 op := by rw [← hW6]; exact World.ownsRow.kept r5 nn (.inr (by simp [Value.ownBlock]; omega))
        have SB6 := SB5.kept nn (.inr (by simp [Value.ownBlock]; omega))
        have RB6 := RB5.kept nn (.inr (by simp [Value.ownBlock]; omega))
        have G6 := World.grownBy.andThen G5 nn (fun j hj => by cases hj; exact .inl (by omega))
        rw [hW6] at SB6 RB6 G6 u4
        have q0 := u4.cellAt 0 (by omega)
        have q1 := u4.cellAt 1 (by omega)
        have q2 := u4.cellAt 2 (by omega)
        have q3 := u4.cellAt 3 (by omega)
        have s0 := SB6.cellAt 0 (by omega)
        have s1 := SB6.cellAt 1 (by omega)
        have s2 := SB6.cellAt 2 (by omega)
        have s3 := SB6.cellAt 3 (by omega)
        simp only [cellsW] at m0 m1 m2 m3 q0 q1 q2 q3 s0 s1 s2 s3
        have HU6 := hide ((unhide HUN) ⟨k1, k2, k3, k4⟩ ⟨p1, p2, p3, p4⟩ W6 (unhide FC) ft')
        have FO := hide (orS_fit (unhide FC) ft')
        have BO := hide (fun j hj => orS_bit (unhide FC) ft' j hj)
        have R6' := hide R6
        have SB6' := hide SB6
        have RB6' := hide RB6
        have G6' := hide G6
        have IP := hide hip
        clear MB5 SB5 RB5 G5 r5 u1 u2 u3 u4 n1 n2 n3 n4 nn R6 SB6 RB6 G6 hip ft'
        obtain ⟨⟨j1, j2, j3, j4⟩, hj⟩ : ∃ z, orS ⟨k1, k2, k3, k4⟩ ⟨p1, p2, p3, p4⟩ = z := ⟨_, rfl⟩
        rw [hj] at HU6 FO BO
        dsimp only at HU6
        clear hj
        go_wp2_with fail
        clear hW6 hgm
        refine (unhide HU6).mono ?_
        rintro e w7 ⟨rfl, b7⟩
        have R7 := hide ((unhide R6').below b7)
        have SB7 := hide (own_below (unhide SB6') b7)
        have RB7 := hide (own_below (unhide RB6') b7)
        have G7 := hide ((unhide G6').trans (grown_below' b7 (some g)))
        clear b7 HU6 m0 m1 m2 m3 q0 q1 q2 q3 s0 s1 s2 s3 f0 f1 f2 f3
        have s0 := (unhide SB7).cellAt 0 (by omega)
        have s1 := (unhide SB7).cellAt 1 (by omega)
        have s2 := (unhide SB7).cellAt 2 (by omega)
        have s3 := (unhide SB7).cellAt 3 (by omega)
        have f0 := (unhide SB7).frozenAt 0
        have f1 := (unhide SB7).frozenAt 1
        have f2 := (unhide SB7).frozenAt 2
        have f3 := (unhide SB7).frozenAt 3
        simp only [cellsW] at s0 s1 s2 s3
        go_wp2_with fail
        obtain ⟨u1, n1⟩ := (unhide SB7).stored 0 (.int .u64 j1)
        obtain ⟨u2, n2⟩ := u1.stored 1 (.int .u64 j2)
        obtain ⟨u3, n3⟩ := u2.stored 2 (.int .u64 j3)
        obtain ⟨u4, n4⟩ := u3.stored 3 (.int .u64 j4)
        have nn := ((n1.trans n2).trans n3).trans n4
        have R8 : Rd _ B g s c2 op := World.ownsRow.kept (unhide R7) nn (.inr (by simp [Value.ownBlock]; omega))
        refine ⟨⟨⟨j1, j2, j3, j4⟩, z', c2, rfl, unhide FO, R8, hil.1, u4, (unhide RB7).kept nn (.inr (by simp [Value.ownBlock]; omega)), World.grownBy.andThen (unhide G7) nn (fun j hj => by cases hj; exact .inl (by omega)), ?_⟩, ?_⟩
        · cases o2 with
          | none => exact .inr ⟨(unhide IP).2 rfl, (unhide HNX).1 rfl⟩
          | some q => exact .inl ⟨((unhide IP).1 q rfl).1, _, fun j hj => by rw [(unhide BO) j hj, (unhide HP) j hj, ((unhide IP).1 q rfl).2 j hj], (unhide HNX).2 q rfl⟩
        · have e0 : intOf (Value.int .i64 0) = 0 := rfl
          rw [R8.cellI, if_pos e0, unhide HM0]
          split
          · cases o2 with
            | none => have := (unhide IP).2 rfl; simp_all [intOf]
            | some q => have := hil.2 q rfl; omega
          · omega
    · have HRE : Hid (res = (none, b)) := hide (by rw [unhide HEND, hlr]; rfl)
      obtain ⟨w4, hw4⟩ : ∃ w4, wr = w4 := ⟨_, rfl⟩
      have b4 : Below wr.heap.size wr w4 := by rw [← hw4]; exact Below.refl _ _
      have R4 := hide ((unhide R3).below b4)
      have SB4 := hide (own_below (unhide SB3) b4)
      have RB4 := hide (own_below (unhide RB3) b4)
      have G4 := hide ((unhide G3).trans (grown_below' b4 (some g)))
      have hgs4 : gs ≠ g := by omega
      have hgsr4 : gs ≠ w.heap.size := by omega
      obtain ⟨k1, k2, k3, k4⟩ := cur
      clear b4
      rw [hw4] at *
      clear hlr HEND HIT HPK HUN hw4
      have s0 := (unhide SB4).cellAt 0 (by omega)
      have s1 := (unhide SB4).cellAt 1 (by omega)
      have s2 := (unhide SB4).cellAt 2 (by omega)
      have s3 := (unhide SB4).cellAt 3 (by omega)
      have f0 := (unhide SB4).frozenAt 0
      have f1 := (unhide SB4).frozenAt 1
      have f2 := (unhide SB4).frozenAt 2
      have f3 := (unhide SB4).frozenAt 3
      simp only [cellsW] at s0 s1 s2 s3
      cases nb
      · go_wp2_with fail
        refine ((unhide HBO) ⟨k1, k2, k3, k4⟩ _).mono ?_
        rintro e w9 ⟨rfl, b9⟩
        have R9 := hide ((unhide R4).below b9)
        have G9 := hide ((unhide G4).trans (grown_below' b9 (some g)))
        have RB9 := hide (own_below (unhide RB4) b9)
        clear b9
        have y0 := (unhide RB9).cellAt 0 (by omega)
        have y1 := (unhide RB9).cellAt 1 (by omega)
        have y2 := (unhide RB9).cellAt 2 (by omega)
        have y3 := (unhide RB9).cellAt 3 (by omega)
        have y4 := (unhide RB9).cellAt 4 (by omega)
        have y5 := (unhide RB9).cellAt 5 (by omega)
        have h0 := (unhide RB9).frozenAt 0
        have h1 := (unhide RB9).frozenAt 1
        have h2 := (unhide RB9).frozenAt 2
        have h3 := (unhide RB9).frozenAt 3
        have h4 := (unhide RB9).frozenAt 4
        have h5 := (unhide RB9).frozenAt 5
        dsimp only
        go_wp2_with fail
        obtain ⟨v0, m0⟩ := (unhide RB9).stored 0 (.int .i64 3)
        obtain ⟨v1, m1⟩ := v0.stored 1 (.int .u64 k1)
        obtain ⟨v2, m2⟩ := v1.stored 2 (.int .u64 k2)
        obtain ⟨v3, m3⟩ := v2.stored 3 (.int .u64 k3)
        obtain ⟨v4, m4⟩ := v3.stored 4 (.int .u64 k4)
        obtain ⟨v5, m5⟩ := v4.stored 5 (.slice none 0 0)
        have mm := ((((m0.trans m1).trans m2).trans m3).trans m4).trans m5
        obtain ⟨fr, hh⟩ := own_one v5
        (try simp only [Exit.inBlock, Exit.then])
        refine bodyPost_ret_by (v := .tuple #[.agg #[.int .i64 3, .int .u64 k1, .int .u64 k2, .int .u64 k3, .int .u64 k4, .slice none 0 0], .int .i64 3]) ?_ rfl ⟨⟨k1, k2, k3, k4⟩, _, rfl, unhide FC, World.grownBy.andThen (unhide G9) mm (fun j hj => by cases hj; exact .inl (Nat.le_refl _)), by rw [unhide HRE]; exact ⟨⟨fun q hq => (by cases hq), fun _ => rfl⟩, World.ownsRow.kept (unhide R9) mm (.inr (by simp [Value.ownBlock]; omega))⟩⟩
        exact results_ct (ty := 27) rfl _ _ w.heap.size _ rfl (load_rex rfl hh) _ rfl
      · have HON := hide ((unhide HOT) ⟨k1, k2, k3, k4⟩ w4 (unhide FC))
        have FX := hide (notS_fit (unhide FC))
        have BX := hide (fun j hj => notS_bit (unhide FC) j hj)
        obtain ⟨⟨x1, x2, x3, x4⟩, hx⟩ : ∃ z, notS ⟨k1, k2, k3, k4⟩ = z := ⟨_, rfl⟩
        rw [hx] at HON FX BX
        dsimp only at HON
        clear hx
        go_wp2_with fail
        refine (unhide HON).mono ?_
        rintro e w5 ⟨rfl, b5⟩
        have SB5 := own_below (unhide SB4) b5
        have R5 := (unhide R4).below b5
        have RB5 := own_below (unhide RB4) b5
        have G5 := (unhide G4).trans (grown_below' b5 (some g))
        clear b5 s0 s1 s2 s3 f0 f1 f2 f3
        have s0 := SB5.cellAt 0 (by omega)
        have s1 := SB5.cellAt 1 (by omega)
        have s2 := SB5.cellAt 2 (by omega)
        have s3 := SB5.cellAt 3 (by omega)
        have f0 := SB5.frozenAt 0
        have f1 := SB5.frozenAt 1
        have f2 := SB5.frozenAt 2
        have f3 := SB5.frozenAt 3
        simp only [cellsW] at s0 s1 s2 s3
        obtain ⟨u1, n1⟩ := SB5.stored 0 (.int .u64 x1)
        obtain ⟨u2, n2⟩ := u1.stored 1 (.int .u64 x2)
        obtain ⟨u3, n3⟩ := u2.stored 2 (.int .u64 x3)
        obtain ⟨u4, n4⟩ := u3.stored 3 (.int .u64 x4)
        have nn := ((n1.trans n2).trans n3).trans n4
        obtain ⟨W6, hW6⟩ : ∃ W6, ((((w5.setCell ⟨gs, 0, none⟩ (.int .u64 x1)).setCell ⟨gs, 1, none⟩ (.int .u64 x2)).setCell ⟨gs, 2, none⟩ (.int .u64 x3)).setCell ⟨gs, 3, none⟩ (.int .u64 x4)) = W6 := ⟨_, rfl⟩
        have R6 : Rd W6 B g s b op := by rw [← hW6]; exact World.ownsRow.kept R5 nn (.inr (by simp [Value.ownBlock]; omega))
        have RB6 := RB5.kept nn (.inr (by simp [Value.ownBlock]; omega))
        have G6 := World.grownBy.andThen G5 nn (fun j hj => by cases hj; exact .inl (by omega))
        rw [hW6] at RB6 G6 u4
        have z0 := u4.cellAt 0 (by omega)
        have z1 := u4.cellAt 1 (by omega)
        have z2 := u4.cellAt 2 (by omega)
        have z3 := u4.cellAt 3 (by omega)
        simp only [cellsW] at z0 z1 z2 z3
        have SB6' := hide u4
        have R6' := hide R6
        have RB6' := hide RB6
        have G6' := hide G6
        clear SB5 R5 RB5 G5 u1 u2 u3 u4 n1 n2 n3 n4 nn R6 RB6 G6
        go_wp2_with fail
        clear hW6
        refine ((unhide HBO) ⟨x1, x2, x3, x4⟩ _).mono ?_
        rintro e w9 ⟨rfl, b9⟩
        have R9 := hide ((unhide R6').below b9)
        have G9 := hide ((unhide G6').trans (grown_below' b9 (some g)))
        have RB9 := hide (own_below (unhide RB6') b9)
        clear b9
        have y0 := (unhide RB9).cellAt 0 (by omega)
        have y1 := (unhide RB9).cellAt 1 (by omega)
        have y2 := (unhide RB9).cellAt 2 (by omega)
        have y3 := (unhide RB9).cellAt 3 (by omega)
        have y4 := (unhide RB9).cellAt 4 (by omega)
        have y5 := (unhide RB9).cellAt 5 (by omega)
        have h0 := (unhide RB9).frozenAt 0
        have h1 := (unhide RB9).frozenAt 1
        have h2 := (unhide RB9).frozenAt 2
        have h3 := (unhide RB9).frozenAt 3
        have h4 := (unhide RB9).frozenAt 4
        have h5 := (unhide RB9).frozenAt 5
        dsimp only
        go_wp2_with fail
        obtain ⟨v0, m0⟩ := (unhide RB9).stored 0 (.int .i64 3)
        obtain ⟨v1, m1⟩ := v0.stored 1 (.int .u64 x1)
        obtain ⟨v2, m2⟩ := v1.stored 2 (.int .u64 x2)
        obtain ⟨v3, m3⟩ := v2.stored 3 (.int .u64 x3)
        obtain ⟨v4, m4⟩ := v3.stored 4 (.int .u64 x4)
        obtain ⟨v5, m5⟩ := v4.stored 5 (.slice none 0 0)
        have mm := ((((m0.trans m1).trans m2).trans m3).trans m4).trans m5
        obtain ⟨fr, hh⟩ := own_one v5
        (try simp only [Exit.inBlock, Exit.then])
        refine bodyPost_ret_by (v := .tuple #[.agg #[.int .i64 3, .int .u64 x1, .int .u64 x2, .int .u64 x3, .int .u64 x4, .slice none 0 0], .int .i64 3]) ?_ rfl ⟨⟨x1, x2, x3, x4⟩, _, rfl, unhide FX, World.grownBy.andThen (unhide G9) mm (fun j hj => by cases hj; exact .inl (Nat.le_refl _)), by rw [unhide HRE]; exact ⟨⟨fun q hq => (by cases hq), fun _ => rfl⟩, World.ownsRow.kept (unhide R9) mm (.inr (by simp [Value.ownBlock]; omega))⟩⟩
        exact results_ct (ty := 27) rfl _ _ w.heap.size _ rfl (load_rex rfl hh) _ rfl
end Go.Proofs.Ytjecopdbcaojcaa
