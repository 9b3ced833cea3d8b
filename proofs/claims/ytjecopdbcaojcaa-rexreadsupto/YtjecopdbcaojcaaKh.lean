/- The program's reading of \d, \w and \s: class. -/
import Derived.Test.YtjecopdbcaojcaaKg
namespace Go.Proofs.Ytjecopdbcaojcaa
open Go.RowKit Kb
set_option linter.unusedVariables false
set_option maxRecDepth 20000

def blkP (j : Nat) : Bool := decide (j = 32) || betw 9 13 j
/-- the bytes of \d, \w or \s, if that stands here -/
def clsP (s : ByteArray) (a : Nat) : Option (Nat → Bool) :=
  if pkB s a = 92 then (if pkB s (a + 1) = 100 then some (betw 48 57) else if pkB s (a + 1) = 119 then some wordP else if pkB s (a + 1) = 115 then some blkP else none) else none
theorem pkB_drop (s : ByteArray) (a : Nat) (h : a < s.size) : s.data.toList.drop a = pkB s a :: s.data.toList.drop (a + 1) := by
  rw [Kb.drop_cons s a h]; unfold pkB; rw [dif_pos h]
theorem pfx (s : ByteArray) (a : Nat) (c : UInt8) (hc : c ≠ 0) : Lib.hasPrefix (s.data.toList.drop a) [92, c] = (decide (pkB s a = 92) && decide (pkB s (a + 1) = c)) := by
  unfold Lib.hasPrefix
  by_cases h : a < s.size
  · rw [pkB_drop s a h]
    by_cases h2 : a + 1 < s.size
    · rw [pkB_drop s (a + 1) h2]
      simp [List.isPrefixOf, eq_comm]
      cases h1 : (92 == pkB s a) <;> cases h2 : (c == pkB s (a + 1)) <;> simp_all
    · rw [Kb.drop_end s (a + 1) (by omega)]
      have : pkB s (a + 1) = 0 := by unfold pkB; rw [dif_neg h2]
      rw [this]
      simp [List.isPrefixOf, Ne.symm hc]
  · rw [Kb.drop_end s a (by omega)]
    have : pkB s a = 0 := by unfold pkB; rw [dif_neg h]
    rw [this]
    simp [List.isPrefixOf]
set_option maxHeartbeats 4000000 in
theorem class_any (w : World) (B g : Nat) (s : ByteArray) (a op : Nat) (h : Rd w B g s a op) (hs : s.size ≤ 100000) (ha : a ≤ s.size) :
    Calls Try.prog 52 #[.pointer (some ⟨g, 0, none⟩)] w fun e w' => ∃ (t : Se) (ok : Bool), e = .returned (.tuple #[setV t, .bool ok]) ∧ FitS t ∧ w.grownBy w' (some g) ∧ ((∃ p, clsP s a = some p ∧ ok = true ∧ (∀ j, j < 256 → bit t j = p j) ∧ Rd w' B g s (a + 2) op) ∨ (clsP s a = none ∧ ok = false ∧ Rd w' B g s a op)) := by
  have HD := hide digits_any
  have HWD := hide word_any
  have HBL := hide blanks_any
  have R0 := hide (Rd.below h (((Below.refl _ w).alloc (Nat.le_refl _) (.cells #[.int .u64 0, .int .u64 0, .int .u64 0, .int .u64 0] 24)).alloc (by simp) (.cells #[.int .u64 0, .int .u64 0, .int .u64 0, .int .u64 0] 24)))
  have hlt := h.lt
  obtain ⟨W0, hW0, hbx, hA, hR⟩ := two_boxes w 0 0 0 0
  rw [hW0] at R0
  obtain ⟨c0, c1, c2⟩ := (unhide R0).cells
  have BX := hide hbx
  have BA := hide hA
  have BR := hide hR
  clear hbx hA hR h
  unfold setV at *
  have haI : 0 ≤ (a : Int) ∧ (a : Int) ≤ s.size := by omega
  obtain ⟨cl, hcl⟩ : ∃ cl, clsP s a = cl := ⟨_, rfl⟩
  rw [hcl]
  have HCL0 := hide hcl
  clear hcl
  go_enter Try.func52, Try.ntmps52
  go_wp2_with fail
  clear hW0
  go_quiet (fail)
  go_wp2_with fail
  obtain ⟨W1, hW1⟩ : ∃ W1, W0.drewN nq = W1 := ⟨_, rfl⟩
  have hb1 : Below W0.heap.size W0 W1 := by rw [← hW1]; exact Go.below_drewN (Below.refl _ _) nq
  rw [hW1]
  have R1 := hide ((unhide R0).below hb1)
  have B1 := hide (bel_trans (unhide BX) hb1)
  have G1 := hide (grown_below' (unhide B1) (some g))
  have BA1 := hide (own_below (unhide BA) hb1)
  have BR1 := hide (own_below (unhide BR) hb1)
  clear hb1 hW1 c0 c1 c2 R0 BX BA BR
  have hX100 := hide (fun W => Try.strings_HasPrefix (s.extract a s.size) ⟨#[92, 100]⟩ W)
  rw [Kb.extract_drop] at hX100
  replace hX100 : Hid (∀ W, Calls Try.prog 64 #[.string (s.extract a s.size), .string ⟨#[92, 100]⟩] W fun e w' => e = .returned (.bool (Lib.hasPrefix (s.data.toList.drop a) [92, 100])) ∧ w' = W) := hX100
  rw [pfx s a 100 (by decide)] at hX100
  have hX119 := hide (fun W => Try.strings_HasPrefix (s.extract a s.size) ⟨#[92, 119]⟩ W)
  rw [Kb.extract_drop] at hX119
  replace hX119 : Hid (∀ W, Calls Try.prog 64 #[.string (s.extract a s.size), .string ⟨#[92, 119]⟩] W fun e w' => e = .returned (.bool (Lib.hasPrefix (s.data.toList.drop a) [92, 119])) ∧ w' = W) := hX119
  rw [pfx s a 119 (by decide)] at hX119
  have hX115 := hide (fun W => Try.strings_HasPrefix (s.extract a s.size) ⟨#[92, 115]⟩ W)
  rw [Kb.extract_drop] at hX115
  replace hX115 : Hid (∀ W, Calls Try.prog 64 #[.string (s.extract a s.size), .string ⟨#[92, 115]⟩] W fun e w' => e = .returned (.bool (Lib.hasPrefix (s.data.toList.drop a) [92, 115])) ∧ w' = W) := hX115
  rw [pfx s a 115 (by decide)] at hX115
  have HCL : Hid (clsP s a = if (decide (pkB s a = 92) && decide (pkB s (a + 1) = 100)) = true then some (betw 48 57) else if (decide (pkB s a = 92) && decide (pkB s (a + 1) = 119)) = true then some wordP else if (decide (pkB s a = 92) && decide (pkB s (a + 1) = 115)) = true then some blkP else none) := hide (by
    unfold clsP
    by_cases h1 : pkB s a = 92 <;> by_cases h2 : pkB s (a + 1) = 100 <;> by_cases h3 : pkB s (a + 1) = 119 <;> by_cases h4 : pkB s (a + 1) = 115 <;> simp [h1, h2, h3, h4])
  generalize (decide (pkB s a = 92) && decide (pkB s (a + 1) = 100)) = b1 at *
  generalize (decide (pkB s a = 92) && decide (pkB s (a + 1) = 119)) = b2 at *
  generalize (decide (pkB s a = 92) && decide (pkB s (a + 1) = 115)) = b3 at *
  rw [unhide HCL0] at HCL
  clear HCL0
  have hgn : w.heap.size ≠ g := by omega
  have hgn1 : w.heap.size + 1 ≠ g := by omega
  refine ((unhide hX100) W1).mono ?_
  rintro e wx ⟨rfl, hwx⟩; rw [hwx]; clear hwx wx hX100
  cases b1
  · rw [if_neg (by simp)] at HCL
    go_wp2_with fail
    refine ((unhide hX119) W1).mono ?_
    rintro e wx ⟨rfl, hwx⟩; rw [hwx]; clear hwx wx hX119
    cases b2
    · rw [if_neg (by simp)] at HCL
      go_wp2_with fail
      refine ((unhide hX115) W1).mono ?_
      rintro e wx ⟨rfl, hwx⟩; rw [hwx]; clear hwx wx hX115
      cases b3
      · rw [if_neg (by simp)] at HCL
        have x0 := (unhide BR1).cellAt 0 (by omega)
        have x1 := (unhide BR1).cellAt 1 (by omega)
        have x2 := (unhide BR1).cellAt 2 (by omega)
        have x3 := (unhide BR1).cellAt 3 (by omega)
        have y0 := (unhide BA1).cellAt 0 (by omega)
        have y1 := (unhide BA1).cellAt 1 (by omega)
        have y2 := (unhide BA1).cellAt 2 (by omega)
        have y3 := (unhide BA1).cellAt 3 (by omega)
        have f0 := (unhide BA1).frozenAt 0
        have f1 := (unhide BA1).frozenAt 1
        have f2 := (unhide BA1).frozenAt 2
        have f3 := (unhide BA1).frozenAt 3
        simp only [cellsW] at x0 x1 x2 x3 y0 y1 y2 y3
        go_wp2_with fail
        obtain ⟨v1, m1⟩ := (unhide BA1).stored 0 (.int .u64 0)
        obtain ⟨v2, m2⟩ := v1.stored 1 (.int .u64 0)
        obtain ⟨v3, m3⟩ := v2.stored 2 (.int .u64 0)
        obtain ⟨v4, m4⟩ := v3.stored 3 (.int .u64 0)
        have mm := ((m1.trans m2).trans m3).trans m4
        obtain ⟨fr, hh⟩ := own_one v4
        (try simp only [Exit.inBlock, Exit.then])
        refine bodyPost_ret_by (v := .tuple #[setV ⟨0, 0, 0, 0⟩, .bool false]) ?_ rfl ⟨_, _, rfl, fit0, World.grownBy.andThen (unhide G1) mm (fun j hj => by cases hj; exact .inl (Nat.le_refl _)), .inr ⟨unhide HCL, rfl, World.ownsRow.kept (unhide R1) mm (.inr (by simp [Value.ownBlock]; omega))⟩⟩
        exact results_ct (ty := 24) rfl _ _ w.heap.size _ rfl (load_set hh) _ rfl
      · rw [if_pos rfl] at HCL
        clear HD HWD
        go_wp2_with fail
        refine ((unhide HBL) _).mono ?_
        rintro e w3 ⟨t, rfl, ft, ht, b3⟩
        have R3 := hide ((unhide R1).below b3)
        have G3 := hide ((unhide G1).trans (grown_below' b3 (some g)))
        have BA3 := hide (own_below (unhide BA1) b3)
        have BR3 := hide (own_below (unhide BR1) b3)
        have FT := hide ft
        have HT := hide ht
        clear b3 ft ht
        obtain ⟨t1, t2, t3, t4⟩ := t
        dsimp only
        have a0 := (unhide BR3).cellAt 0 (by omega)
        have a1 := (unhide BR3).cellAt 1 (by omega)
        have a2 := (unhide BR3).cellAt 2 (by omega)
        have a3 := (unhide BR3).cellAt 3 (by omega)
        have f0 := (unhide BR3).frozenAt 0
        have f1 := (unhide BR3).frozenAt 1
        have f2 := (unhide BR3).frozenAt 2
        have f3 := (unhide BR3).frozenAt 3
        simp only [cellsW] at a0 a1 a2 a3
        obtain ⟨u1, k1⟩ := (unhide BR3).stored 0 (.int .u64 t1)
        obtain ⟨u2, k2⟩ := u1.stored 1 (.int .u64 t2)
        obtain ⟨u3, k3⟩ := u2.stored 2 (.int .u64 t3)
        obtain ⟨u4, k4⟩ := u3.stored 3 (.int .u64 t4)
        obtain ⟨W4, hW4⟩ : ∃ W4, ((((w3.setCell ⟨w.heap.size + 1, 0, none⟩ (.int .u64 t1)).setCell ⟨w.heap.size + 1, 1, none⟩ (.int .u64 t2)).setCell ⟨w.heap.size + 1, 2, none⟩ (.int .u64 t3)).setCell ⟨w.heap.size + 1, 3, none⟩ (.int .u64 t4)) = W4 := ⟨_, rfl⟩
        have kk := ((k1.trans k2).trans k3).trans k4
        have R4 : Rd W4 B g s a op := by rw [← hW4]; exact World.ownsRow.kept (unhide R3) kk (.inr (by simp [Value.ownBlock]; omega))
        have BA4 : W4.ownsRow w.heap.size 24 4 (.slice (some ⟨w.heap.size, 0, none⟩) 1 1) 1 (cellsW ⟨0, 0, 0, 0⟩) := by rw [← hW4]; exact (unhide BA3).kept kk (.inr (by simp [Value.ownBlock]))
        have BR4 : W4.ownsRow w.heap.size 24 4 (.slice (some ⟨w.heap.size + 1, 0, none⟩) 1 1) 1 (cellsW ⟨t1, t2, t3, t4⟩) := by rw [← hW4]; exact u4
        have G4 : w.grownBy W4 (some g) := by rw [← hW4]; exact World.grownBy.andThen (unhide G3) kk (fun j hj => by cases hj; exact .inl (by omega))
        have rc := R4.cells
        obtain ⟨e0, e1, e2⟩ := rc
        have ef := R4.frozen 1
        obtain ⟨R5, k5⟩ := R4.setAt (a + 2)
        rw [show ((a + 2 : Nat) : Int) = (a : Int) + 2 by omega] at R5 k5
        have BA5 := BA4.kept k5 (.inr (by simp [Value.ownBlock]; omega))
        have BR5 := BR4.kept k5 (.inr (by simp [Value.ownBlock]; omega))
        have G5 := G4.trans k5
        clear u1 u2 u3 u4 k1 k2 k3 k4 kk
        obtain ⟨W5, hW5⟩ : ∃ W5, W4.setCell ⟨g, 1, none⟩ (.int .i64 ((a : Int) + 2)) = W5 := ⟨_, rfl⟩
        rw [hW5] at R5 BA5 BR5 G5
        have x0 := BR5.cellAt 0 (by omega)
        have x1 := BR5.cellAt 1 (by omega)
        have x2 := BR5.cellAt 2 (by omega)
        have x3 := BR5.cellAt 3 (by omega)
        have y0 := BA5.cellAt 0 (by omega)
        have y1 := BA5.cellAt 1 (by omega)
        have y2 := BA5.cellAt 2 (by omega)
        have y3 := BA5.cellAt 3 (by omega)
        have b0 := BA5.frozenAt 0
        have b1 := BA5.frozenAt 1
        have b2 := BA5.frozenAt 2
        have b3 := BA5.frozenAt 3
        simp only [cellsW] at x0 x1 x2 x3 y0 y1 y2 y3
        have R5' := hide R5
        have BA5' := hide BA5
        have G5' := hide G5
        clear R5 BA5 BR5 G5 R4 BA4 BR4 G4 k5
        go_wp2_with fail
        obtain ⟨v1, m1⟩ := (unhide BA5').stored 0 (.int .u64 t1)
        obtain ⟨v2, m2⟩ := v1.stored 1 (.int .u64 t2)
        obtain ⟨v3, m3⟩ := v2.stored 2 (.int .u64 t3)
        obtain ⟨v4, m4⟩ := v3.stored 3 (.int .u64 t4)
        have mm := ((m1.trans m2).trans m3).trans m4
        obtain ⟨fr, hh⟩ := own_one v4
        (try simp only [Exit.inBlock, Exit.then])
        refine bodyPost_ret_by (v := .tuple #[setV ⟨t1, t2, t3, t4⟩, .bool true]) ?_ rfl ⟨_, _, rfl, unhide FT, World.grownBy.andThen (unhide G5') mm (fun j hj => by cases hj; exact .inl (Nat.le_refl _)), .inl ⟨_, unhide HCL, rfl, unhide HT, World.ownsRow.kept (unhide R5') mm (.inr (by simp [Value.ownBlock]; omega))⟩⟩
        exact results_ct (ty := 24) rfl _ _ w.heap.size _ rfl (load_set hh) _ rfl
    · rw [if_pos rfl] at HCL
      clear hX115
      go_wp2_with fail
      refine ((unhide HWD) _).mono ?_
      rintro e w3 ⟨t, rfl, ft, ht, b3⟩
      have R3 := hide ((unhide R1).below b3)
      have G3 := hide ((unhide G1).trans (grown_below' b3 (some g)))
      have BA3 := hide (own_below (unhide BA1) b3)
      have BR3 := hide (own_below (unhide BR1) b3)
      have FT := hide ft
      have HT := hide ht
      clear b3 ft ht
      obtain ⟨t1, t2, t3, t4⟩ := t
      dsimp only
      have a0 := (unhide BR3).cellAt 0 (by omega)
      have a1 := (unhide BR3).cellAt 1 (by omega)
      have a2 := (unhide BR3).cellAt 2 (by omega)
      have a3 := (unhide BR3).cellAt 3 (by omega)
      have f0 := (unhide BR3).frozenAt 0
      have f1 := (unhide BR3).frozenAt 1
      have f2 := (unhide BR3).frozenAt 2
      have f3 := (unhide BR3).frozenAt 3
      simp only [cellsW] at a0 a1 a2 a3
      obtain ⟨u1, k1⟩ := (unhide BR3).stored 0 (.int .u64 t1)
      obtain ⟨u2, k2⟩ := u1.stored 1 (.int .u64 t2)
      obtain ⟨u3, k3⟩ := u2.stored 2 (.int .u64 t3)
      obtain ⟨u4, k4⟩ := u3.stored 3 (.int .u64 t4)
      obtain ⟨W4, hW4⟩ : ∃ W4, ((((w3.setCell ⟨w.heap.size + 1, 0, none⟩ (.int .u64 t1)).setCell ⟨w.heap.size + 1, 1, none⟩ (.int .u64 t2)).setCell ⟨w.heap.size + 1, 2, none⟩ (.int .u64 t3)).setCell ⟨w.heap.size + 1, 3, none⟩ (.int .u64 t4)) = W4 := ⟨_, rfl⟩
      have kk := ((k1.trans k2).trans k3).trans k4
      have R4 : Rd W4 B g s a op := by rw [← hW4]; exact World.ownsRow.kept (unhide R3) kk (.inr (by simp [Value.ownBlock]; omega))
      have BA4 : W4.ownsRow w.heap.size 24 4 (.slice (some ⟨w.heap.size, 0, none⟩) 1 1) 1 (cellsW ⟨0, 0, 0, 0⟩) := by rw [← hW4]; exact (unhide BA3).kept kk (.inr (by simp [Value.ownBlock]))
      have BR4 : W4.ownsRow w.heap.size 24 4 (.slice (some ⟨w.heap.size + 1, 0, none⟩) 1 1) 1 (cellsW ⟨t1, t2, t3, t4⟩) := by rw [← hW4]; exact u4
      have G4 : w.grownBy W4 (some g) := by rw [← hW4]; exact World.grownBy.andThen (unhide G3) kk (fun j hj => by cases hj; exact .inl (by omega))
      have rc := R4.cells
      obtain ⟨e0, e1, e2⟩ := rc
      have ef := R4.frozen 1
      obtain ⟨R5, k5⟩ := R4.setAt (a + 2)
      rw [show ((a + 2 : Nat) : Int) = (a : Int) + 2 by omega] at R5 k5
      have BA5 := BA4.kept k5 (.inr (by simp [Value.ownBlock]; omega))
      have BR5 := BR4.kept k5 (.inr (by simp [Value.ownBlock]; omega))
      have G5 := G4.trans k5
      clear u1 u2 u3 u4 k1 k2 k3 k4 kk
      obtain ⟨W5, hW5⟩ : ∃ W5, W4.setCell ⟨g, 1, none⟩ (.int .i64 ((a : Int) + 2)) = W5 := ⟨_, rfl⟩
      rw [hW5] at R5 BA5 BR5 G5
      have x0 := BR5.cellAt 0 (by omega)
      have x1 := BR5.cellAt 1 (by omega)
      have x2 := BR5.cellAt 2 (by omega)
      have x3 := BR5.cellAt 3 (by omega)
      have y0 := BA5.cellAt 0 (by omega)
      have y1 := BA5.cellAt 1 (by omega)
      have y2 := BA5.cellAt 2 (by omega)
      have y3 := BA5.cellAt 3 (by omega)
      have b0 := BA5.frozenAt 0
      have b1 := BA5.frozenAt 1
      have b2 := BA5.frozenAt 2
      have b3 := BA5.frozenAt 3
      simp only [cellsW] at x0 x1 x2 x3 y0 y1 y2 y3
      have R5' := hide R5
      have BA5' := hide BA5
      have G5' := hide G5
      clear R5 BA5 BR5 G5 R4 BA4 BR4 G4 k5
      go_wp2_with fail
      obtain ⟨v1, m1⟩ := (unhide BA5').stored 0 (.int .u64 t1)
      obtain ⟨v2, m2⟩ := v1.stored 1 (.int .u64 t2)
      obtain ⟨v3, m3⟩ := v2.stored 2 (.int .u64 t3)
      obtain ⟨v4, m4⟩ := v3.stored 3 (.int .u64 t4)
      have mm := ((m1.trans m2).trans m3).trans m4
      obtain ⟨fr, hh⟩ := own_one v4
      (try simp only [Exit.inBlock, Exit.then])
      refine bodyPost_ret_by (v := .tuple #[setV ⟨t1, t2, t3, t4⟩, .bool true]) ?_ rfl ⟨_, _, rfl, unhide FT, World.grownBy.andThen (unhide G5') mm (fun j hj => by cases hj; exact .inl (Nat.le_refl _)), .inl ⟨_, unhide HCL, rfl, unhide HT, World.ownsRow.kept (unhide R5') mm (.inr (by simp [Value.ownBlock]; omega))⟩⟩
      exact results_ct (ty := 24) rfl _ _ w.heap.size _ rfl (load_set hh) _ rfl
  · rw [if_pos rfl] at HCL
    clear hX119 hX115
    go_wp2_with fail
    refine ((unhide HD) _).mono ?_
    rintro e w3 ⟨t, rfl, ft, ht, b3⟩
    have R3 := hide ((unhide R1).below b3)
    have G3 := hide ((unhide G1).trans (grown_below' b3 (some g)))
    have BA3 := hide (own_below (unhide BA1) b3)
    have BR3 := hide (own_below (unhide BR1) b3)
    have FT := hide ft
    have HT := hide ht
    clear b3 ft ht
    obtain ⟨t1, t2, t3, t4⟩ := t
    dsimp only
    have a0 := (unhide BR3).cellAt 0 (by omega)
    have a1 := (unhide BR3).cellAt 1 (by omega)
    have a2 := (unhide BR3).cellAt 2 (by omega)
    have a3 := (unhide BR3).cellAt 3 (by omega)
    have f0 := (unhide BR3).frozenAt 0
    have f1 := (unhide BR3).frozenAt 1
    have f2 := (unhide BR3).frozenAt 2
    have f3 := (unhide BR3).frozenAt 3
    simp only [cellsW] at a0 a1 a2 a3
    obtain ⟨u1, k1⟩ := (unhide BR3).stored 0 (.int .u64 t1)
    obtain ⟨u2, k2⟩ := u1.stored 1 (.int .u64 t2)
    obtain ⟨u3, k3⟩ := u2.stored 2 (.int .u64 t3)
    obtain ⟨u4, k4⟩ := u3.stored 3 (.int .u64 t4)
    obtain ⟨W4, hW4⟩ : ∃ W4, ((((w3.setCell ⟨w.heap.size + 1, 0, none⟩ (.int .u64 t1)).setCell ⟨w.heap.size + 1, 1, none⟩ (.int .u64 t2)).setCell ⟨w.heap.size + 1, 2, none⟩ (.int .u64 t3)).setCell ⟨w.heap.size + 1, 3, none⟩ (.int .u64 t4)) = W4 := ⟨_, rfl⟩
    have kk := ((k1.trans k2).trans k3).trans k4
    have R4 : Rd W4 B g s a op := by rw [← hW4]; exact World.ownsRow.kept (unhide R3) kk (.inr (by simp [Value.ownBlock]; omega))
    have BA4 : W4.ownsRow w.heap.size 24 4 (.slice (some ⟨w.heap.size, 0, none⟩) 1 1) 1 (cellsW ⟨0, 0, 0, 0⟩) := by rw [← hW4]; exact (unhide BA3).kept kk (.inr (by simp [Value.ownBlock]))
    have BR4 : W4.ownsRow w.heap.size 24 4 (.slice (some ⟨w.heap.size + 1, 0, none⟩) 1 1) 1 (cellsW ⟨t1, t2, t3, t4⟩) := by rw [← hW4]; exact u4
    have G4 : w.grownBy W4 (some g) := by rw [← hW4]; exact World.grownBy.andThen (unhide G3) kk (fun j hj => by cases hj; exact .inl (by omega))
    have rc := R4.cells
    obtain ⟨e0, e1, e2⟩ := rc
    have ef := R4.frozen 1
    obtain ⟨R5, k5⟩ := R4.setAt (a + 2)
    rw [show ((a + 2 : Nat) : Int) = (a : Int) + 2 by omega] at R5 k5
    have BA5 := BA4.kept k5 (.inr (by simp [Value.ownBlock]; omega))
    have BR5 := BR4.kept k5 (.inr (by simp [Value.ownBlock]; omega))
    have G5 := G4.trans k5
    clear u1 u2 u3 u4 k1 k2 k3 k4 kk
    obtain ⟨W5, hW5⟩ : ∃ W5, W4.setCell ⟨g, 1, none⟩ (.int .i64 ((a : Int) + 2)) = W5 := ⟨_, rfl⟩
    rw [hW5] at R5 BA5 BR5 G5
    have x0 := BR5.cellAt 0 (by omega)
    have x1 := BR5.cellAt 1 (by omega)
    have x2 := BR5.cellAt 2 (by omega)
    have x3 := BR5.cellAt 3 (by omega)
    have y0 := BA5.cellAt 0 (by omega)
    have y1 := BA5.cellAt 1 (by omega)
    have y2 := BA5.cellAt 2 (by omega)
    have y3 := BA5.cellAt 3 (by omega)
    have b0 := BA5.frozenAt 0
    have b1 := BA5.frozenAt 1
    have b2 := BA5.frozenAt 2
    have b3 := BA5.frozenAt 3
    simp only [cellsW] at x0 x1 x2 x3 y0 y1 y2 y3
    have R5' := hide R5
    have BA5' := hide BA5
    have G5' := hide G5
    clear R5 BA5 BR5 G5 R4 BA4 BR4 G4 k5
    go_wp2_with fail
    obtain ⟨v1, m1⟩ := (unhide BA5').stored 0 (.int .u64 t1)
    obtain ⟨v2, m2⟩ := v1.stored 1 (.int .u64 t2)
    obtain ⟨v3, m3⟩ := v2.stored 2 (.int .u64 t3)
    obtain ⟨v4, m4⟩ := v3.stored 3 (.int .u64 t4)
    have mm := ((m1.trans m2).trans m3).trans m4
    obtain ⟨fr, hh⟩ := own_one v4
    (try simp only [Exit.inBlock, Exit.then])
    refine bodyPost_ret_by (v := .tuple #[setV ⟨t1, t2, t3, t4⟩, .bool true]) ?_ rfl ⟨_, _, rfl, unhide FT, World.grownBy.andThen (unhide G5') mm (fun j hj => by cases hj; exact .inl (Nat.le_refl _)), .inl ⟨_, unhide HCL, rfl, unhide HT, World.ownsRow.kept (unhide R5') mm (.inr (by simp [Value.ownBlock]; omega))⟩⟩
    exact results_ct (ty := 24) rfl _ _ w.heap.size _ rfl (load_set hh) _ rfl
end Go.Proofs.Ytjecopdbcaojcaa
