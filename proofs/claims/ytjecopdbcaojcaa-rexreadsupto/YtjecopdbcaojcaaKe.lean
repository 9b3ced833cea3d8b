/- The program's reading of expressions: char; sets of many bytes: union, digits, blanks. -/
import Derived.Test.YtjecopdbcaojcaaKa
namespace Go.Proofs.Ytjecopdbcaojcaa
open Go.RowKit Kb
set_option linter.unusedVariables false
set_option maxRecDepth 20000

/-- a byte that stands for one -/
def charR (s : ByteArray) (a : Nat) : Option Nat × Nat :=
  if pkB s a = 92 then escR s (a + 1) else if plR (pkB s a) = true then (some (pkB s a).toNat, a + 1) else (none, a)
set_option maxHeartbeats 2000000 in
theorem charR_any (w : World) (B g : Nat) (s : ByteArray) (a op : Nat) (h : Rd w B g s a op) (hs : s.size ≤ 100000) (ha : a ≤ s.size) :
    Calls Try.prog 53 #[.pointer (some ⟨g, 0, none⟩)] w fun e w' => e = .returned (retB (charR s a).1) ∧ w.grownBy w' (some g) ∧ Rd w' B g s (charR s a).2 op := by
  have HT := hide (take_any w B g s a op 92 h hs ha)
  have HP := hide (fun W (r : Rd W B g s a op) => peekR_any W B g s a op r hs ha)
  have HH : Hid (∀ W, pkB s a = 92 → Rd W B g s (a + 1) op → Calls Try.prog 68 #[.pointer (some ⟨g, 0, none⟩)] W fun e w' => e = .returned (retB (escR s (a + 1)).1) ∧ W.grownBy w' (some g) ∧ Rd w' B g s (escR s (a + 1)).2 op) := hide (fun W he r => escaped_any W B g s (a + 1) op r hs (by have := pk_lt (s := s) (a := a) (by rw [he]; decide); omega))
  have HS := hide (plainR_any (pkB s a))
  clear h
  obtain ⟨x, hx⟩ : ∃ x, pkB s a = x := ⟨_, rfl⟩
  have HE : Hid (charR s a = if x = 92 then escR s (a + 1) else if plR x = true then (some x.toNat, a + 1) else (none, a)) := hide (by unfold charR; rw [hx])
  have HTA : Hid (tkA s a 92 = if x = 92 then a + 1 else a) := hide (by unfold tkA; rw [hx])
  obtain ⟨res, hres⟩ : ∃ res, charR s a = res := ⟨_, rfl⟩
  rw [hres] at HE ⊢
  rw [hx] at HP HT HH HS
  clear hx hres
  have hxl := x.toNat_lt
  go_enter Try.func53, Try.ntmps53
  by_cases h92 : x = 92
  · rw [if_pos h92] at HE HTA
    rw [unhide HTA, decide_eq_true h92] at HT
    have HHC := hide (fun W r => (unhide HH) W h92 r)
    clear h92 HH HTA
    go_wp2_with fail
    refine (unhide HT).mono ?_
    rintro e w3 ⟨rfl, g3, r3⟩
    have HHD := hide ((unhide HHC) w3 r3)
    have G3 := hide g3
    clear g3 r3 HT HHC
    obtain ⟨⟨o1, a1⟩, ho1⟩ : ∃ o1, escR s (a + 1) = o1 := ⟨_, rfl⟩
    rw [ho1] at HHD HE
    clear ho1
    unfold retB at HHD
    cases o1
    · go_wp2_with fail
      refine (unhide HHD).mono ?_
      rintro e w4 ⟨rfl, g4, r4⟩
      have G4 := hide ((unhide G3).trans g4)
      have R4 := hide r4
      clear g4 r4 HHD
      go_wp2_with fail
      go_ret2
      obtain rfl := unhide HE
      exact ⟨rfl, unhide G4, unhide R4⟩
    · go_wp2_with fail
      refine (unhide HHD).mono ?_
      rintro e w4 ⟨rfl, g4, r4⟩
      have G4 := hide ((unhide G3).trans g4)
      have R4 := hide r4
      clear g4 r4 HHD
      go_wp2_with fail
      go_ret2
      obtain rfl := unhide HE
      exact ⟨rfl, unhide G4, unhide R4⟩
  rw [if_neg h92] at HE HTA
  rw [unhide HTA, decide_eq_false h92] at HT
  clear h92 HH HTA
  go_wp2_with fail
  refine (unhide HT).mono ?_
  rintro e w3 ⟨rfl, g3, r3⟩
  have HPC := hide ((unhide HP) w3 r3)
  have R3 := hide r3
  have G3 := hide g3
  clear g3 r3 HT HP
  go_wp2_with fail
  refine (unhide HPC).mono ?_
  rintro e w4 ⟨rfl, b4⟩
  have R4 := hide ((unhide R3).below b4)
  have G4 := hide ((unhide G3).trans (grown_below' b4 (some g)))
  clear b4 HPC R3 G3
  have HSC := hide ((unhide HS) w4)
  cases hpl : plR x
  · rw [hpl] at HSC HE
    clear hpl HS
    go_wp2_with fail
    refine (unhide HSC).mono ?_
    rintro e wx ⟨rfl, hwx⟩; rw [hwx]; clear hwx wx
    go_wp2_with fail
    go_ret2
    obtain rfl := unhide HE
    exact ⟨rfl, unhide G4, unhide R4⟩
  · rw [hpl] at HSC HE
    clear hpl HS
    obtain ⟨c0, c1, c2⟩ := (unhide R4).cells
    have f1 := (unhide R4).frozen 1
    obtain ⟨r5, g5⟩ := (unhide R4).setAt (a + 1)
    rw [show ((a + 1 : Nat) : Int) = (a : Int) + 1 by omega] at r5 g5
    have R5 := hide r5
    have G5 := hide ((unhide G4).trans g5)
    clear r5 g5
    go_wp2_with fail
    refine (unhide HSC).mono ?_
    rintro e wx ⟨rfl, hwx⟩; rw [hwx]; clear hwx wx
    go_wp2_with fail
    go_ret2
    obtain rfl := unhide HE
    exact ⟨rfl, unhide G5, unhide R5⟩
set_option maxHeartbeats 1000000 in
theorem digits_any (w : World) :
    Calls Try.prog 65 #[] w fun e w' => ∃ s, e = .returned (setV s) ∧ FitS s ∧ (∀ j, j < 256 → bit s j = betw 48 57 j) ∧ Below w.heap.size w w' := by
  have HW := hide (fun W => with_any ⟨0, 0, 0, 0⟩ 48 57 W fit0 (by omega) (by omega))
  unfold setV at *
  dsimp only at HW
  go_enter Try.func65, Try.ntmps65
  go_wp2_with fail
  refine ((unhide HW) _).mono ?_
  rintro e w3 ⟨s, rfl, hfit, hall, b3⟩
  have BOX := hide (own_below (World.ownsRow_lit (e := 24) (size := 4) w #[.int .u64 0, .int .u64 0, .int .u64 0, .int .u64 0] 1 (Nat.le_refl _) (by unfold maxLen; omega) rfl) b3)
  have B := hide (bel_trans ((Below.refl _ _).alloc (Nat.le_refl _) _) b3)
  have FIT := hide hfit
  have ALL := hide hall
  clear b3 hfit hall
  have r0 := (unhide BOX).cellAt 0 (by omega)
  have r1 := (unhide BOX).cellAt 1 (by omega)
  have r2 := (unhide BOX).cellAt 2 (by omega)
  have r3 := (unhide BOX).cellAt 3 (by omega)
  have f0 := (unhide BOX).frozenAt 0
  have f1 := (unhide BOX).frozenAt 1
  have f2 := (unhide BOX).frozenAt 2
  have f3 := (unhide BOX).frozenAt 3
  obtain ⟨t1, t2, t3, t4⟩ := s
  dsimp only
  go_wp2_with fail
  obtain ⟨B9, fr, hh⟩ := ret_set4 (s0 := ⟨0, 0, 0, 0⟩) (unhide B) (Nat.le_refl _) (unhide BOX) t1 t2 t3 t4
  refine bodyPost_ret_by (v := setV ⟨t1, t2, t3, t4⟩) ?_ rfl ⟨_, rfl, unhide FIT, fun j hj => by rw [(unhide ALL) j hj, bit0, Bool.false_or], B9⟩
  exact results_cell_row (ty := 24) rfl _ _ w.heap.size _ #[.int .u64 t1, .int .u64 t2, .int .u64 t3, .int .u64 t4] fr _ rfl hh Try.underlying24 rfl (by kernel_rfl)
set_option maxHeartbeats 1000000 in
theorem blanks_any (w : World) :
    Calls Try.prog 67 #[] w fun e w' => ∃ s, e = .returned (setV s) ∧ FitS s ∧ (∀ j, j < 256 → bit s j = (decide (j = 32) || betw 9 13 j)) ∧ Below w.heap.size w w' := by
  have HO := hide (fun W => only_any 32 W (by omega))
  have HW := hide (fun s W (hf : FitS s) => with_any s 9 13 W hf (by omega) (by omega))
  unfold setV at *
  go_enter Try.func67, Try.ntmps67
  go_wp2_with fail
  refine ((unhide HO) _).mono ?_
  rintro e w2 ⟨s, rfl, hfit, hall, b2⟩
  have HW2 := hide ((unhide HW) s w2 hfit)
  obtain ⟨p, hp⟩ : ∃ p, bit s = p := ⟨_, rfl⟩
  rw [hp] at HW2 hall
  clear hp HW HO
  have B2 := hide b2
  have AL2 := hide hall
  clear b2 hfit hall
  obtain ⟨s1, s2, s3, s4⟩ := s
  dsimp only at HW2 ⊢
  go_wp2_with fail
  refine (unhide HW2).mono ?_
  rintro e w3 ⟨s, rfl, hfit, hall, b3⟩
  have BOX := hide (own_below (own_below (World.ownsRow_lit (e := 24) (size := 4) w #[.int .u64 0, .int .u64 0, .int .u64 0, .int .u64 0] 1 (Nat.le_refl _) (by unfold maxLen; omega) rfl) (unhide B2)) b3)
  have B := hide (bel_trans ((Below.refl _ _).alloc (Nat.le_refl _) _) (bel_trans (unhide B2) b3))
  have FIT := hide hfit
  have ALL := hide hall
  clear b3 hfit hall HW2 B2
  have r0 := (unhide BOX).cellAt 0 (by omega)
  have r1 := (unhide BOX).cellAt 1 (by omega)
  have r2 := (unhide BOX).cellAt 2 (by omega)
  have r3 := (unhide BOX).cellAt 3 (by omega)
  have f0 := (unhide BOX).frozenAt 0
  have f1 := (unhide BOX).frozenAt 1
  have f2 := (unhide BOX).frozenAt 2
  have f3 := (unhide BOX).frozenAt 3
  obtain ⟨t1, t2, t3, t4⟩ := s
  dsimp only
  go_wp2_with fail
  obtain ⟨B9, fr, hh⟩ := ret_set4 (s0 := ⟨0, 0, 0, 0⟩) (unhide B) (Nat.le_refl _) (unhide BOX) t1 t2 t3 t4
  refine bodyPost_ret_by (v := setV ⟨t1, t2, t3, t4⟩) ?_ rfl ⟨_, rfl, unhide FIT, fun j hj => by rw [(unhide ALL) j hj, (unhide AL2) j hj], B9⟩
  exact results_cell_row (ty := 24) rfl _ _ w.heap.size _ #[.int .u64 t1, .int .u64 t2, .int .u64 t3, .int .u64 t4] fr _ rfl hh Try.underlying24 rfl (by kernel_rfl)
end Go.Proofs.Ytjecopdbcaojcaa
