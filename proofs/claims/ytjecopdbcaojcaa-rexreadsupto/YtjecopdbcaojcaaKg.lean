/- The program's set of letters, digits and _. -/
import Derived.Test.YtjecopdbcaojcaaKf
namespace Go.Proofs.Ytjecopdbcaojcaa
open Go.RowKit Kb
set_option linter.unusedVariables false
set_option maxRecDepth 20000

/-- is a byte a letter, a digit or _? -/
def wordP (j : Nat) : Bool := (((betw 97 122 j || betw 65 90 j) || betw 48 57 j) || decide (j = 95))
set_option maxHeartbeats 4000000 in
theorem word_any (w : World) :
    Calls Try.prog 66 #[] w fun e w' => ∃ s, e = .returned (setV s) ∧ FitS s ∧ (∀ j, j < 256 → bit s j = wordP j) ∧ Below w.heap.size w w' := by
  have HW1 := hide (fun W => with_any ⟨0, 0, 0, 0⟩ 97 122 W fit0 (by omega) (by omega))
  have HW2 := hide (fun s W (hf : FitS s) => with_any s 65 90 W hf (by omega) (by omega))
  have HD := hide digits_any
  have HO := hide (fun W => only_any 95 W (by omega))
  have HU := hide (fun s t W (hs : FitS s) (ht : FitS t) => union_any s t W hs ht)
  have HB0 := hide (World.ownsRow_lit (e := 24) (size := 4) w #[.int .u64 0, .int .u64 0, .int .u64 0, .int .u64 0] 1 (Nat.le_refl w.heap.size) (by unfold maxLen; omega) rfl)
  have hb0 : Hid (Below w.heap.size w (w.alloc (.cells #[.int .u64 0, .int .u64 0, .int .u64 0, .int .u64 0] 24))) := hide ((Below.refl _ _).alloc (Nat.le_refl _) _)
  unfold setV at *
  dsimp only at HW1
  go_enter Try.func66, Try.ntmps66
  go_wp2_with fail
  refine ((unhide HW1) _).mono ?_
  rintro e w2 ⟨s, rfl, fs, hs, b2⟩
  have BX2 := hide (own_below (unhide HB0) b2)
  have B2 := hide (bel_trans (unhide hb0) b2)
  have HC2 := hide ((unhide HW2) s w2 fs)
  have HS := hide (fun j (hj : j < 256) => (hs j hj).trans (by rw [bit0, Bool.false_or]))
  clear b2 HW1 HW2 HB0 hb0 fs hs
  obtain ⟨p1, hp1⟩ : ∃ p, bit s = p := ⟨_, rfl⟩
  rw [hp1] at HC2 HS
  clear hp1
  obtain ⟨s1, s2, s3, s4⟩ := s
  dsimp only at *
  go_wp2_with fail
  refine (unhide HC2).mono ?_
  rintro e w3 ⟨l, rfl, fl, hl, b3⟩
  have BX3 := hide (own_below (unhide BX2) b3)
  have B3 := hide (bel_trans (unhide B2) b3)
  have FL := hide fl
  have HL : Hid (∀ j, j < 256 → bit l j = (betw 97 122 j || betw 65 90 j)) := hide (fun j hj => by rw [hl j hj, (unhide HS) j hj])
  clear b3 HC2 fl hl HS BX2 B2
  obtain ⟨l1, l2, l3, l4⟩ := l
  dsimp only at *
  have BX4 := hide ((unhide BX3).alloc (.cells #[.int .u64 l1, .int .u64 l2, .int .u64 l3, .int .u64 l4] 24))
  have B4 := hide ((unhide B3).alloc (unhide B3).size (.cells #[.int .u64 l1, .int .u64 l2, .int .u64 l3, .int .u64 l4] 24))
  obtain ⟨W1, hW1⟩ : ∃ W1, w3.alloc (.cells #[.int .u64 l1, .int .u64 l2, .int .u64 l3, .int .u64 l4] 24) = W1 := ⟨_, rfl⟩
  have HCL : Hid (∀ j x, (#[.int .u64 l1, .int .u64 l2, .int .u64 l3, .int .u64 l4] : Array Value)[j]? = some x → W1.cell? ⟨w3.heap.size, j, none⟩ = some x) := hide (fun j x h => by rw [← hW1, World.cell?_alloc_new]; exact h)
  have hsz : w3.heap.size < W1.heap.size := by rw [← hW1]; simp
  rw [hW1] at BX4 B4
  have c0 := (unhide HCL) 0 _ rfl
  have c1 := (unhide HCL) 1 _ rfl
  have c2 := (unhide HCL) 2 _ rfl
  have c3 := (unhide HCL) 3 _ rfl
  go_wp2_with fail
  clear hW1
  go_region_with (first
    | (go_at_call 65; refine ((unhide HD) _).mono ?_; rintro e w5 ⟨d, rfl, fd, hd, b5⟩; have e0 := cell_below c0 hsz (bel_trans (Below.refl _ W1).drew b5); have e1 := cell_below c1 hsz (bel_trans (Below.refl _ W1).drew b5); have e2 := cell_below c2 hsz (bel_trans (Below.refl _ W1).drew b5); have e3 := cell_below c3 hsz (bel_trans (Below.refl _ W1).drew b5); have BX5 := hide (own_below (unhide BX4) (bel_trans (Below.refl _ W1).drew b5)); have B5 := hide (bel_trans (unhide B4) (bel_trans (Below.refl _ W1).drew b5)); have FD := hide fd; have HDD := hide hd; clear b5 fd hd; obtain ⟨d1, d2, d3, d4⟩ := d; dsimp only)
    | (go_at_call 54; refine ((unhide HO) _).mono ?_; rintro e w7 ⟨o, rfl, fo, ho, b7⟩; have BX7 := hide (own_below (unhide BX6) b7); have B7 := hide (bel_trans (unhide B6) b7); have FO := hide fo; have HOO := hide ho; clear b7 fo ho; obtain ⟨o1, o2, o3, o4⟩ := o; dsimp only)
    | (go_at_call 61; have FDX := unhide FD; clear FD; refine ((unhide HU) ⟨l1, l2, l3, l4⟩ ⟨d1, d2, d3, d4⟩ _ (unhide FL) FDX).mono ?_; rintro e w6 ⟨rfl, b6⟩; have FQ := hide (orS_fit (unhide FL) FDX); have HQQ := hide (fun b hb => orS_bit (unhide FL) FDX b hb); have BX6 := hide (own_below (unhide BX5) b6); have B6 := hide (bel_trans (unhide B5) b6); clear b6 FDX; obtain ⟨⟨q1, q2, q3, q4⟩, hq⟩ : ∃ z, orS ⟨l1, l2, l3, l4⟩ ⟨d1, d2, d3, d4⟩ = z := ⟨_, rfl⟩; rw [hq] at FQ HQQ ⊢; clear hq; dsimp only)
    | (go_at_call 61; refine ((unhide HU) ⟨q1, q2, q3, q4⟩ ⟨o1, o2, o3, o4⟩ _ (unhide FQ) (unhide FO)).mono ?_; rintro e w8 ⟨rfl, b8⟩; have FR := hide (orS_fit (unhide FQ) (unhide FO)); have HRR := hide (fun b hb => orS_bit (unhide FQ) (unhide FO) b hb); have BX8 := hide (own_below (unhide BX7) b8); have B8 := hide (bel_trans (unhide B7) b8); clear b8; obtain ⟨⟨r1, r2, r3, r4⟩, hr⟩ : ∃ z, orS ⟨q1, q2, q3, q4⟩ ⟨o1, o2, o3, o4⟩ = z := ⟨_, rfl⟩; rw [hr] at FR HRR ⊢; clear hr; dsimp only; have x0 := (unhide BX8).cellAt 0 (by omega); have x1 := (unhide BX8).cellAt 1 (by omega); have x2 := (unhide BX8).cellAt 2 (by omega); have x3 := (unhide BX8).cellAt 3 (by omega); have f0 := (unhide BX8).frozenAt 0; have f1 := (unhide BX8).frozenAt 1; have f2 := (unhide BX8).frozenAt 2; have f3 := (unhide BX8).frozenAt 3))
  all_goals (
    go_wp2_with fail
    obtain ⟨B9, fr, hh⟩ := ret_set4 (s0 := ⟨0, 0, 0, 0⟩) (unhide B8) (Nat.le_refl _) (unhide BX8) r1 r2 r3 r4
    refine bodyPost_ret_by (v := setV ⟨r1, r2, r3, r4⟩) ?_ rfl ⟨_, rfl, unhide FR, fun j hj => by rw [(unhide HRR) j hj, (unhide HQQ) j hj, (unhide HL) j hj, (unhide HDD) j hj, (unhide HOO) j hj]; rfl, B9⟩
    exact results_cell_row (ty := 24) rfl _ _ w.heap.size _ #[.int .u64 r1, .int .u64 r2, .int .u64 r3, .int .u64 r4] fr _ rfl hh Try.underlying24 rfl (by kernel_rfl))
end Go.Proofs.Ytjecopdbcaojcaa
