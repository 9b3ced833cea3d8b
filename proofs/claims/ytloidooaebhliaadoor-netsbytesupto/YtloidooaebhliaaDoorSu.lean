/- The document's Where at the function that Ranges lays; the array of bytes' marks. -/
import Derived.Test.YtloidooaebhliaaDoorNj
namespace Go.Proofs.YtloidooaebhliaaDoor
open Go.RowKit Kb
set_option linter.unusedVariables false
set_option maxRecDepth 20000

set_option maxHeartbeats 400000 in
theorem where_r (caps : Array Value) (p : Nat → Bool) (w : World) (hC : ∀ (b : Nat) (W : World), b < 256 → Below w.heap.size w W → Calls Tryd.prog 30 (#[.int .i64 b] ++ caps) W fun e W' => e = .returned (.bool (p b)) ∧ Below W.heap.size W W') :
    Calls Tryd.prog 20 #[.func (.func 30) #[] caps] w fun e w' => ∃ s, e = .returned (setV s) ∧ FitS s ∧ (∀ b, b < 256 → bit s b = p b) ∧ Below w.heap.size w w' := by
  have HC := hide hC
  clear hC
  go_enter Tryd.func20, Tryd.ntmps20
  go_wp2_with fail
  go_loopw [4] (fun x wr => ∃ (b : Nat) (s : Se), x = .int .i64 b ∧ b ≤ 256 ∧ Below w.heap.size w wr ∧ wr.ownsRow w.heap.size 24 4 (.slice (some ⟨w.heap.size + 1, 0, none⟩) 1 1) 1 (cellsW s) ∧ wr.ownsRow w.heap.size 24 4 (.slice (some ⟨w.heap.size, 0, none⟩) 1 1) 1 (cellsW ⟨0, 0, 0, 0⟩) ∧ FitS s ∧ ∀ j, j < 256 → bit s j = (decide (j < b) && p j)) (fun x _ => 256 - (intOf x).toNat)
  case atStart =>
    refine ⟨0, ⟨0, 0, 0, 0⟩, rfl, Nat.zero_le _, ((Below.refl _ _).alloc (Nat.le_refl _) _).alloc (by simp) _, set_new w, set_box w, by unfold FitS; decide, ?_⟩
    intro j hj
    have : wordS ⟨0, 0, 0, 0⟩ (j / 64) = 0 := by
      have h4 : j / 64 < 4 := by omega
      match j / 64, h4 with
      | 0, _ => rfl
      | 1, _ => rfl
      | 2, _ => rfl
      | 3, _ => rfl
    unfold bit
    rw [this]; simp
  case round =>
    obtain ⟨b, s, rfl, hb, hbel, hrow, hbox, hfit, hall⟩ := hrel
    have BOX := hide hbox
    have B := hide hbel
    have ROW := hide hrow
    have FIT := hide hfit
    have ALL := hide hall
    clear hbel hrow hfit hall hbox
    by_cases hlt : b < 256
    · have h4 : b / 64 < 4 := by omega
      have hC := (unhide HC) b wr hlt (unhide B)
      have HB := hide hC
      clear hC
      go_wp2_with fail
      refine (unhide HB).mono ?_
      rintro e w3 ⟨rfl, b3⟩
      have B3 := hide (bel_trans (unhide B) b3)
      have ROW3 := hide (own_below (unhide ROW) b3)
      have BOX3 := hide (own_below (unhide BOX) b3)
      clear b3 HB ROW BOX
      cases hp : p b
      · have HP := hide hp
        clear hp
        go_wp2_with fail
        refine ⟨⟨b + 1, s, by go_num, by omega, unhide B3, unhide ROW3, unhide BOX3, unhide FIT, ?_⟩, by simp [intOf]; omega⟩
        intro j hj
        rw [(unhide ALL) j hj]
        by_cases hjb : j = b
        · subst hjb; rw [unhide HP]; simp
        · congr 1; rw [decide_eq_decide]; omega
      · have HP := hide hp
        clear hp
        have hcell := (unhide ROW3).cellAt (b / 64) (by omega)
        rw [cellsW_at s _ h4] at hcell
        have hfz := (unhide ROW3).frozenAt (b / 64)
        have hfw := wordS_fit (unhide FIT) (b / 64) h4
        obtain ⟨x, hx⟩ : ∃ x, wordS s (b / 64) = x := ⟨_, rfl⟩
        rw [hx] at hcell hfw
        have HX := hide hx
        clear hx
        have hq4 : 0 ≤ (b : Int) / 64 ∧ (b : Int) / 64 < 4 := by omega
        go_wp2_with fail
        go_region
        rw [or_pow hfw (show b % 64 < 64 by omega)]
        have HF2 := hide (or_fit hfw (show b % 64 < 64 by omega))
        obtain ⟨y, hy⟩ : ∃ y : Nat, (x.toNat ||| 2 ^ (b % 64)) = y := ⟨_, rfl⟩
        rw [hy] at HF2 ⊢
        have HY := hide hy
        clear hy hcell hfz
        go_wp2_with fail
        obtain ⟨sR, gR⟩ := (unhide ROW3).stored (b / 64) (.int .u64 (y : Int))
        rw [cellsW_set s _ h4] at sR
        refine ⟨⟨b + 1, setW s (b / 64) (y : Int), by go_num, by omega, ((unhide B3).grown gR (unhide B3).size (fun q hq => by cases hq; omega)).drew, sR.drew, ((unhide BOX3).kept gR (.inr (by simp [Value.ownBlock]))).drew, fitS_set (unhide FIT) _ h4 (unhide HF2), ?_⟩, by simp [intOf]; omega⟩
        intro j hj
        have := bit_or (s := s) hlt hj
        rw [unhide HX, unhide HY] at this
        rw [this, (unhide ALL) j hj]
        by_cases hjb : j = b
        · subst hjb; rw [unhide HP]; simp
        · rw [decide_eq_false hjb, Bool.or_false]; congr 1; rw [decide_eq_decide]; omega
    · obtain rfl : b = 256 := by omega
      have c0 := (unhide ROW).cellAt 0 (by omega)
      have c1 := (unhide ROW).cellAt 1 (by omega)
      have c2 := (unhide ROW).cellAt 2 (by omega)
      have c3 := (unhide ROW).cellAt 3 (by omega)
      have HA : Hid (∀ j, j < 256 → bit s j = p j) := hide (fun j hj => by rw [(unhide ALL) j hj, decide_eq_true hj, Bool.true_and])
      clear ALL HC
      obtain ⟨s1, s2, s3, s4⟩ := s
      have r0 := (unhide BOX).cellAt 0 (by omega)
      have r1 := (unhide BOX).cellAt 1 (by omega)
      have r2 := (unhide BOX).cellAt 2 (by omega)
      have r3 := (unhide BOX).cellAt 3 (by omega)
      have f0 := (unhide BOX).frozenAt 0
      have f1 := (unhide BOX).frozenAt 1
      have f2 := (unhide BOX).frozenAt 2
      have f3 := (unhide BOX).frozenAt 3
      simp only [cellsW] at c0 c1 c2 c3 r0 r1 r2 r3
      go_wp2_with fail
      obtain ⟨q1, g1⟩ := (unhide BOX).stored 0 (.int .u64 s1)
      obtain ⟨q2, g2⟩ := q1.stored 1 (.int .u64 s2)
      obtain ⟨q3, g3⟩ := q2.stored 2 (.int .u64 s3)
      obtain ⟨q4, g4⟩ := q3.stored 3 (.int .u64 s4)
      have B9 := hide ((((unhide B).grown g1 (unhide B).size (fun q hq => by cases hq; exact Nat.le_refl _)).grown g2 (by simp; exact (unhide B).size) (fun q hq => by cases hq; exact Nat.le_refl _)).grown g3 (by simp; exact (unhide B).size) (fun q hq => by cases hq; exact Nat.le_refl _)).grown g4 (by simp; exact (unhide B).size) (fun q hq => by cases hq; exact Nat.le_refl _)
      clear g1 g2 g3 g4 q1 q2 q3
      obtain ⟨fr, hh⟩ := own_one q4
      refine bodyPost_ret_by (v := setV ⟨s1, s2, s3, s4⟩) ?_ rfl ⟨_, rfl, unhide FIT, unhide HA, unhide B9⟩
      exact results_cell_row (ty := 24) rfl _ _ w.heap.size _ #[.int .u64 s1, .int .u64 s2, .int .u64 s3, .int .u64 s4] fr _ rfl hh Tryd.underlying24 rfl (by kernel_rfl)

/-- an array of marks, one a byte -/
def cellsB (f : Nat → Bool) : List Value := (List.range 256).map fun j => .bool (f j)
theorem cellsB_at (f : Nat → Bool) (j : Nat) (h : j < 256) : (cellsB f)[j]? = some (.bool (f j)) := by simp [cellsB, h]
theorem cellsB_set (f : Nat → Bool) (j : Nat) (v : Bool) : (cellsB f).set j (.bool v) = cellsB (fun i => if i = j then v else f i) := by
  refine List.ext_getElem? fun i => ?_
  rw [List.getElem?_set]
  by_cases h : i < 256
  · by_cases e : j = i
    · subst e; simp [cellsB, h]
    · simp [cellsB, h, e, Ne.symm e]
  · by_cases e : j = i
    · subst e; simp [cellsB, h]
    · simp [cellsB, h, e]
theorem ranges1_any (f : Nat → Bool) (b g N : Nat) (W : World) (hb : b < 256) (h : W.ownsRow N 54 256 (.slice (some ⟨g, 0, none⟩) 1 1) 1 (cellsB f)) :
    Calls Tryd.prog 30 (#[.int .i64 b] ++ #[.pointer (some ⟨g, 0, none⟩)]) W fun e W' => e = .returned (.bool (f b)) ∧ Below W.heap.size W W' := by
  have hc := h.cellAt b (by omega)
  rw [cellsB_at f b hb] at hc
  have hbi : (b : Int) < 256 := by omega
  clear h
  go_enter Tryd.func30, Tryd.ntmps30
  go_wp2_with fail
  go_ret
  exact ⟨rfl, Below.refl _ _⟩
end Go.Proofs.YtloidooaebhliaaDoor
