/- Walks: ranges of bytes: the ends of one, and a set with one (the program's). -/
import Derived.Test.YtgmpgacedmjgdaaDoorNc
import Derived.Test.YtgmpgacedmjgdaaDoorHd
namespace Go.Proofs.YtgmpgacedmjgdaaDoor
open Go.RowKit Kb
set_option linter.unusedVariables false
set_option maxRecDepth 20000

namespace Nt
def rngF (f t : Int) : Option (Nat × Nat) := if f < 0 ∨ t < 0 ∨ t < f then none else some (f.toNat, t.toNat)
/-- a range: its first and its last byte -/
def rng (l : List UInt8) : Option (Nat × Nat) := rngF (sm 255 (Lib.cut l [45]).1) (if (Lib.cut l [45]).2.2 = true then sm 255 (Lib.cut l [45]).2.1 else sm 255 (Lib.cut l [45]).1)
theorem rngF_some {f t : Int} {x y : Nat} (h : rngF f t = some (x, y)) : f = x ∧ t = y ∧ x ≤ y := by
  unfold rngF at h
  by_cases hn : f < 0 ∨ t < 0 ∨ t < f
  · rw [if_pos hn] at h; cases h
  · rw [if_neg hn] at h
    injection h with h
    injection h with h1 h2
    omega
theorem rng_bd {l : List UInt8} {f t : Nat} (h : rng l = some (f, t)) : f ≤ t ∧ t ≤ 255 := by
  obtain ⟨h1, h2, h3⟩ := rngF_some h
  have b1 := sm_bd 255 (Lib.cut l [45]).1
  have b2 := sm_bd 255 (Lib.cut l [45]).2.1
  split at h2 <;> omega
end Nt
theorem ret_iib {a b a' b' : Int} {c d : Bool} (h : a = a') (k : b = b') (g : c = d) : Ending.returned (.tuple #[.int .i64 a, .int .i64 b, .bool c]) = .returned (.tuple #[.int .i64 a', .int .i64 b', .bool d]) := by rw [h, k, g]
set_option maxHeartbeats 1000000 in
theorem ends_any (s : ByteArray) (m : Int) (w : World) (hs : s.size < 4294967281) (hm : MX m w) (o : Option (Nat × Nat)) (ho : Nt.rng s.data.toList = o) :
    Calls Tryd.prog 32 #[.string s] w fun e w' => (∃ f t : Int, e = .returned (.tuple #[.int .i64 f, .int .i64 t, .bool o.isSome]) ∧ ∀ x y, o = some (x, y) → f = x ∧ t = y) ∧ Below w.heap.size w w' := by
  unfold Nt.rng at ho
  obtain ⟨⟨t, u, sl⟩, hq⟩ : ∃ q, Lib.cut s.data.toList [45] = q := ⟨_, rfl⟩
  have HC := hide (cut_any 45 s m w hs hm _ hq)
  have hlen : t.length ≤ s.size ∧ u.length ≤ s.size := by
    rw [← len_data s]
    rcases Nt.cut_cases 45 s.data.toList with ⟨h1, h2⟩ | ⟨u', v', h1, h2, h3⟩
    · rw [hq] at h2; injection h2 with e1 e2; injection e2 with e2 e3; subst e1 e2; exact ⟨Nat.le_refl _, Nat.zero_le _⟩
    · rw [hq] at h3; injection h3 with e1 e2; injection e2 with e2 e3; subst e1 e2; rw [h1]; simp; omega
  rw [hq] at ho
  dsimp only at ho HC
  have HN1 := hide (nnum_any (mk t) 255 · (by rw [szM]; unfold maxLen; omega))
  have HN2 := hide (nnum_any (mk u) 255 · (by rw [szM]; unfold maxLen; omega))
  rw [show (mk t).data.toList = t by simp [mk]] at HN1
  rw [show (mk u).data.toList = u by simp [mk]] at HN2
  have b1 := Nt.sm_bd 255 t
  have b2 := Nt.sm_bd 255 u
  obtain ⟨x, hx⟩ : ∃ x, Nt.sm 255 t = x := ⟨_, rfl⟩
  obtain ⟨y, hy⟩ : ∃ x, Nt.sm 255 u = x := ⟨_, rfl⟩
  rw [hx] at HN1 b1 ho
  rw [hy] at HN2 b2 ho
  have HO := hide ho
  clear hq hx hy ho hm hlen
  go_enter Tryd.func32, Tryd.ntmps32
  go_wp2_with fail
  refine (unhide HC).mono ?_; rintro e w1 ⟨rfl, bb1⟩
  have B1 := hide bb1
  clear bb1 HC
  go_wp2_with fail
  refine ((unhide HN1) w1).mono ?_; rintro e wx ⟨rfl, hwx⟩; rw [hwx]; clear hwx wx HN1
  by_cases h1 : x < 0
  · have d1 : decide (0 ≤ x) = false := decide_eq_false (by omega)
    have ho : o = none := by rw [← unhide HO]; exact if_pos (.inl h1)
    subst ho
    go_wp2_with fail
    go_ret3
    exact ⟨⟨_, _, rfl, fun _ _ h => by cases h⟩, unhide B1⟩
  · have d1 : decide (0 ≤ x) = true := decide_eq_true (by omega)
    have hmx : max 0 x = x := by omega
    cases sl with
    | false =>
      have ho : o = some (x.toNat, x.toNat) := by rw [← unhide HO, if_neg (show ¬ (false = true) by simp)]; exact if_neg (by omega)
      subst ho
      go_wp2_with fail
      go_ret3
      exact ⟨⟨_, _, rfl, fun a b h => by cases h; omega⟩, unhide B1⟩
    | true =>
      go_wp2_with fail
      refine ((unhide HN2) w1).mono ?_; rintro e wx ⟨rfl, hwx⟩; rw [hwx]; clear hwx wx HN2
      by_cases h2 : y < 0
      · have d2 : decide (0 ≤ y) = false := decide_eq_false (by omega)
        have ho : o = none := by rw [← unhide HO, if_pos trivial]; exact if_pos (.inr (.inl h2))
        subst ho
        go_wp2_with fail
        go_ret3
        exact ⟨⟨_, _, rfl, fun _ _ h => by cases h⟩, unhide B1⟩
      · have d2 : decide (0 ≤ y) = true := decide_eq_true (by omega)
        have hmy : max 0 y = y := by omega
        by_cases h3 : y < x
        · have d3 : decide (x ≤ y) = false := decide_eq_false (by omega)
          have ho : o = none := by rw [← unhide HO, if_pos trivial]; exact if_pos (.inr (.inr h3))
          subst ho
          go_wp2_with fail
          go_ret3
          exact ⟨⟨_, _, rfl, fun _ _ h => by cases h⟩, unhide B1⟩
        · have d3 : decide (x ≤ y) = true := decide_eq_true (by omega)
          have ho : o = some (x.toNat, y.toNat) := by rw [← unhide HO, if_pos trivial]; exact if_neg (by omega)
          subst ho
          go_wp2_with fail
          go_ret3
          exact ⟨⟨_, _, rfl, fun a b h => by cases h; omega⟩, unhide B1⟩
set_option maxHeartbeats 1000000 in
theorem with_any (s0 : Se) (f t : Nat) (w : World) (hs : FitS s0) (hf : f ≤ t) (ht : t ≤ 255) :
    Calls Tryd.prog 33 #[setV s0, .int .i64 f, .int .i64 t] w fun e w' => ∃ s, e = .returned (setV s) ∧ FitS s ∧ (∀ j, j < 256 → bit s j = (bit s0 j || (decide (f ≤ j) && decide (j ≤ t)))) ∧ Below w.heap.size w w' := by
  have b0 : Below w.heap.size w ((w.alloc (.cells #[.int .u64 s0.a, .int .u64 s0.b, .int .u64 s0.c, .int .u64 s0.d] 37)).alloc (.cells #[.int .u64 0, .int .u64 0, .int .u64 0, .int .u64 0] 37)) := ((Below.refl _ _).alloc (Nat.le_refl _) _).alloc (by simp) _
  have r0 : ((w.alloc (.cells #[.int .u64 s0.a, .int .u64 s0.b, .int .u64 s0.c, .int .u64 s0.d] 37)).alloc (.cells #[.int .u64 0, .int .u64 0, .int .u64 0, .int .u64 0] 37)).ownsRow w.heap.size 37 4 (.slice (some ⟨w.heap.size, 0, none⟩) 1 1) 1 (cellsW s0) :=
    World.ownsRow.alloc (World.ownsRow_lit (e := 37) (size := 4) w #[.int .u64 s0.a, .int .u64 s0.b, .int .u64 s0.c, .int .u64 s0.d] 1 (Nat.le_refl _) (by unfold maxLen; omega) rfl) _
  have r1 := World.ownsRow_lit (e := 37) (size := 4) (base := w.heap.size) (w.alloc (.cells #[.int .u64 s0.a, .int .u64 s0.b, .int .u64 s0.c, .int .u64 s0.d] 37)) #[.int .u64 0, .int .u64 0, .int .u64 0, .int .u64 0] 1 (by simp) (by unfold maxLen; omega) rfl
  rw [show (w.alloc (.cells #[.int .u64 s0.a, .int .u64 s0.b, .int .u64 s0.c, .int .u64 s0.d] 37)).heap.size = w.heap.size + 1 by simp] at r1
  have R0 := hide r0
  have R1 := hide r1
  have B0 := hide b0
  clear r0 r1 b0
  unfold setV
  go_enter Tryd.func33, Tryd.ntmps33
  go_wp2_with fail
  go_loopw [7] (fun x wr => ∃ (b : Nat) (s : Se), x = .int .i64 b ∧ f ≤ b ∧ b ≤ t + 1 ∧ Below w.heap.size w wr ∧ wr.ownsRow w.heap.size 37 4 (.slice (some ⟨w.heap.size, 0, none⟩) 1 1) 1 (cellsW s) ∧ wr.ownsRow w.heap.size 37 4 (.slice (some ⟨w.heap.size + 1, 0, none⟩) 1 1) 1 (cellsW ⟨0, 0, 0, 0⟩) ∧ FitS s ∧ ∀ j, j < 256 → bit s j = (bit s0 j || (decide (f ≤ j) && decide (j < b)))) (fun x _ => t + 1 - (intOf x).toNat)
  case atStart =>
    refine ⟨f, s0, rfl, Nat.le_refl _, by omega, unhide B0, unhide R0, unhide R1, hs, fun j hj => ?_⟩
    have : (decide (f ≤ j) && decide (j < f)) = false := by
      by_cases h : f ≤ j
      · rw [decide_eq_true h, decide_eq_false (show ¬ j < f by omega)]; rfl
      · rw [decide_eq_false h]; rfl
    rw [this, Bool.or_false]
  case round =>
    obtain ⟨b, s, rfl, hb1, hb2, hbel, hrow, hbox, hfit, hall⟩ := hrel
    have BOX := hide hbox
    have B := hide hbel
    have ROW := hide hrow
    have FIT := hide hfit
    have ALL := hide hall
    clear hbel hrow hfit hall hbox R0 R1 B0
    by_cases hlt : b ≤ t
    · have hltI : (b : Int) ≤ t := by omega
      have h4 : b / 64 < 4 := by omega
      have hcell := (unhide ROW).cellAt (b / 64) (by omega)
      rw [cellsW_at s _ h4] at hcell
      have hfz := (unhide ROW).frozenAt (b / 64)
      have hfw := wordS_fit (unhide FIT) (b / 64) h4
      obtain ⟨x, hx⟩ : ∃ x, wordS s (b / 64) = x := ⟨_, rfl⟩
      rw [hx] at hcell hfw
      have HX := hide hx
      clear hx
      have hq4 : 0 ≤ (b : Int) / 64 ∧ (b : Int) / 64 < 4 := by omega
      go_wp2_with fail
      go_region
      rw [or_pow hfw (show b % 64 < 64 by omega)]
      have HF2 := hide (or_fit hfw (show b % 64 < 64 by omega))
      obtain ⟨y, hy⟩ : ∃ y : Nat, (x.toNat ||| 2 ^ (b % 64)) = y := ⟨_, rfl⟩
      rw [hy] at HF2 ⊢
      have HY := hide hy
      clear hy hcell hfz
      go_wp2_with fail
      obtain ⟨sR, gR⟩ := (unhide ROW).stored (b / 64) (.int .u64 (y : Int))
      rw [cellsW_set s _ h4] at sR
      refine ⟨⟨b + 1, setW s (b / 64) (y : Int), by go_num, by omega, by omega, ((unhide B).grown gR (unhide B).size (fun q hq => by cases hq; omega)).drew, sR.drew, ((unhide BOX).kept gR (.inr (by simp [Value.ownBlock]))).drew, fitS_set (unhide FIT) _ h4 (unhide HF2), ?_⟩, by simp [intOf]; omega⟩
      intro j hj
      have := bit_or (s := s) (show b < 256 by omega) hj
      rw [unhide HX, unhide HY] at this
      rw [this, (unhide ALL) j hj]
      by_cases hjb : j = b
      · subst hjb
        rw [decide_eq_true rfl, decide_eq_true (show f ≤ j by omega), decide_eq_true (show j < j + 1 by omega)]; simp
      · rw [decide_eq_false hjb, Bool.or_false]
        have e : decide (j < b + 1) = decide (j < b) := decide_eq_decide.2 (by omega)
        rw [e]
    · obtain rfl : b = t + 1 := by omega
      have c0 := (unhide ROW).cellAt 0 (by omega)
      have c1 := (unhide ROW).cellAt 1 (by omega)
      have c2 := (unhide ROW).cellAt 2 (by omega)
      have c3 := (unhide ROW).cellAt 3 (by omega)
      have HA : Hid (∀ j, j < 256 → bit s j = (bit s0 j || (decide (f ≤ j) && decide (j ≤ t)))) := hide (fun j hj => by rw [(unhide ALL) j hj]; congr 2; exact decide_eq_decide.2 (by omega))
      clear ALL
      obtain ⟨s1, s2, s3, s4⟩ := s
      have r0 := (unhide BOX).cellAt 0 (by omega)
      have r1 := (unhide BOX).cellAt 1 (by omega)
      have r2 := (unhide BOX).cellAt 2 (by omega)
      have r3 := (unhide BOX).cellAt 3 (by omega)
      have f0 := (unhide BOX).frozenAt 0
      have f1 := (unhide BOX).frozenAt 1
      have f2 := (unhide BOX).frozenAt 2
      have f3 := (unhide BOX).frozenAt 3
      simp only [cellsW] at c0 c1 c2 c3 r0 r1 r2 r3
      go_wp2_with fail
      obtain ⟨q1, g1⟩ := (unhide BOX).stored 0 (.int .u64 s1)
      obtain ⟨q2, g2⟩ := q1.stored 1 (.int .u64 s2)
      obtain ⟨q3, g3⟩ := q2.stored 2 (.int .u64 s3)
      obtain ⟨q4, g4⟩ := q3.stored 3 (.int .u64 s4)
      have B9 := hide ((((unhide B).grown g1 (unhide B).size (fun q hq => by cases hq; omega)).grown g2 (by simp; exact (unhide B).size) (fun q hq => by cases hq; omega)).grown g3 (by simp; exact (unhide B).size) (fun q hq => by cases hq; omega)).grown g4 (by simp; exact (unhide B).size) (fun q hq => by cases hq; omega)
      clear g1 g2 g3 g4 q1 q2 q3
      obtain ⟨fr, hh⟩ := own_one q4
      refine bodyPost_ret_by (v := setV ⟨s1, s2, s3, s4⟩) ?_ rfl ⟨_, rfl, unhide FIT, unhide HA, unhide B9⟩
      exact results_cell_row (ty := 37) rfl _ _ (w.heap.size + 1) _ #[.int .u64 s1, .int .u64 s2, .int .u64 s3, .int .u64 s4] fr _ rfl hh Tryd.underlying37 rfl (by kernel_rfl)
end Go.Proofs.YtgmpgacedmjgdaaDoor
