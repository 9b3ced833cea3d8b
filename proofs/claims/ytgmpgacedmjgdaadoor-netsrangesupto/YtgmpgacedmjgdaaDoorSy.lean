/- What NetsRanges lays of its own: its two functions, and the document's Where at them. -/
import Derived.Test.YtgmpgacedmjgdaaDoorSs
namespace Go.Proofs.YtgmpgacedmjgdaaDoor
open Go.RowKit Kb
set_option linter.unusedVariables false
set_option maxRecDepth 20000

theorem bit_word2 (s : Se) (i : Nat) (hi : i < 4) (j : Nat) (hj : j < 64) : bit s (64 * i + j) = (wordS s i).toNat.testBit j := by
  unfold bit
  rw [show (64 * i + j) / 64 = i by omega, show (64 * i + j) % 64 = j by omega]
theorem bits_ext2 {s t : Se} (hs : FitS s) (ht : FitS t) (h : ∀ j, j < 256 → bit s j = bit t j) : s = t := by
  have hw : ∀ i, i < 4 → wordS s i = wordS t i := by
    intro i hi
    have h1 := wordS_fit hs i hi
    have h2 := wordS_fit ht i hi
    have : (wordS s i).toNat = (wordS t i).toNat := by
      apply Nat.eq_of_testBit_eq
      intro j
      by_cases hj : j < 64
      · have := h (64 * i + j) (by omega)
        rw [bit_word2 s i hi j hj, bit_word2 t i hi j hj] at this
        exact this
      · have e : ∀ n : Nat, n < 18446744073709551616 → n.testBit j = false := fun n hn => Nat.testBit_lt_two_pow (Nat.lt_of_lt_of_le (by omega : n < 2 ^ 64) (Nat.pow_le_pow_right (by omega) (by omega)))
        rw [e _ (by omega), e _ (by omega)]
    omega
  have h0 := hw 0 (by omega)
  have h1 := hw 1 (by omega)
  have h2 := hw 2 (by omega)
  have h3 := hw 3 (by omega)
  obtain ⟨a, b, c, d⟩ := s
  obtain ⟨a', b', c', d'⟩ := t
  simp only [wordS] at h0 h1 h2 h3
  rw [h0, h1, h2, h3]
def Ans (cs : List (List UInt8)) (q : Se) (z : Int) : Prop := (z = 0 ∧ FitS q ∧ (∀ x ∈ cs, (Nt.rng x).isSome = true) ∧ ∀ j, j < 256 → bit q j = cs.any (Nt.hits · j)) ∨ (z = 3 ∧ q = ⟨0, 0, 0, 0⟩ ∧ ∃ x ∈ cs, Nt.rng x = none)
theorem ans_one {cs : List (List UInt8)} {q q' : Se} {z z' : Int} (h : Ans cs q z) (h' : Ans cs q' z') : q = q' ∧ z = z' := by
  rcases h with ⟨h1, h2, h3, h4⟩ | ⟨h1, h2, x, hx, hn⟩
  · rcases h' with ⟨g1, g2, g3, g4⟩ | ⟨g1, g2, x, hx, hn⟩
    · exact ⟨bits_ext2 h2 g2 (fun j hj => by rw [h4 j hj, g4 j hj]), by rw [h1, g1]⟩
    · have := h3 x hx; rw [hn] at this; cases this
  · rcases h' with ⟨g1, g2, g3, g4⟩ | ⟨g1, g2, y, hy, hm⟩
    · have := g3 x hx; rw [hn] at this; cases this
    · exact ⟨by rw [h2, g2], by rw [h1, g1]⟩
theorem four_new (w : World) (a b c d : Value) (t : TypeId) : (w.alloc (.cells #[a, b, c, d] t)).cell? ⟨w.heap.size, 0, none⟩ = some a ∧ (w.alloc (.cells #[a, b, c, d] t)).cell? ⟨w.heap.size, 1, none⟩ = some b ∧ (w.alloc (.cells #[a, b, c, d] t)).cell? ⟨w.heap.size, 2, none⟩ = some c ∧ (w.alloc (.cells #[a, b, c, d] t)).cell? ⟨w.heap.size, 3, none⟩ = some d :=
  ⟨by rw [World.cell?_alloc_new]; rfl, by rw [World.cell?_alloc_new]; rfl, by rw [World.cell?_alloc_new]; rfl, by rw [World.cell?_alloc_new]; rfl⟩
set_option maxHeartbeats 400000 in
theorem where_k1 (caps : Array Value) (p : Nat → Bool) (w : World) (hC : ∀ (b : Nat) (W : World), b < 256 → Below w.heap.size w W → Calls Tryd.prog 14 (#[.int .i64 b] ++ caps) W fun e W' => e = .returned (.bool (p b)) ∧ Below W.heap.size W W') :
    Calls Tryd.prog 13 #[.func (.func 14) #[] caps] w fun e w' => ∃ s, e = .returned (setV s) ∧ FitS s ∧ (∀ b, b < 256 → bit s b = p b) ∧ Below w.heap.size w w' := by
  have HC := hide hC
  clear hC
  go_enter Tryd.func13, Tryd.ntmps13
  go_wp2_with fail
  go_loopw [4] (fun x wr => ∃ (b : Nat) (s : Se), x = .int .i64 b ∧ b ≤ 256 ∧ Below w.heap.size w wr ∧ wr.ownsRow w.heap.size 37 4 (.slice (some ⟨w.heap.size + 1, 0, none⟩) 1 1) 1 (cellsW s) ∧ wr.ownsRow w.heap.size 37 4 (.slice (some ⟨w.heap.size, 0, none⟩) 1 1) 1 (cellsW ⟨0, 0, 0, 0⟩) ∧ FitS s ∧ ∀ j, j < 256 → bit s j = (decide (j < b) && p j)) (fun x _ => 256 - (intOf x).toNat)
  case atStart =>
    refine ⟨0, ⟨0, 0, 0, 0⟩, rfl, Nat.zero_le _, ((Below.refl _ _).alloc (Nat.le_refl _) _).alloc (by simp) _, set_new w, set_box w, by unfold FitS; decide, ?_⟩
    intro j hj
    have : wordS ⟨0, 0, 0, 0⟩ (j / 64) = 0 := by
      have h4 : j / 64 < 4 := by omega
      match j / 64, h4 with
      | 0, _ => rfl
      | 1, _ => rfl
      | 2, _ => rfl
      | 3, _ => rfl
    unfold bit
    rw [this]; simp
  case round =>
    obtain ⟨b, s, rfl, hb, hbel, hrow, hbox, hfit, hall⟩ := hrel
    have BOX := hide hbox
    have B := hide hbel
    have ROW := hide hrow
    have FIT := hide hfit
    have ALL := hide hall
    clear hbel hrow hfit hall hbox
    by_cases hlt : b < 256
    · have h4 : b / 64 < 4 := by omega
      have hC := (unhide HC) b wr hlt (unhide B)
      have HB := hide hC
      clear hC
      go_wp2_with fail
      refine (unhide HB).mono ?_
      rintro e w3 ⟨rfl, b3⟩
      have B3 := hide (bel_trans (unhide B) b3)
      have ROW3 := hide (own_below (unhide ROW) b3)
      have BOX3 := hide (own_below (unhide BOX) b3)
      clear b3 HB ROW BOX
      cases hp : p b
      · have HP := hide hp
        clear hp
        go_wp2_with fail
        refine ⟨⟨b + 1, s, by go_num, by omega, unhide B3, unhide ROW3, unhide BOX3, unhide FIT, ?_⟩, by simp [intOf]; omega⟩
        intro j hj
        rw [(unhide ALL) j hj]
        by_cases hjb : j = b
        · subst hjb; rw [unhide HP]; simp
        · congr 1; rw [decide_eq_decide]; omega
      · have HP := hide hp
        clear hp
        have hcell := (unhide ROW3).cellAt (b / 64) (by omega)
        rw [cellsW_at s _ h4] at hcell
        have hfz := (unhide ROW3).frozenAt (b / 64)
        have hfw := wordS_fit (unhide FIT) (b / 64) h4
        obtain ⟨x, hx⟩ : ∃ x, wordS s (b / 64) = x := ⟨_, rfl⟩
        rw [hx] at hcell hfw
        have HX := hide hx
        clear hx
        have hq4 : 0 ≤ (b : Int) / 64 ∧ (b : Int) / 64 < 4 := by omega
        go_wp2_with fail
        go_region
        rw [or_pow hfw (show b % 64 < 64 by omega)]
        have HF2 := hide (or_fit hfw (show b % 64 < 64 by omega))
        obtain ⟨y, hy⟩ : ∃ y : Nat, (x.toNat ||| 2 ^ (b % 64)) = y := ⟨_, rfl⟩
        rw [hy] at HF2 ⊢
        have HY := hide hy
        clear hy hcell hfz
        go_wp2_with fail
        obtain ⟨sR, gR⟩ := (unhide ROW3).stored (b / 64) (.int .u64 (y : Int))
        rw [cellsW_set s _ h4] at sR
        refine ⟨⟨b + 1, setW s (b / 64) (y : Int), by go_num, by omega, ((unhide B3).grown gR (unhide B3).size (fun q hq => by cases hq; omega)).drew, sR.drew, ((unhide BOX3).kept gR (.inr (by simp [Value.ownBlock]))).drew, fitS_set (unhide FIT) _ h4 (unhide HF2), ?_⟩, by simp [intOf]; omega⟩
        intro j hj
        have := bit_or (s := s) hlt hj
        rw [unhide HX, unhide HY] at this
        rw [this, (unhide ALL) j hj]
        by_cases hjb : j = b
        · subst hjb; rw [unhide HP]; simp
        · rw [decide_eq_false hjb, Bool.or_false]; congr 1; rw [decide_eq_decide]; omega
    · obtain rfl : b = 256 := by omega
      have c0 := (unhide ROW).cellAt 0 (by omega)
      have c1 := (unhide ROW).cellAt 1 (by omega)
      have c2 := (unhide ROW).cellAt 2 (by omega)
      have c3 := (unhide ROW).cellAt 3 (by omega)
      have HA : Hid (∀ j, j < 256 → bit s j = p j) := hide (fun j hj => by rw [(unhide ALL) j hj, decide_eq_true hj, Bool.true_and])
      clear ALL HC
      obtain ⟨s1, s2, s3, s4⟩ := s
      have r0 := (unhide BOX).cellAt 0 (by omega)
      have r1 := (unhide BOX).cellAt 1 (by omega)
      have r2 := (unhide BOX).cellAt 2 (by omega)
      have r3 := (unhide BOX).cellAt 3 (by omega)
      have f0 := (unhide BOX).frozenAt 0
      have f1 := (unhide BOX).frozenAt 1
      have f2 := (unhide BOX).frozenAt 2
      have f3 := (unhide BOX).frozenAt 3
      simp only [cellsW] at c0 c1 c2 c3 r0 r1 r2 r3
      go_wp2_with fail
      obtain ⟨q1, g1⟩ := (unhide BOX).stored 0 (.int .u64 s1)
      obtain ⟨q2, g2⟩ := q1.stored 1 (.int .u64 s2)
      obtain ⟨q3, g3⟩ := q2.stored 2 (.int .u64 s3)
      obtain ⟨q4, g4⟩ := q3.stored 3 (.int .u64 s4)
      have B9 := hide ((((unhide B).grown g1 (unhide B).size (fun q hq => by cases hq; exact Nat.le_refl _)).grown g2 (by simp; exact (unhide B).size) (fun q hq => by cases hq; exact Nat.le_refl _)).grown g3 (by simp; exact (unhide B).size) (fun q hq => by cases hq; exact Nat.le_refl _)).grown g4 (by simp; exact (unhide B).size) (fun q hq => by cases hq; exact Nat.le_refl _)
      clear g1 g2 g3 g4 q1 q2 q3
      obtain ⟨fr, hh⟩ := own_one q4
      refine bodyPost_ret_by (v := setV ⟨s1, s2, s3, s4⟩) ?_ rfl ⟨_, rfl, unhide FIT, unhide HA, unhide B9⟩
      exact results_cell_row (ty := 37) rfl _ _ w.heap.size _ #[.int .u64 s1, .int .u64 s2, .int .u64 s3, .int .u64 s4] fr _ rfl hh Tryd.underlying37 rfl (by kernel_rfl)

set_option maxHeartbeats 400000 in
theorem where_k2 (caps : Array Value) (p : Nat → Bool) (w : World) (hC : ∀ (b : Nat) (W : World), b < 256 → Below w.heap.size w W → Calls Tryd.prog 15 (#[.int .i64 b] ++ caps) W fun e W' => e = .returned (.bool (p b)) ∧ Below W.heap.size W W') :
    Calls Tryd.prog 13 #[.func (.func 15) #[] caps] w fun e w' => ∃ s, e = .returned (setV s) ∧ FitS s ∧ (∀ b, b < 256 → bit s b = p b) ∧ Below w.heap.size w w' := by
  have HC := hide hC
  clear hC
  go_enter Tryd.func13, Tryd.ntmps13
  go_wp2_with fail
  go_loopw [4] (fun x wr => ∃ (b : Nat) (s : Se), x = .int .i64 b ∧ b ≤ 256 ∧ Below w.heap.size w wr ∧ wr.ownsRow w.heap.size 37 4 (.slice (some ⟨w.heap.size + 1, 0, none⟩) 1 1) 1 (cellsW s) ∧ wr.ownsRow w.heap.size 37 4 (.slice (some ⟨w.heap.size, 0, none⟩) 1 1) 1 (cellsW ⟨0, 0, 0, 0⟩) ∧ FitS s ∧ ∀ j, j < 256 → bit s j = (decide (j < b) && p j)) (fun x _ => 256 - (intOf x).toNat)
  case atStart =>
    refine ⟨0, ⟨0, 0, 0, 0⟩, rfl, Nat.zero_le _, ((Below.refl _ _).alloc (Nat.le_refl _) _).alloc (by simp) _, set_new w, set_box w, by unfold FitS; decide, ?_⟩
    intro j hj
    have : wordS ⟨0, 0, 0, 0⟩ (j / 64) = 0 := by
      have h4 : j / 64 < 4 := by omega
      match j / 64, h4 with
      | 0, _ => rfl
      | 1, _ => rfl
      | 2, _ => rfl
      | 3, _ => rfl
    unfold bit
    rw [this]; simp
  case round =>
    obtain ⟨b, s, rfl, hb, hbel, hrow, hbox, hfit, hall⟩ := hrel
    have BOX := hide hbox
    have B := hide hbel
    have ROW := hide hrow
    have FIT := hide hfit
    have ALL := hide hall
    clear hbel hrow hfit hall hbox
    by_cases hlt : b < 256
    · have h4 : b / 64 < 4 := by omega
      have hC := (unhide HC) b wr hlt (unhide B)
      have HB := hide hC
      clear hC
      go_wp2_with fail
      refine (unhide HB).mono ?_
      rintro e w3 ⟨rfl, b3⟩
      have B3 := hide (bel_trans (unhide B) b3)
      have ROW3 := hide (own_below (unhide ROW) b3)
      have BOX3 := hide (own_below (unhide BOX) b3)
      clear b3 HB ROW BOX
      cases hp : p b
      · have HP := hide hp
        clear hp
        go_wp2_with fail
        refine ⟨⟨b + 1, s, by go_num, by omega, unhide B3, unhide ROW3, unhide BOX3, unhide FIT, ?_⟩, by simp [intOf]; omega⟩
        intro j hj
        rw [(unhide ALL) j hj]
        by_cases hjb : j = b
        · subst hjb; rw [unhide HP]; simp
        · congr 1; rw [decide_eq_decide]; omega
      · have HP := hide hp
        clear hp
        have hcell := (unhide ROW3).cellAt (b / 64) (by omega)
        rw [cellsW_at s _ h4] at hcell
        have hfz := (unhide ROW3).frozenAt (b / 64)
        have hfw := wordS_fit (unhide FIT) (b / 64) h4
        obtain ⟨x, hx⟩ : ∃ x, wordS s (b / 64) = x := ⟨_, rfl⟩
        rw [hx] at hcell hfw
        have HX := hide hx
        clear hx
        have hq4 : 0 ≤ (b : Int) / 64 ∧ (b : Int) / 64 < 4 := by omega
        go_wp2_with fail
        go_region
        rw [or_pow hfw (show b % 64 < 64 by omega)]
        have HF2 := hide (or_fit hfw (show b % 64 < 64 by omega))
        obtain ⟨y, hy⟩ : ∃ y : Nat, (x.toNat ||| 2 ^ (b % 64)) = y := ⟨_, rfl⟩
        rw [hy] at HF2 ⊢
        have HY := hide hy
        clear hy hcell hfz
        go_wp2_with fail
        obtain ⟨sR, gR⟩ := (unhide ROW3).stored (b / 64) (.int .u64 (y : Int))
        rw [cellsW_set s _ h4] at sR
        refine ⟨⟨b + 1, setW s (b / 64) (y : Int), by go_num, by omega, ((unhide B3).grown gR (unhide B3).size (fun q hq => by cases hq; omega)).drew, sR.drew, ((unhide BOX3).kept gR (.inr (by simp [Value.ownBlock]))).drew, fitS_set (unhide FIT) _ h4 (unhide HF2), ?_⟩, by simp [intOf]; omega⟩
        intro j hj
        have := bit_or (s := s) hlt hj
        rw [unhide HX, unhide HY] at this
        rw [this, (unhide ALL) j hj]
        by_cases hjb : j = b
        · subst hjb; rw [unhide HP]; simp
        · rw [decide_eq_false hjb, Bool.or_false]; congr 1; rw [decide_eq_decide]; omega
    · obtain rfl : b = 256 := by omega
      have c0 := (unhide ROW).cellAt 0 (by omega)
      have c1 := (unhide ROW).cellAt 1 (by omega)
      have c2 := (unhide ROW).cellAt 2 (by omega)
      have c3 := (unhide ROW).cellAt 3 (by omega)
      have HA : Hid (∀ j, j < 256 → bit s j = p j) := hide (fun j hj => by rw [(unhide ALL) j hj, decide_eq_true hj, Bool.true_and])
      clear ALL HC
      obtain ⟨s1, s2, s3, s4⟩ := s
      have r0 := (unhide BOX).cellAt 0 (by omega)
      have r1 := (unhide BOX).cellAt 1 (by omega)
      have r2 := (unhide BOX).cellAt 2 (by omega)
      have r3 := (unhide BOX).cellAt 3 (by omega)
      have f0 := (unhide BOX).frozenAt 0
      have f1 := (unhide BOX).frozenAt 1
      have f2 := (unhide BOX).frozenAt 2
      have f3 := (unhide BOX).frozenAt 3
      simp only [cellsW] at c0 c1 c2 c3 r0 r1 r2 r3
      go_wp2_with fail
      obtain ⟨q1, g1⟩ := (unhide BOX).stored 0 (.int .u64 s1)
      obtain ⟨q2, g2⟩ := q1.stored 1 (.int .u64 s2)
      obtain ⟨q3, g3⟩ := q2.stored 2 (.int .u64 s3)
      obtain ⟨q4, g4⟩ := q3.stored 3 (.int .u64 s4)
      have B9 := hide ((((unhide B).grown g1 (unhide B).size (fun q hq => by cases hq; exact Nat.le_refl _)).grown g2 (by simp; exact (unhide B).size) (fun q hq => by cases hq; exact Nat.le_refl _)).grown g3 (by simp; exact (unhide B).size) (fun q hq => by cases hq; exact Nat.le_refl _)).grown g4 (by simp; exact (unhide B).size) (fun q hq => by cases hq; exact Nat.le_refl _)
      clear g1 g2 g3 g4 q1 q2 q3
      obtain ⟨fr, hh⟩ := own_one q4
      refine bodyPost_ret_by (v := setV ⟨s1, s2, s3, s4⟩) ?_ rfl ⟨_, rfl, unhide FIT, unhide HA, unhide B9⟩
      exact results_cell_row (ty := 37) rfl _ _ w.heap.size _ #[.int .u64 s1, .int .u64 s2, .int .u64 s3, .int .u64 s4] fr _ rfl hh Tryd.underlying37 rfl (by kernel_rfl)

theorem k1_any (b : Nat) (W : World) (hb : b < 256) :
    Calls Tryd.prog 14 (#[.int .i64 b] ++ #[]) W fun e W' => e = .returned (.bool (decide (b = 9) || decide (b = 65) || decide (b = 66))) ∧ Below W.heap.size W W' := by
  by_cases h1 : b = 9
  · subst h1
    go_enter Tryd.func14, Tryd.ntmps14
    go_wp2_with fail
    go_ret
    exact ⟨rfl, Below.refl _ _⟩
  by_cases h2 : b = 65
  · subst h2
    go_enter Tryd.func14, Tryd.ntmps14
    go_wp2_with fail
    go_ret
    exact ⟨rfl, Below.refl _ _⟩
  by_cases h3 : b = 66
  · subst h3
    go_enter Tryd.func14, Tryd.ntmps14
    go_wp2_with fail
    go_ret
    exact ⟨rfl, Below.refl _ _⟩
  · have i1 : ¬ (b : Int) = 9 := by omega
    have i2 : ¬ (b : Int) = 65 := by omega
    have i3 : ¬ (b : Int) = 66 := by omega
    have HR : Hid ((decide (b = 9) || decide (b = 65) || decide (b = 66)) = false) := hide (by simp [h1, h2, h3])
    go_enter Tryd.func14, Tryd.ntmps14
    go_wp2_with fail
    go_ret
    exact ⟨Kb.ret_bool (by rw [unhide HR, show ((b : Int) == 9) = false from by rw [beq_eq_false_iff_ne]; exact i1, show ((b : Int) == 65) = false from by rw [beq_eq_false_iff_ne]; exact i2, show ((b : Int) == 66) = false from by rw [beq_eq_false_iff_ne]; exact i3]; rfl), Below.refl _ _⟩
theorem k2_any (p q : Se) (b g h N M : Nat) (W : World) (hb : b < 256) (hp : FitS p) (hq : FitS q)
    (h1 : W.ownsRow N 37 4 (.slice (some ⟨g, 0, none⟩) 1 1) 1 (cellsW p)) (h2 : W.ownsRow M 37 4 (.slice (some ⟨h, 0, none⟩) 1 1) 1 (cellsW q)) :
    Calls Tryd.prog 15 (#[.int .i64 b] ++ #[.pointer (some ⟨g, 0, none⟩), .pointer (some ⟨h, 0, none⟩)]) W fun e W' => e = .returned (.bool (bit p b || bit q b)) ∧ Below W.heap.size W W' := by
  have HP := hide (fun W => is_any p b W hp hb)
  have HQ := hide (fun W => is_any q b W hq hb)
  obtain ⟨x, hx⟩ : ∃ x, bit p b = x := ⟨_, rfl⟩
  obtain ⟨y, hy⟩ : ∃ y, bit q b = y := ⟨_, rfl⟩
  rw [hx] at HP ⊢
  rw [hy] at HQ ⊢
  clear hx hy hp hq
  obtain ⟨p1, p2, p3, p4⟩ := p
  obtain ⟨q1, q2, q3, q4⟩ := q
  have R2 := hide h2
  have c0 := h1.cellAt 0 (by omega)
  have c1 := h1.cellAt 1 (by omega)
  have c2 := h1.cellAt 2 (by omega)
  have c3 := h1.cellAt 3 (by omega)
  simp only [cellsW] at c0 c1 c2 c3
  simp only [List.getElem?_cons_zero, List.getElem?_cons_succ] at c0 c1 c2 c3
  unfold setV at HP HQ
  dsimp only at HP HQ
  clear h1 h2
  cases x with
  | true =>
    go_enter Tryd.func15, Tryd.ntmps15
    go_wp2_with fail
    refine ((unhide HP) _).mono ?_; rintro e w1 ⟨rfl, b1⟩
    go_wp2_with fail
    go_ret
    exact ⟨rfl, b1⟩
  | false =>
    go_enter Tryd.func15, Tryd.ntmps15
    go_wp2_with fail
    refine ((unhide HP) _).mono ?_; rintro e w1 ⟨rfl, b1⟩
    have h2 := own_below (unhide R2) b1
    have d0 := h2.cellAt 0 (by omega)
    have d1 := h2.cellAt 1 (by omega)
    have d2 := h2.cellAt 2 (by omega)
    have d3 := h2.cellAt 3 (by omega)
    simp only [cellsW] at d0 d1 d2 d3
    simp only [List.getElem?_cons_zero, List.getElem?_cons_succ] at d0 d1 d2 d3
    have B1 := hide b1
    clear b1 h2
    go_wp2_with fail
    refine ((unhide HQ) _).mono ?_; rintro e w2 ⟨rfl, b2⟩
    go_wp2_with fail
    go_ret
    exact ⟨by cases y <;> rfl, bel_trans (unhide B1) b2⟩
theorem cut_app (c : UInt8) : ∀ a b : List UInt8, Cs.cut c (a ++ c :: b) = Cs.cut c a ++ Cs.cut c b
  | [], b => by show Cs.cut c (c :: b) = [[]] ++ Cs.cut c b; rw [Cs.cut, if_pos rfl]; rfl
  | d :: a, b => by
    have ih := cut_app c a b
    show Cs.cut c (d :: (a ++ c :: b)) = _
    rw [Cs.cut, Cs.cut]
    by_cases h : d = c
    · rw [if_pos h, if_pos h, ih]; rfl
    · rw [if_neg h, if_neg h, ih]
      cases hc : Cs.cut c a with
      | nil => exact absurd hc (Cs.cut_ne c a)
      | cons x r => rfl
theorem ans_lit {q : Se} {z : Int} (h : Ans (Cs.cut 44 [57, 44, 54, 53, 45, 54, 54]) q z) : z = 0 ∧ FitS q ∧ ∀ j, j < 256 → bit q j = (decide (j = 9) || decide (j = 65) || decide (j = 66)) := by
  have e : Cs.cut 44 [57, 44, 54, 53, 45, 54, 54] = [[57], [54, 53, 45, 54, 54]] := by decide +kernel
  have r1 : Nt.rng [57] = some (9, 9) := by decide +kernel
  have r2 : Nt.rng [54, 53, 45, 54, 54] = some (65, 66) := by decide +kernel
  rw [e] at h
  rcases h with ⟨h1, h2, _, h4⟩ | ⟨_, _, x, hx, hn⟩
  · refine ⟨h1, h2, fun j hj => ?_⟩
    rw [h4 j hj]
    simp only [List.any_cons, List.any_nil, Nt.hits, r1, r2]
    rw [Bool.eq_iff_iff]
    simp
    omega
  · simp at hx
    rcases hx with rfl | rfl
    · rw [r1] at hn; cases hn
    · rw [r2] at hn; cases hn
theorem ans_no {cs ds : List (List UInt8)} {q p r : Se} {z y x : Int} (h1 : Ans cs q z) (h2 : Ans ds p y) (h3 : Ans (cs ++ ds) r x) (h : ¬ (z = 0 ∧ y = 0)) : x = 3 ∧ r = ⟨0, 0, 0, 0⟩ := by
  rcases h3 with ⟨_, _, h5, _⟩ | ⟨h4, h5, _⟩
  · exfalso
    rcases h1 with ⟨g1, _⟩ | ⟨_, _, a, ha, hn⟩
    · rcases h2 with ⟨g2, _⟩ | ⟨_, _, a, ha, hn⟩
      · exact h ⟨g1, g2⟩
      · have := h5 a (List.mem_append.2 (.inr ha)); rw [hn] at this; cases this
    · have := h5 a (List.mem_append.2 (.inl ha)); rw [hn] at this; cases this
  · exact ⟨h4, h5⟩
theorem ans_yes {cs ds : List (List UInt8)} {q p r : Se} {x : Int} (h1 : Ans cs q 0) (h2 : Ans ds p 0) (h3 : Ans (cs ++ ds) r x) : x = 0 ∧ FitS q ∧ FitS p ∧ FitS r ∧ ∀ j, j < 256 → bit r j = (bit q j || bit p j) := by
  rcases h1 with ⟨_, a2, a3, a4⟩ | ⟨a1, _⟩
  · rcases h2 with ⟨_, b2, b3, b4⟩ | ⟨b1, _⟩
    · rcases h3 with ⟨c1, c2, _, c4⟩ | ⟨_, _, y, hy, hn⟩
      · exact ⟨c1, a2, b2, c2, fun j hj => by rw [c4 j hj, a4 j hj, b4 j hj, List.any_append]⟩
      · exfalso
        rcases List.mem_append.1 hy with hy | hy
        · have := a3 y hy; rw [hn] at this; cases this
        · have := b3 y hy; rw [hn] at this; cases this
    · cases b1
  · cases a1
theorem ans_z {cs : List (List UInt8)} {q : Se} {z : Int} (h : Ans cs q z) : z = 0 ∨ z = 3 := by
  rcases h with ⟨h, _⟩ | ⟨h, _⟩
  · exact .inl h
  · exact .inr h
theorem set_row (W : World) (B : Nat) (hB : B ≤ W.heap.size) (a b c d : Int) : (W.alloc (.cells #[.int .u64 a, .int .u64 b, .int .u64 c, .int .u64 d] 37)).ownsRow B 37 4 (.slice (some ⟨W.heap.size, 0, none⟩) 1 1) 1 (cellsW ⟨a, b, c, d⟩) :=
  World.ownsRow_lit (e := 37) (size := 4) (base := B) W #[.int .u64 a, .int .u64 b, .int .u64 c, .int .u64 d] 1 hB (by unfold maxLen; omega) rfl
theorem set_cells {w : World} {B g : Nat} {a b c d : Int} (h : w.ownsRow B 37 4 (.slice (some ⟨g, 0, none⟩) 1 1) 1 (cellsW ⟨a, b, c, d⟩)) :
    w.cell? ⟨g, 0, none⟩ = some (.int .u64 a) ∧ w.cell? ⟨g, 1, none⟩ = some (.int .u64 b) ∧ w.cell? ⟨g, 2, none⟩ = some (.int .u64 c) ∧ w.cell? ⟨g, 3, none⟩ = some (.int .u64 d) :=
  ⟨h.cellAt 0 (by omega), h.cellAt 1 (by omega), h.cellAt 2 (by omega), h.cellAt 3 (by omega)⟩
end Go.Proofs.YtgmpgacedmjgdaaDoor
