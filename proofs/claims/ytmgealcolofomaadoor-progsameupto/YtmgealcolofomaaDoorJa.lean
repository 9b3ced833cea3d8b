/- The program's sets of bytes: has, size, others, with, only; how many bits a word has. -/
import Derived.Test.YtmgealcolofomaaDoorHd
import Derived.Test.YtmgealcolofomaaDoorHj
import Derived.Laws.Bits64
namespace Go.Proofs.YtmgealcolofomaaDoor
open Go.RowKit Kb Pop
set_option linter.unusedVariables false
set_option maxRecDepth 20000

theorem and_int {x : Int} (h : 0 ≤ x ∧ x ≤ 18446744073709551615) (k : Nat) : (bits .and .u64 (x / 2 ^ k) 1 == 1) = x.toNat.testBit k := by
  obtain ⟨n, rfl⟩ : ∃ n : Nat, x = n := ⟨x.toNat, by omega⟩
  have e : ((n : Int) / 2 ^ k) = ((n / 2 ^ k : Nat) : Int) := by simp
  have hl : n / 2 ^ k ≤ n := Nat.div_le_self _ _
  have : bits .and .u64 ((n / 2 ^ k : Nat) : Int) ((1 : Nat) : Int) = ((n / 2 ^ k &&& 1 : Nat) : Int) := bits_and_u64_nat _ _ (by omega) (by omega)
  rw [e, show (1 : Int) = ((1 : Nat) : Int) from rfl, this, Int.toNat_natCast, Nat.testBit_eq_decide_div_mod_eq, Bool.eq_iff_iff, beq_iff_eq, decide_eq_true_iff, Nat.and_one_is_mod]
  omega
set_option maxHeartbeats 400000 in
theorem has_any (s : Se) (c : UInt8) (w : World) (hf : FitS s) :
    Calls Tryd.prog 87 #[setV s, .int .u8 c.toNat] w fun e w' => e = .returned (.bool (bit s c.toNat)) ∧ Below w.heap.size w w' := by
  have hb := c.toNat_lt
  obtain ⟨b, hbe⟩ : ∃ b, c.toNat = b := ⟨_, rfl⟩
  rw [hbe] at hb ⊢
  obtain ⟨s1, s2, s3, s4⟩ := s
  unfold FitS at hf
  unfold setV
  dsimp only at *
  obtain ⟨x, hx⟩ : ∃ x, wordS ⟨s1, s2, s3, s4⟩ (b / 64) = x := ⟨_, rfl⟩
  have hget : (#[.int .u64 s1, .int .u64 s2, .int .u64 s3, .int .u64 s4] : Array Value)[b / 64]? = some (.int .u64 x) := by
    rw [← hx]
    have h4 : b / 64 < 4 := by omega
    match b / 64, h4 with
    | 0, _ => rfl
    | 1, _ => rfl
    | 2, _ => rfl
    | 3, _ => rfl
  have hxf : 0 ≤ x ∧ x ≤ 18446744073709551615 := by
    rw [← hx]
    have h4 : b / 64 < 4 := by omega
    match b / 64, h4 with
    | 0, _ => exact hf.1
    | 1, _ => exact hf.2.1
    | 2, _ => exact hf.2.2.1
    | 3, _ => exact hf.2.2.2
  have HX := hide hx
  clear hx hbe
  go_enter Tryd.func87, Tryd.ntmps87
  go_wp2_with fail
  go_ret
  refine ⟨?_, (Below.refl _ _).alloc (Nat.le_refl _) _⟩
  unfold bit
  rw [unhide HX, ← and_int hxf]; rfl
theorem wraps63' (n : Int) (h0 : 0 ≤ n) (h1 : n < 2 ^ 63) : IntKind.i64.wrap n = n := by
  apply Kb.wr64 <;> omega
theorem and127 (y : Int) (h0 : 0 ≤ y) (h1 : y < 9223372036854775808) : bits BinOp.and IntKind.i64 y 127 = y % 128 := by
  have := bits_mask .i64 63 (by decide) wraps63' 7 (by decide) y h0 (by simpa using h1)
  simpa using this
/-- how many bytes a set has -/
def cntS (s : Se) : Nat := cntN (bit s) 256
theorem bit_word (s : Se) (i : Nat) (hi : i < 4) (j : Nat) (hj : j < 64) : bit s (64 * i + j) = (wordS s i).toNat.testBit j := by
  unfold bit
  rw [show (64 * i + j) / 64 = i by omega, show (64 * i + j) % 64 = j by omega]
theorem cntS_words (s : Se) (i : Nat) (hi : i < 4) : cntN (bit s) (64 * (i + 1)) = cntN (bit s) (64 * i) + cntN (fun j => (wordS s i).toNat.testBit j) 64 := by
  rw [show 64 * (i + 1) = 64 * i + 64 by omega, cntN_add]
  congr 1
  exact cntN_congr fun j hj => bit_word s i hi j hj
theorem ixs0 (a b c d : Int) : ∀ w, (Instr.index 35 (.agg #[.int .u64 a, .int .u64 b, .int .u64 c, .int .u64 d]) (.int .i64 0)).run Tryd.prog w = .ok (.int .u64 a) w := fun w => by kernel_rfl
theorem ixs1 (a b c d : Int) : ∀ w, (Instr.index 35 (.agg #[.int .u64 a, .int .u64 b, .int .u64 c, .int .u64 d]) (.int .i64 1)).run Tryd.prog w = .ok (.int .u64 b) w := fun w => by kernel_rfl
theorem ixs2 (a b c d : Int) : ∀ w, (Instr.index 35 (.agg #[.int .u64 a, .int .u64 b, .int .u64 c, .int .u64 d]) (.int .i64 2)).run Tryd.prog w = .ok (.int .u64 c) w := fun w => by kernel_rfl
theorem ixs3 (a b c d : Int) : ∀ w, (Instr.index 35 (.agg #[.int .u64 a, .int .u64 b, .int .u64 c, .int .u64 d]) (.int .i64 3)).run Tryd.prog w = .ok (.int .u64 d) w := fun w => by kernel_rfl
theorem xor_all {x : Int} (h : 0 ≤ x ∧ x ≤ 18446744073709551615) : 0 ≤ 18446744073709551615 - x ∧ 18446744073709551615 - x ≤ 18446744073709551615 := by omega
theorem not_bit (n j : Nat) (hn : n < 18446744073709551616) (hj : j < 64) : (18446744073709551615 - n).testBit j = !n.testBit j := by
  have := Nat.testBit_two_pow_sub_succ (x := n) (n := 64) (by simpa using hn) j
  rw [show 2 ^ 64 - (n + 1) = 18446744073709551615 - n by omega] at this
  rw [this, decide_eq_true hj, Bool.true_and]
theorem xor_max {x : Int} (h : 0 ≤ x ∧ x ≤ 18446744073709551615) : bits BinOp.xor IntKind.u64 (if IntKind.u64.signed = true then -1 else IntKind.u64.max) x = 18446744073709551615 - x := by
  obtain ⟨n, rfl⟩ : ∃ n : Nat, x = n := ⟨x.toNat, by omega⟩
  have e : (if IntKind.u64.signed = true then -1 else IntKind.u64.max : Int) = ((18446744073709551615 : Nat) : Int) := by decide
  rw [e, bits_xor_u64_nat _ n (by omega) (by omega)]
  have : 18446744073709551615 ^^^ n = 18446744073709551615 - n := by
    apply Nat.eq_of_testBit_eq
    intro j
    rw [Nat.testBit_xor]
    by_cases hj : j < 64
    · rw [not_bit n j (by omega) hj, show (18446744073709551615 : Nat) = 2 ^ 64 - 1 from rfl, Nat.testBit_two_pow_sub_one, decide_eq_true hj, Bool.true_xor]
    · rw [Nat.testBit_lt_two_pow (x := n) (Nat.lt_of_lt_of_le (by omega : n < 2 ^ 64) (Nat.pow_le_pow_right (by omega) (by omega))), Nat.testBit_lt_two_pow (x := 18446744073709551615 - n) (Nat.lt_of_lt_of_le (by omega : 18446744073709551615 - n < 2 ^ 64) (Nat.pow_le_pow_right (by omega) (by omega))), show (18446744073709551615 : Nat) = 2 ^ 64 - 1 from rfl, Nat.testBit_two_pow_sub_one, decide_eq_false hj]; rfl
  rw [this]; omega
/-- the set of all other bytes -/
def notS (s : Se) : Se := ⟨18446744073709551615 - s.a, 18446744073709551615 - s.b, 18446744073709551615 - s.c, 18446744073709551615 - s.d⟩
theorem notS_fit {s : Se} (h : FitS s) : FitS (notS s) := by
  unfold FitS notS at *; dsimp only; omega
theorem notS_word (s : Se) (i : Nat) (hi : i < 4) : wordS (notS s) i = 18446744073709551615 - wordS s i := by
  match i, hi with
  | 0, _ => rfl
  | 1, _ => rfl
  | 2, _ => rfl
  | 3, _ => rfl
theorem notS_bit {s : Se} (h : FitS s) (b : Nat) (hb : b < 256) : bit (notS s) b = !bit s b := by
  have hf := wordS_fit h (b / 64) (by omega)
  unfold bit
  rw [notS_word _ _ (by omega), show (18446744073709551615 - wordS s (b / 64)).toNat = 18446744073709551615 - (wordS s (b / 64)).toNat by omega]
  exact not_bit _ _ (by omega) (by omega)
theorem ret_set4 {w wr : World} (B : Below w.heap.size w wr) {g : Nat} (hg : w.heap.size ≤ g) {s0 : Se} (BOX : wr.ownsRow w.heap.size 35 4 (.slice (some ⟨g, 0, none⟩) 1 1) 1 (cellsW s0)) (s1 s2 s3 s4 : Int) :
    Below w.heap.size w ((((wr.setCell ⟨g, 0, none⟩ (.int .u64 s1)).setCell ⟨g, 1, none⟩ (.int .u64 s2)).setCell ⟨g, 2, none⟩ (.int .u64 s3)).setCell ⟨g, 3, none⟩ (.int .u64 s4)) ∧ ∃ fr, ((((wr.setCell ⟨g, 0, none⟩ (.int .u64 s1)).setCell ⟨g, 1, none⟩ (.int .u64 s2)).setCell ⟨g, 2, none⟩ (.int .u64 s3)).setCell ⟨g, 3, none⟩ (.int .u64 s4)).heap[g]? = some (.cells #[.int .u64 s1, .int .u64 s2, .int .u64 s3, .int .u64 s4] 35 fr) := by
  obtain ⟨q1, g1⟩ := BOX.stored 0 (.int .u64 s1)
  obtain ⟨q2, g2⟩ := q1.stored 1 (.int .u64 s2)
  obtain ⟨q3, g3⟩ := q2.stored 2 (.int .u64 s3)
  obtain ⟨q4, g4⟩ := q3.stored 3 (.int .u64 s4)
  refine ⟨(((B.grown g1 B.size (fun q hq => by cases hq; exact hg)).grown g2 (by simp; exact B.size) (fun q hq => by cases hq; exact hg)).grown g3 (by simp; exact B.size) (fun q hq => by cases hq; exact hg)).grown g4 (by simp; exact B.size) (fun q hq => by cases hq; exact hg), ?_⟩
  obtain ⟨fr, hh⟩ := own_one q4
  exact ⟨fr, hh⟩
theorem two_boxes (w : World) (s1 s2 s3 s4 : Int) : ∃ W0, ((w.alloc (.cells #[.int .u64 s1, .int .u64 s2, .int .u64 s3, .int .u64 s4] 35)).alloc (.cells #[.int .u64 0, .int .u64 0, .int .u64 0, .int .u64 0] 35)) = W0 ∧ Below w.heap.size w W0 ∧ W0.ownsRow w.heap.size 35 4 (.slice (some ⟨w.heap.size, 0, none⟩) 1 1) 1 (cellsW ⟨s1, s2, s3, s4⟩) ∧ W0.ownsRow w.heap.size 35 4 (.slice (some ⟨w.heap.size + 1, 0, none⟩) 1 1) 1 (cellsW ⟨0, 0, 0, 0⟩) := by
  refine ⟨_, rfl, ((Below.refl _ _).alloc (Nat.le_refl _) _).alloc (by simp) _, World.ownsRow.alloc (World.ownsRow_lit (e := 35) (size := 4) w #[.int .u64 s1, .int .u64 s2, .int .u64 s3, .int .u64 s4] 1 (Nat.le_refl _) (by unfold maxLen; omega) rfl) _, ?_⟩
  have := World.ownsRow_lit (e := 35) (size := 4) (base := w.heap.size) (w.alloc (.cells #[.int .u64 s1, .int .u64 s2, .int .u64 s3, .int .u64 s4] 35)) #[.int .u64 0, .int .u64 0, .int .u64 0, .int .u64 0] 1 (by simp) (by unfold maxLen; omega) rfl
  rwa [show (w.alloc (.cells #[.int .u64 s1, .int .u64 s2, .int .u64 s3, .int .u64 s4] 35)).heap.size = w.heap.size + 1 by simp] at this
/-- is a byte from a to z? -/
def betw (a z j : Nat) : Bool := decide (a ≤ j ∧ j ≤ z)
theorem fit0 : FitS ⟨0, 0, 0, 0⟩ := by unfold FitS; decide
theorem bit0 (j : Nat) : bit ⟨0, 0, 0, 0⟩ j = false := by
  unfold bit wordS
  split <;> simp
end Go.Proofs.YtmgealcolofomaaDoor
