/- Sets of bytes: the document's Is and Where. -/
import Derived.Test.YtmgealcolofomaaDoorHa
import Derived.Laws.Rows
import Derived.Laws.Bits64b
namespace Go.Proofs.YtmgealcolofomaaDoor
open Go.RowKit Kb
set_option linter.unusedVariables false
set_option maxRecDepth 20000

def wordS (s : Se) (i : Nat) : Int := match i with | 0 => s.a | 1 => s.b | 2 => s.c | _ => s.d
/-- is a byte in a set? -/
def bit (s : Se) (b : Nat) : Bool := (wordS s (b / 64)).toNat.testBit (b % 64)
theorem bit_int {x : Int} (h : 0 ≤ x) (k : Nat) : ((x / 2 ^ k).tmod 2 == 1) = x.toNat.testBit k := by
  obtain ⟨n, rfl⟩ : ∃ n : Nat, x = n := ⟨x.toNat, by omega⟩
  have e : ((n : Int) / 2 ^ k) = ((n / 2 ^ k : Nat) : Int) := by simp
  rw [e, Int.toNat_natCast, Nat.testBit_eq_decide_div_mod_eq, Bool.eq_iff_iff, beq_iff_eq, decide_eq_true_iff]
  have : ((n / 2 ^ k : Nat) : Int).tmod 2 = ((n / 2 ^ k % 2 : Nat) : Int) := rfl
  rw [this]; omega
def setV (s : Se) : Value := .agg #[.int .u64 s.a, .int .u64 s.b, .int .u64 s.c, .int .u64 s.d]
def FitS (s : Se) : Prop := (0 ≤ s.a ∧ s.a ≤ 18446744073709551615) ∧ (0 ≤ s.b ∧ s.b ≤ 18446744073709551615) ∧ (0 ≤ s.c ∧ s.c ≤ 18446744073709551615) ∧ (0 ≤ s.d ∧ s.d ≤ 18446744073709551615)
def cellsW (s : Se) : List Value := [.int .u64 s.a, .int .u64 s.b, .int .u64 s.c, .int .u64 s.d]
def setW (s : Se) (i : Nat) (x : Int) : Se := match i with | 0 => { s with a := x } | 1 => { s with b := x } | 2 => { s with c := x } | _ => { s with d := x }
theorem cellsW_set (s : Se) (i : Nat) (hi : i < 4) (x : Int) : (cellsW s).set i (.int .u64 x) = cellsW (setW s i x) := by
  match i, hi with
  | 0, _ => rfl
  | 1, _ => rfl
  | 2, _ => rfl
  | 3, _ => rfl
theorem wordS_set (s : Se) (i : Nat) (hi : i < 4) (x : Int) (j : Nat) (hj : j < 4) : wordS (setW s i x) j = if j = i then x else wordS s j := by
  match i, hi with
  | 0, _ => match j, hj with | 0, _ => rfl | 1, _ => rfl | 2, _ => rfl | 3, _ => rfl
  | 1, _ => match j, hj with | 0, _ => rfl | 1, _ => rfl | 2, _ => rfl | 3, _ => rfl
  | 2, _ => match j, hj with | 0, _ => rfl | 1, _ => rfl | 2, _ => rfl | 3, _ => rfl
  | 3, _ => match j, hj with | 0, _ => rfl | 1, _ => rfl | 2, _ => rfl | 3, _ => rfl
theorem fitS_set {s : Se} (h : FitS s) (i : Nat) (hi : i < 4) {x : Int} (hx : 0 ≤ x ∧ x ≤ 18446744073709551615) : FitS (setW s i x) := by
  obtain ⟨h1, h2, h3, h4⟩ := h
  match i, hi with
  | 0, _ => exact ⟨hx, h2, h3, h4⟩
  | 1, _ => exact ⟨h1, hx, h3, h4⟩
  | 2, _ => exact ⟨h1, h2, hx, h4⟩
  | 3, _ => exact ⟨h1, h2, h3, hx⟩
theorem wordS_fit {s : Se} (h : FitS s) (i : Nat) (hi : i < 4) : 0 ≤ wordS s i ∧ wordS s i ≤ 18446744073709551615 := by
  obtain ⟨h1, h2, h3, h4⟩ := h
  match i, hi with
  | 0, _ => exact h1
  | 1, _ => exact h2
  | 2, _ => exact h3
  | 3, _ => exact h4
theorem cellsW_at (s : Se) (i : Nat) (hi : i < 4) : (cellsW s)[i]? = some (.int .u64 (wordS s i)) := by
  match i, hi with
  | 0, _ => rfl
  | 1, _ => rfl
  | 2, _ => rfl
  | 3, _ => rfl
theorem own_one {w : World} {B e size g : Nat} {xs : List Value} (h : w.ownsRow B e size (.slice (some ⟨g, 0, none⟩) 1 1) 1 xs) : ∃ fr, w.heap[g]? = some (.cells xs.toArray e fr) := by
  rcases h.2 with ⟨h0, _⟩ | ⟨g', cap, cur, h0, h1, h2, h3, h4, h5, h6⟩
  · cases h0
  · cases h0
    have : cur = xs.toArray := by
      rw [← h6, List.take_of_length_le (by simp; omega)]
    rw [← this]; exact ⟨_, h2⟩
theorem or_pow {x : Int} (hx : 0 ≤ x ∧ x ≤ 18446744073709551615) {k : Nat} (hk : k < 64) : bits .or .u64 x (IntKind.u64.wrap (2 ^ k)) = ((x.toNat ||| 2 ^ k : Nat) : Int) := by
  have h2 : 2 ^ k < 18446744073709551616 := Nat.lt_of_lt_of_le (Nat.pow_lt_pow_right (by omega) hk) (by decide)
  have e : IntKind.u64.wrap (2 ^ k) = ((2 ^ k : Nat) : Int) := by
    rw [IntKind.wrap_u64, show (2 : Int) ^ k = ((2 ^ k : Nat) : Int) by simp]
    generalize (2 ^ k : Nat) = m at *
    omega
  obtain ⟨n, rfl⟩ : ∃ n : Nat, x = n := ⟨x.toNat, by omega⟩
  rw [e, bits_or_u64_nat n (2 ^ k) (by omega) h2, Int.toNat_natCast]
theorem or_fit {x : Int} (hx : 0 ≤ x ∧ x ≤ 18446744073709551615) {k : Nat} (hk : k < 64) : 0 ≤ ((x.toNat ||| 2 ^ k : Nat) : Int) ∧ ((x.toNat ||| 2 ^ k : Nat) : Int) ≤ 18446744073709551615 := by
  have : x.toNat ||| 2 ^ k < 2 ^ 64 := Nat.or_lt_two_pow (by omega) (Nat.pow_lt_pow_right (by omega) hk)
  omega
theorem bit_or {s : Se} {b j : Nat} (hb : b < 256) (hj : j < 256) : bit (setW s (b / 64) (((wordS s (b / 64)).toNat ||| 2 ^ (b % 64) : Nat) : Int)) j = (bit s j || decide (j = b)) := by
  unfold bit
  rw [wordS_set s _ (by omega) _ _ (by omega)]
  by_cases h : j / 64 = b / 64
  · rw [if_pos h, Int.toNat_natCast, Nat.testBit_or, Nat.testBit_two_pow, h]
    congr 1
    rw [decide_eq_decide]; omega
  · rw [if_neg h, decide_eq_false (by intro e; subst e; exact h rfl), Bool.or_false]
theorem set_new (w : World) : ((w.alloc (.cells #[.int .u64 0, .int .u64 0, .int .u64 0, .int .u64 0] 35)).alloc (.cells #[.int .u64 0, .int .u64 0, .int .u64 0, .int .u64 0] 35)).ownsRow w.heap.size 35 4 (.slice (some ⟨w.heap.size + 1, 0, none⟩) 1 1) 1 (cellsW ⟨0, 0, 0, 0⟩) := by
  have := World.ownsRow_lit (e := 35) (size := 4) (base := w.heap.size) (w.alloc (.cells #[.int .u64 0, .int .u64 0, .int .u64 0, .int .u64 0] 35)) #[.int .u64 0, .int .u64 0, .int .u64 0, .int .u64 0] 1 (by simp) (by unfold maxLen; omega) rfl
  rwa [show (w.alloc (.cells #[.int .u64 0, .int .u64 0, .int .u64 0, .int .u64 0] 35)).heap.size = w.heap.size + 1 by simp] at this
theorem set_box (w : World) : ((w.alloc (.cells #[.int .u64 0, .int .u64 0, .int .u64 0, .int .u64 0] 35)).alloc (.cells #[.int .u64 0, .int .u64 0, .int .u64 0, .int .u64 0] 35)).ownsRow w.heap.size 35 4 (.slice (some ⟨w.heap.size, 0, none⟩) 1 1) 1 (cellsW ⟨0, 0, 0, 0⟩) :=
  World.ownsRow.alloc (World.ownsRow_lit (e := 35) (size := 4) w #[.int .u64 0, .int .u64 0, .int .u64 0, .int .u64 0] 1 (Nat.le_refl _) (by unfold maxLen; omega) rfl) _
end Go.Proofs.YtmgealcolofomaaDoor
