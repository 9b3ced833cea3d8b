/- Walks: is an address in a net (the program's); the document's Rest. -/
import Derived.Test.YtloidooaebhliaaDoorNd
namespace Go.Proofs.YtloidooaebhliaaDoor
open Go.RowKit Kb
set_option linter.unusedVariables false
set_option maxRecDepth 20000

namespace Nt
/-- how many bits are asked -/
def ask (b : Int) : Nat := (min (max b 0) 32).toNat
theorem ask_le (b : Int) : ask b ≤ 32 := by unfold ask; omega
def inN (a : Nat) (b : Int) (d : Nat) : Bool := decide (a / 2 ^ (32 - ask b) = d / 2 ^ (32 - ask b))
theorem in_self (a : Nat) (b : Int) : inN a b a = true := by simp [inN]
theorem in_wide {a d : Nat} {b c : Int} (h : ask c ≤ ask b) (g : inN a b d = true) : inN a c d = true := by
  have g' : a / 2 ^ (32 - ask b) = d / 2 ^ (32 - ask b) := of_decide_eq_true g
  refine decide_eq_true ?_
  have := ask_le b
  have e : 2 ^ (32 - ask c) = 2 ^ (32 - ask b) * 2 ^ (ask b - ask c) := by rw [← Nat.pow_add]; congr 1; omega
  rw [e, ← Nat.div_div_eq_div_mul, ← Nat.div_div_eq_div_mul, g']
end Nt
theorem and_mask (x k : Nat) (hx : x < 4294967296) (hk : k ≤ 32) : bits .and .u32 (x : Int) ((4294967296 - 2 ^ k : Nat) : Int) = ((x / 2 ^ k * 2 ^ k : Nat) : Int) := by
  have hp := pow_le32 k hk
  rw [u32_and_nat x _ hx (by omega), Nt.mask_and hx hk]
theorem in_and (a d k : Nat) (ha : a < 4294967296) (hd : d < 4294967296) (hk : k ≤ 32) : (bits .and .u32 ((a ^^^ d : Nat) : Int) ((4294967296 - 2 ^ k : Nat) : Int) == 0) = decide (a / 2 ^ k = d / 2 ^ k) := by
  have hx : a ^^^ d < 4294967296 := Nat.xor_lt_two_pow (n := 32) ha hd
  rw [and_mask _ k hx hk]
  have hp := (pow_le32 k hk).1
  by_cases h : a / 2 ^ k = d / 2 ^ k
  · rw [decide_eq_true h, Nt.xor_same.2 h, Nat.zero_mul]; rfl
  · rw [decide_eq_false h]
    have h0 : (a ^^^ d) / 2 ^ k ≠ 0 := fun e => h (Nt.xor_same.1 e)
    have h1 : (a ^^^ d) / 2 ^ k * 2 ^ k ≠ 0 := Nat.mul_ne_zero h0 (by omega)
    exact beq_eq_false_iff_ne.2 (by omega)
end Go.Proofs.YtloidooaebhliaaDoor
