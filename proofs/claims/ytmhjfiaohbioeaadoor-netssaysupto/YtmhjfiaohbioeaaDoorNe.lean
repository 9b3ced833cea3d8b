/- Walks: is an address in a net (the program's); the document's Rest. -/
import Derived.Test.YtmhjfiaohbioeaaDoorNd
namespace Go.Proofs.YtmhjfiaohbioeaaDoor
open Go.RowKit Kb
set_option linter.unusedVariables false
set_option maxRecDepth 20000

namespace Nt
/-- how many bits are asked -/
def ask (b : Int) : Nat := (min (max b 0) 32).toNat
theorem ask_le (b : Int) : ask b ≤ 32 := by unfold ask; omega
def inN (a : Nat) (b : Int) (d : Nat) : Bool := decide (a / 2 ^ (32 - ask b) = d / 2 ^ (32 - ask b))
theorem in_self (a : Nat) (b : Int) : inN a b a = true := by simp [inN]
theorem in_wide {a d : Nat} {b c : Int} (h : ask c ≤ ask b) (g : inN a b d = true) : inN a c d = true := by
  have g' : a / 2 ^ (32 - ask b) = d / 2 ^ (32 - ask b) := of_decide_eq_true g
  refine decide_eq_true ?_
  have := ask_le b
  have e : 2 ^ (32 - ask c) = 2 ^ (32 - ask b) * 2 ^ (ask b - ask c) := by rw [← Nat.pow_add]; congr 1; omega
  rw [e, ← Nat.div_div_eq_div_mul, ← Nat.div_div_eq_div_mul, g']
end Nt
theorem and_mask (x k : Nat) (hx : x < 4294967296) (hk : k ≤ 32) : bits .and .u32 (x : Int) ((4294967296 - 2 ^ k : Nat) : Int) = ((x / 2 ^ k * 2 ^ k : Nat) : Int) := by
  have hp := pow_le32 k hk
  rw [u32_and_nat x _ hx (by omega), Nt.mask_and hx hk]
theorem in_and (a d k : Nat) (ha : a < 4294967296) (hd : d < 4294967296) (hk : k ≤ 32) : (bits .and .u32 ((a ^^^ d : Nat) : Int) ((4294967296 - 2 ^ k : Nat) : Int) == 0) = decide (a / 2 ^ k = d / 2 ^ k) := by
  have hx : a ^^^ d < 4294967296 := Nat.xor_lt_two_pow (n := 32) ha hd
  rw [and_mask _ k hx hk]
  have hp := (pow_le32 k hk).1
  by_cases h : a / 2 ^ k = d / 2 ^ k
  · rw [decide_eq_true h, Nt.xor_same.2 h, Nat.zero_mul]; rfl
  · rw [decide_eq_false h]
    have h0 : (a ^^^ d) / 2 ^ k ≠ 0 := fun e => h (Nt.xor_same.1 e)
    have h1 : (a ^^^ d) / 2 ^ k * 2 ^ k ≠ 0 := Nat.mul_ne_zero h0 (by omega)
    exact beq_eq_false_iff_ne.2 (by omega)
theorem In_any (a : Nat) (b : Int) (d : Nat) (ha : a < 4294967296) (hd : d < 4294967296) (w : World) :
    Calls Tryd.prog 12 #[.agg #[.int .u32 a, .int .i64 b], .int .u32 d] w fun e w' => e = .returned (.bool (Nt.inN a b d)) ∧ Below w.heap.size w w' := by
  have X0 := hide (NX.new (base := w.heap.size) w (Nat.le_refl _) a b)
  have B0 := hide ((Below.refl w.heap.size w).alloc (Nat.le_refl _) (.cells #[.int .u32 a, .int .i64 b] 24))
  obtain ⟨W0, hW0⟩ : ∃ W0, w.alloc (.cells #[.int .u32 a, .int .i64 b] 24) = W0 := ⟨_, rfl⟩
  rw [hW0] at X0 B0
  obtain ⟨y0, y1⟩ := (unhide X0).cells
  have hask := Nt.ask_le b
  have HK := hide (fun W => mask_any (Nt.ask b) hask W)
  have HA := in_and a d (32 - Nt.ask b) ha hd (by omega)
  have HR : Hid (decide (a / 2 ^ (32 - Nt.ask b) = d / 2 ^ (32 - Nt.ask b)) = Nt.inN a b d) := hide rfl
  have HM : Hid (min (max b 0) 32 = ((Nt.ask b : Nat) : Int)) := hide (by unfold Nt.ask; omega)
  have hxor : bits .xor .u32 (a : Int) (d : Int) = ((a ^^^ d : Nat) : Int) := u32_xor_nat a d ha hd
  obtain ⟨res, hres⟩ : ∃ r, Nt.inN a b d = r := ⟨_, rfl⟩
  obtain ⟨m, hm⟩ : ∃ m : Int, ((4294967296 - 2 ^ (32 - Nt.ask b) : Nat) : Int) = m := ⟨_, rfl⟩
  rw [hm] at HK HA
  rw [unhide HR, hres] at HA
  rw [hres]
  obtain ⟨k, hk⟩ : ∃ k, Nt.ask b = k := ⟨_, rfl⟩
  rw [hk] at HK HM
  obtain ⟨x, hx⟩ : ∃ x : Int, ((a ^^^ d : Nat) : Int) = x := ⟨_, rfl⟩
  rw [hx] at HA hxor
  clear hres hm hk HR hask hx
  go_enter Tryd.func12, Tryd.ntmps12
  go_wp2_with fail
  clear hW0
  rw [unhide HM]
  go_quiet (first | (go_at_call 28; refine Calls.quiet_of_same ((unhide HK) _)))
  go_wp2_with fail
  go_ret
  exact ⟨rfl, Go.below_drewN (unhide B0) _⟩
theorem Rest_any (n m : Int) (hn : -9223372036854775808 ≤ n ∧ n ≤ 9223372036854775807) (hm : 0 < m) (hm2 : m ≤ 1000000) (w : World) :
    Calls Tryd.prog 18 #[.int .i64 n, .int .i64 m] w fun e w' => e = .returned (.int .i64 (n % m)) ∧ w' = w := by
  have h1 : Int.tmod n m = if n % m = 0 then 0 else if 0 ≤ n then n % m else n % m - m := by
    rcases Int.lt_or_le n 0 with h | h
    · have e := Int.tmod_eq_emod (a := n) (b := m)
      rw [e]
      by_cases hd : m ∣ n
      · have : n % m = 0 := Int.emod_eq_zero_of_dvd hd
        simp [this, hd]
      · have h0 : n % m ≠ 0 := fun e => hd (Int.dvd_of_emod_eq_zero e)
        rw [if_neg (by rintro (h' | h'); omega; exact hd h'), if_neg h0, if_neg (by omega)]
        omega
    · rw [Int.tmod_eq_emod_of_nonneg h, if_pos h]; split <;> omega
  have hb := Int.emod_nonneg n (by omega : m ≠ 0)
  have hb2 := Int.emod_lt_of_pos n hm
  obtain ⟨r, hr⟩ : ∃ r, n % m = r := ⟨_, rfl⟩
  rw [hr] at h1 hb hb2 ⊢
  obtain ⟨t, ht⟩ : ∃ t, Int.tmod n m = t := ⟨_, rfl⟩
  rw [ht] at h1
  have hm0 : ¬ m = 0 := by omega
  have hw : IntKind.i64.wrap t = t := by rw [IntKind.wrap_i64]; split at h1 <;> (try split at h1) <;> omega
  have H1 := hide h1
  by_cases hneg : t < 0
  · have hs : t + m = r := by rw [unhide H1]; split at h1 <;> (try split at h1) <;> omega
    clear h1
    go_enter Tryd.func18, Tryd.ntmps18
    go_wp2_with fail
    go_ret
    exact ⟨rfl, rfl⟩
  · have hs : t = r := by rw [unhide H1]; split at h1 <;> (try split at h1) <;> omega
    clear h1
    subst hs
    go_enter Tryd.func18, Tryd.ntmps18
    go_wp2_with fail
    go_ret
    exact ⟨rfl, rfl⟩
end Go.Proofs.YtmhjfiaohbioeaaDoor
