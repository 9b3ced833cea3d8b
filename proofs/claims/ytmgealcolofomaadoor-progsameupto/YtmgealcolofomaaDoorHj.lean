/- How many bits a word has: plain. -/
import Derived.Test.YtmgealcolofomaaDoorKc
namespace Go.Proofs.YtmgealcolofomaaDoor
set_option linter.unusedVariables false
set_option maxRecDepth 20000

namespace Pop
theorem and_split (a b c d : Nat) (hb : b < 256) (hd : d < 256) : (a * 256 + b) &&& (c * 256 + d) = (a &&& c) * 256 + (b &&& d) := by
  have h : b &&& d < 256 := Nat.lt_of_le_of_lt Nat.and_le_left hb
  apply Nat.eq_of_testBit_eq
  intro i
  rw [Nat.testBit_and]
  have e : ∀ (x y : Nat), y < 256 → (x * 256 + y).testBit i = if i < 8 then y.testBit i else x.testBit (i - 8) := by
    intro x y hy
    have := Nat.testBit_two_pow_mul_add x (i := 8) (b := y) hy i
    rw [show x * 256 + y = 2 ^ 8 * x + y by omega, this]
  rw [e a b hb, e c d hd, e _ _ h]
  split <;> simp [Nat.testBit_and]
/-- a mask of k bytes -/
def msk (m : Nat) : Nat → Nat
  | 0 => 0
  | k + 1 => msk m k * 256 + m
def s1 (k x : Nat) : Nat := ((x / 2) &&& msk 85 k) + (x &&& msk 85 k)
def s2 (k x : Nat) : Nat := ((x / 4) &&& msk 51 k) + (x &&& msk 51 k)
def s3 (k x : Nat) : Nat := (x / 16 + x) &&& msk 15 k
theorem byte_all {p : Nat → Prop} [DecidablePred p] (h : ∀ x ∈ List.range 256, p x) (b : Nat) (hb : b < 256) : p b := h b (List.mem_range.2 hb)
theorem s1_step (k a b : Nat) (hb : b < 256) : s1 (k + 1) (a * 256 + b) = s1 k a * 256 + s1 1 b := by
  have h1 : (a * 256 + b) / 2 = (a / 2) * 256 + (a % 2 * 128 + b / 2) := by omega
  unfold s1
  rw [show msk 85 (k + 1) = msk 85 k * 256 + 85 from rfl, show msk 85 1 = 85 from rfl, h1, and_split _ _ _ _ (by omega) (by omega), and_split _ _ _ _ hb (by omega)]
  have h2 : (a % 2 * 128 + b / 2) &&& 85 = (b / 2) &&& 85 := by
    rcases Nat.mod_two_eq_zero_or_one a with h | h <;> rw [h]
    · simp
    · exact byte_all (p := fun b => (1 * 128 + b / 2) &&& 85 = (b / 2) &&& 85) (by decide +kernel) b hb
  rw [h2]; omega
theorem s2_step (k a b : Nat) (hb : b < 256) : s2 (k + 1) (a * 256 + b) = s2 k a * 256 + s2 1 b := by
  have h1 : (a * 256 + b) / 4 = (a / 4) * 256 + (a % 4 * 64 + b / 4) := by omega
  unfold s2
  rw [show msk 51 (k + 1) = msk 51 k * 256 + 51 from rfl, show msk 51 1 = 51 from rfl, h1, and_split _ _ _ _ (by omega) (by omega), and_split _ _ _ _ hb (by omega)]
  have h2 : (a % 4 * 64 + b / 4) &&& 51 = (b / 4) &&& 51 := by
    have : a % 4 < 4 := by omega
    generalize a % 4 = q at this
    match q, this with
    | 0, _ => simp
    | 1, _ => exact byte_all (p := fun b => (1 * 64 + b / 4) &&& 51 = (b / 4) &&& 51) (by decide +kernel) b hb
    | 2, _ => exact byte_all (p := fun b => (2 * 64 + b / 4) &&& 51 = (b / 4) &&& 51) (by decide +kernel) b hb
    | 3, _ => exact byte_all (p := fun b => (3 * 64 + b / 4) &&& 51 = (b / 4) &&& 51) (by decide +kernel) b hb
  rw [h2]; omega
theorem s3_step (k a b : Nat) (hb : b < 256) (hn : b / 16 ≤ 4 ∧ b % 16 ≤ 4) (ha : a % 256 / 16 ≤ 4 ∧ a % 256 % 16 ≤ 4) : s3 (k + 1) (a * 256 + b) = s3 k a * 256 + s3 1 b := by
  have h1 : (a * 256 + b) / 16 + (a * 256 + b) = (a / 16 + a) * 256 + ((a % 16) * 16 + b / 16 + b) := by omega
  unfold s3
  rw [show msk 15 (k + 1) = msk 15 k * 256 + 15 from rfl, show msk 15 1 = 15 from rfl, h1, and_split _ _ _ _ (by omega) (by omega)]
  have h2 : ∀ y, y < 16 → ((y * 16 + b / 16 + b) &&& 15) = ((b / 16 + b) &&& 15) := by
    intro y hy
    rw [show (15 : Nat) = 2 ^ 4 - 1 from rfl, Nat.and_two_pow_sub_one_eq_mod, Nat.and_two_pow_sub_one_eq_mod]
    omega
  rw [h2 _ (by omega)]
def cnt8 (b : Nat) : Nat := b % 2 + b / 2 % 2 + b / 4 % 2 + b / 8 % 2 + b / 16 % 2 + b / 32 % 2 + b / 64 % 2 + b / 128 % 2
theorem all3 (b : Nat) (hb : b < 256) : s1 1 b < 256 ∧ s2 1 (s1 1 b) < 256 ∧ (s2 1 (s1 1 b) / 16 ≤ 4 ∧ s2 1 (s1 1 b) % 16 ≤ 4) ∧ s3 1 (s2 1 (s1 1 b)) = cnt8 b ∧ cnt8 b ≤ 8 :=
  byte_all (p := fun b => s1 1 b < 256 ∧ s2 1 (s1 1 b) < 256 ∧ (s2 1 (s1 1 b) / 16 ≤ 4 ∧ s2 1 (s1 1 b) % 16 ≤ 4) ∧ s3 1 (s2 1 (s1 1 b)) = cnt8 b ∧ cnt8 b ≤ 8) (by decide +kernel) b hb
/-- the numbers of bits, byte by byte -/
def cnts : Nat → Nat → Nat
  | 0, _ => 0
  | k + 1, x => cnts k (x / 256) * 256 + cnt8 (x % 256)
theorem low2 (k x : Nat) (hk : x < 256 ^ k) : s2 k (s1 k x) % 256 / 16 ≤ 4 ∧ s2 k (s1 k x) % 256 % 16 ≤ 4 := by
  cases k with
  | zero => obtain rfl : x = 0 := by simpa using hk
            decide
  | succ k =>
    have hx : x = x / 256 * 256 + x % 256 := by omega
    have h := all3 (x % 256) (by omega)
    rw [hx, s1_step _ _ _ (by omega), s2_step _ _ _ h.1]
    rw [show (s2 k (s1 k (x / 256)) * 256 + s2 1 (s1 1 (x % 256))) % 256 = s2 1 (s1 1 (x % 256)) by omega]
    exact h.2.2.1
theorem steps (k : Nat) : ∀ x, x < 256 ^ k → s3 k (s2 k (s1 k x)) = cnts k x := by
  induction k with
  | zero => intro x h; obtain rfl : x = 0 := by simpa using h
            decide
  | succ k ih =>
    intro x hx
    have e : x = x / 256 * 256 + x % 256 := by omega
    have hq : x / 256 < 256 ^ k := by rw [Nat.pow_succ] at hx; omega
    have h := all3 (x % 256) (by omega)
    have := low2 k (x / 256) hq
    conv => lhs; rw [e]
    rw [s1_step _ _ _ (by omega), s2_step _ _ _ h.1, s3_step _ _ _ h.2.1 h.2.2.1 this, ih _ hq, h.2.2.2.1, cnts]
/-- how many bits a word has -/
def pop : Nat → Nat → Nat
  | 0, _ => 0
  | k + 1, x => pop k (x / 256) + cnt8 (x % 256)
theorem cut (a q m : Nat) (h : a < m) : (a + m * q) / m = q := by
  rw [Nat.add_mul_div_left _ _ (by omega), Nat.div_eq_of_lt h]; simp
theorem fold (x : Nat) (hx : x < 18446744073709551616) (y : Nat) (hy : y = s3 8 (s2 8 (s1 8 x))) :
    ((y + y / 256 + (y + y / 256) / 65536) + (y + y / 256 + (y + y / 256) / 65536) / 4294967296) % 128 = pop 8 x := by
  rw [hy, steps 8 x hx]
  simp only [cnts, pop]
  have h : ∀ z, cnt8 (z % 256) ≤ 8 := fun z => (all3 (z % 256) (by omega)).2.2.2.2
  have h0 := h x
  have h1 := h (x / 256)
  have h2 := h (x / 256 / 256)
  have h3 := h (x / 256 / 256 / 256)
  have h4 := h (x / 256 / 256 / 256 / 256)
  have h5 := h (x / 256 / 256 / 256 / 256 / 256)
  have h6 := h (x / 256 / 256 / 256 / 256 / 256 / 256)
  have h7 := h (x / 256 / 256 / 256 / 256 / 256 / 256 / 256)
  generalize cnt8 (x % 256) = a0 at *
  generalize cnt8 (x / 256 % 256) = a1 at *
  generalize cnt8 (x / 256 / 256 % 256) = a2 at *
  generalize cnt8 (x / 256 / 256 / 256 % 256) = a3 at *
  generalize cnt8 (x / 256 / 256 / 256 / 256 % 256) = a4 at *
  generalize cnt8 (x / 256 / 256 / 256 / 256 / 256 % 256) = a5 at *
  generalize cnt8 (x / 256 / 256 / 256 / 256 / 256 / 256 % 256) = a6 at *
  generalize cnt8 (x / 256 / 256 / 256 / 256 / 256 / 256 / 256 % 256) = a7 at *
  clear hx hy h
  rw [show (((((((0 * 256 + a7) * 256 + a6) * 256 + a5) * 256 + a4) * 256 + a3) * 256 + a2) * 256 + a1) * 256 + a0 = a0 + 256 * (a1 + 256 * (a2 + 256 * (a3 + 256 * (a4 + 256 * (a5 + 256 * (a6 + 256 * a7)))))) by omega]
  rw [cut a0 _ 256 (by omega)]
  rw [show a0 + 256 * (a1 + 256 * (a2 + 256 * (a3 + 256 * (a4 + 256 * (a5 + 256 * (a6 + 256 * a7)))))) + (a1 + 256 * (a2 + 256 * (a3 + 256 * (a4 + 256 * (a5 + 256 * (a6 + 256 * a7)))))) = (a0 + a1 + 256 * (a1 + a2)) + 65536 * ((a2 + a3) + 256 * ((a3 + a4) + 256 * ((a4 + a5) + 256 * ((a5 + a6) + 256 * ((a6 + a7) + 256 * a7))))) by omega]
  rw [cut (a0 + a1 + 256 * (a1 + a2)) _ 65536 (by omega)]
  rw [show (a0 + a1 + 256 * (a1 + a2)) + 65536 * ((a2 + a3) + 256 * ((a3 + a4) + 256 * ((a4 + a5) + 256 * ((a5 + a6) + 256 * ((a6 + a7) + 256 * a7))))) + ((a2 + a3) + 256 * ((a3 + a4) + 256 * ((a4 + a5) + 256 * ((a5 + a6) + 256 * ((a6 + a7) + 256 * a7))))) = ((a0 + a1 + a2 + a3) + 256 * ((a1 + a2 + a3 + a4) + 256 * ((a2 + a3 + a4 + a5) + 256 * (a3 + a4 + a5 + a6)))) + 4294967296 * ((a4 + a5 + a6 + a7) + 256 * ((a5 + a6 + a7) + 256 * ((a6 + a7) + 256 * a7))) by omega]
  rw [cut ((a0 + a1 + a2 + a3) + 256 * ((a1 + a2 + a3 + a4) + 256 * ((a2 + a3 + a4 + a5) + 256 * (a3 + a4 + a5 + a6)))) _ 4294967296 (by omega)]
  rw [show ((a0 + a1 + a2 + a3) + 256 * ((a1 + a2 + a3 + a4) + 256 * ((a2 + a3 + a4 + a5) + 256 * (a3 + a4 + a5 + a6)))) + 4294967296 * ((a4 + a5 + a6 + a7) + 256 * ((a5 + a6 + a7) + 256 * ((a6 + a7) + 256 * a7))) + ((a4 + a5 + a6 + a7) + 256 * ((a5 + a6 + a7) + 256 * ((a6 + a7) + 256 * a7))) = (a0 + a1 + a2 + a3 + a4 + a5 + a6 + a7) + 128 * (2 * ((a1 + a2 + a3 + a4) + 256 * ((a2 + a3 + a4 + a5) + 256 * (a3 + a4 + a5 + a6)) + 16777216 * ((a4 + a5 + a6 + a7) + 256 * ((a5 + a6 + a7) + 256 * ((a6 + a7) + 256 * a7))) + ((a5 + a6 + a7) + 256 * ((a6 + a7) + 256 * a7)))) by omega]
  rw [Nat.add_mul_mod_self_left]
  rw [Nat.mod_eq_of_lt (by omega)]
  omega
/-- how many are there below n? -/
def cntN (p : Nat → Bool) : Nat → Nat
  | 0 => 0
  | n + 1 => cntN p n + (p n).toNat
theorem cntN_le (p : Nat → Bool) (n : Nat) : cntN p n ≤ n := by
  induction n with
  | zero => exact Nat.le_refl _
  | succ n ih => rw [cntN]; have : (p n).toNat ≤ 1 := Bool.toNat_le _; omega
theorem cntN_add (p : Nat → Bool) (m n : Nat) : cntN p (m + n) = cntN p m + cntN (fun j => p (m + j)) n := by
  induction n with
  | zero => rfl
  | succ n ih => rw [← Nat.add_assoc, cntN, ih, cntN]; omega
theorem cntN_congr {p q : Nat → Bool} {n : Nat} (h : ∀ j, j < n → p j = q j) : cntN p n = cntN q n := by
  induction n with
  | zero => rfl
  | succ n ih => rw [cntN, cntN, ih (fun j hj => h j (by omega)), h n (by omega)]
theorem tb (x j : Nat) : (x.testBit j).toNat = x / 2 ^ j % 2 := by
  rw [Nat.testBit_eq_decide_div_mod_eq]
  rcases Nat.mod_two_eq_zero_or_one (x / 2 ^ j) with h | h <;> rw [h] <;> rfl
theorem cnt8_eq (x : Nat) : cnt8 (x % 256) = cntN (fun j => x.testBit j) 8 := by
  simp only [cntN, tb]
  unfold cnt8
  omega
theorem pop_cnt (k : Nat) : ∀ x, pop k x = cntN (fun j => x.testBit j) (8 * k) := by
  induction k with
  | zero => intro x; rfl
  | succ k ih =>
    intro x
    rw [pop, ih, cnt8_eq, show 8 * (k + 1) = 8 + 8 * k by omega, cntN_add, Nat.add_comm]
    congr 1
    refine cntN_congr fun j _ => ?_
    rw [show (256 : Nat) = 2 ^ 8 from rfl, ← Nat.shiftRight_eq_div_pow, Nat.testBit_shiftRight]
/-- the lowest bit of a word -/
theorem cntN_none {p : Nat → Bool} {n : Nat} (h : cntN p n = 0) : ∀ j, j < n → p j = false := by
  induction n with
  | zero => intro j hj; omega
  | succ n ih =>
    intro j hj
    rw [cntN] at h
    by_cases e : j = n
    · subst e; cases hp : p j
      · rfl
      · rw [hp] at h; simp at h
    · exact ih (by omega) j (by omega)
theorem cntN_not (p : Nat → Bool) (n : Nat) : cntN (fun j => !p j) n + cntN p n = n := by
  induction n with
  | zero => rfl
  | succ n ih => rw [cntN, cntN]; cases p n <;> simp <;> omega
/-- one that is not there -/
theorem cntN_all {p : Nat → Bool} {n : Nat} (h : cntN p n = n) : ∀ j, j < n → p j = true := by
  intro j hj
  have := cntN_none (p := fun j => !p j) (n := n) (by have := cntN_not p n; omega) j hj
  simpa using this
theorem cntN_one {p : Nat → Bool} {n : Nat} {a : Nat} (ha : a < n) (h : p a = true) (h1 : cntN p n = 1) : ∀ j, j < n → p j = decide (j = a) := by
  induction n with
  | zero => omega
  | succ n ih =>
    rw [cntN] at h1
    intro j hj
    by_cases e : a = n
    · subst e
      rw [h] at h1
      have h0 := cntN_none (p := p) (n := a) (by simp at h1; omega)
      by_cases e2 : j = a
      · subst e2; rw [h]; simp
      · rw [h0 j (by omega)]; simp [e2]
    · have hc : 1 ≤ cntN p n := by
        have : cntN p n ≠ 0 := fun h0 => by have := cntN_none h0 a (by omega); rw [h] at this; cases this
        omega
      have hn : p n = false := by cases hp : p n; rfl; rw [hp] at h1; simp at h1; omega
      rw [hn] at h1
      by_cases e2 : j = n
      · subst e2; rw [hn, decide_eq_false (by omega)]
      · exact ih (by omega) (by simpa using h1) j (by omega)
end Pop
end Go.Proofs.YtmgealcolofomaaDoor
