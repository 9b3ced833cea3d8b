/- Numerals, addresses and nets: no program is read here. -/
import Derived.Test.YtgmpgacedmjgdaaDoorCs
import Derived.Test.YtgmpgacedmjgdaaDoorNum
import Derived.Lib.ItoaNum
namespace Go.Proofs.YtgmpgacedmjgdaaDoor
set_option linter.unusedVariables false
set_option maxRecDepth 20000
namespace Nt
open Lib (decDigits)

theorem dig_dec (k : Nat) (h : k < 10) : Num.dig ((UInt8.ofNat (48 + k)).toNat : Int) = k := by
  have : ∀ k : Fin 10, Num.dig ((UInt8.ofNat (48 + k.1)).toNat : Int) = k.1 := by decide
  exact this ⟨k, h⟩
theorem step_10 {u d : Int} {c : UInt8} (h : Num.dig c.toNat = d) (h0 : 0 ≤ d) (h1 : d < 10) : Num.step 10 (some u) c = some (u * 10 + d) := by
  unfold Num.step; simp only [h]; rw [if_neg (by omega)]
theorem num_dec (f : Nat) : ∀ n : Nat, n ≤ f → Num.num 10 (decDigits n) = some (n : Int) := by
  induction f with
  | zero =>
    intro n h
    rw [Lib.decDigits_one (by omega)]
    show Num.step 10 (some 0) _ = _
    rw [step_10 (dig_dec n (by omega)) (by omega) (by omega)]; simp
  | succ f ih =>
    intro n h
    by_cases h10 : n < 10
    · rw [Lib.decDigits_one h10]
      show Num.step 10 (some 0) _ = _
      rw [step_10 (dig_dec n h10) (by omega) (by omega)]; simp
    · rw [Lib.decDigits, dif_neg h10, Num.num_snoc, ih (n / 10) (by omega), step_10 (dig_dec (n % 10) (by omega)) (by omega) (by omega)]
      congr 1; omega
theorem len_dec (k : Nat) : ∀ n : Nat, n < 10 ^ (k + 1) → 1 ≤ (decDigits n).length ∧ (decDigits n).length ≤ k + 1 := by
  induction k with
  | zero => intro n h; rw [Lib.decDigits_one (by omega)]; simp
  | succ k ih =>
    intro n h
    by_cases h10 : n < 10
    · rw [Lib.decDigits_one h10]; simp
    · rw [Lib.decDigits, dif_neg h10, List.length_append, List.length_singleton]
      have := ih (n / 10) (by rw [Nat.pow_succ] at h; omega)
      omega
theorem all_u8 {p : UInt8 → Prop} [DecidablePred p] (h : (List.range 256).all (fun n => decide (p (UInt8.ofNat n))) = true) (c : UInt8) : p c := by
  have h1 := List.all_eq_true.1 h c.toNat (List.mem_range.2 c.toNat_lt)
  have h2 := of_decide_eq_true h1
  rwa [UInt8.ofNat_toNat] at h2
theorem dec_mem (f : Nat) : ∀ n : Nat, n ≤ f → ∀ c ∈ decDigits n, 48 ≤ c.toNat ∧ c.toNat ≤ 57 := by
  have one : ∀ k, k < 10 → ∀ c ∈ [UInt8.ofNat (48 + k)], 48 ≤ c.toNat ∧ c.toNat ≤ 57 := by
    intro k hk c hc
    have : ∀ k : Fin 10, 48 ≤ (UInt8.ofNat (48 + k.1)).toNat ∧ (UInt8.ofNat (48 + k.1)).toNat ≤ 57 := by decide
    rw [List.mem_singleton.1 hc]
    exact this ⟨k, hk⟩
  induction f with
  | zero => intro n h; rw [Lib.decDigits_one (by omega)]; exact one n (by omega)
  | succ f ih =>
    intro n h
    by_cases h10 : n < 10
    · rw [Lib.decDigits_one h10]; exact one n h10
    · rw [Lib.decDigits, dif_neg h10]
      intro c hc
      rcases List.mem_append.1 hc with hc | hc
      · exact ih (n / 10) (by omega) c hc
      · exact one _ (by omega) c hc
theorem dec_not {c : UInt8} (hc : c.toNat < 48 ∨ 57 < c.toNat) (n : Nat) : c ∉ decDigits n := fun h => by
  have := dec_mem n n (Nat.le_refl _) c h; omega
theorem dec_head (f : Nat) : ∀ n : Nat, n ≤ f → 10 ≤ n → (decDigits n).head? ≠ some 48 := by
  induction f with
  | zero => intro n h h1; omega
  | succ f ih =>
    intro n h h1
    rw [Lib.decDigits, dif_neg (by omega)]
    by_cases h10 : n / 10 < 10
    · rw [Lib.decDigits_one h10]
      have : ∀ k : Fin 10, 1 ≤ k.1 → UInt8.ofNat (48 + k.1) ≠ 48 := by decide
      have h2 := this ⟨n / 10, h10⟩ (by show 1 ≤ n / 10; omega)
      simpa using h2
    · have h2 := ih (n / 10) (by omega) (by omega)
      have hne : decDigits (n / 10) ≠ [] := fun e => by
        have := Lib.decDigits_length (n / 10)
        rw [e] at this
        have h3 := len_dec (n / 10) (n / 10) (Nat.lt_of_lt_of_le Nat.lt_two_pow_self (by
          refine Nat.le_trans (Nat.pow_le_pow_left (by omega : 2 ≤ 10) _) (Nat.pow_le_pow_right (by omega) (by omega))))
        rw [e] at h3
        exact absurd h3.1 (by simp)
      cases hd : decDigits (n / 10) with
      | nil => exact absurd hd hne
      | cons a r => rw [hd] at h2; simpa using h2
/-- a numeral without noughts ahead is that of its number -/
theorem dec_of (k : Nat) : ∀ (l : List UInt8) (n : Int), l.length = k + 1 → (k = 0 ∨ l.head? ≠ some 48) → Num.num 10 l = some n →
    0 ≤ n ∧ l = decDigits n.toNat ∧ (l.head? ≠ some 48 → 1 ≤ n) := by
  have dg : ∀ c : UInt8, Num.dig (c.toNat : Int) < 0 ∨ 10 ≤ Num.dig (c.toNat : Int) ∨ (c = UInt8.ofNat (48 + (Num.dig (c.toNat : Int)).toNat) ∧ (c ≠ 48 → 1 ≤ Num.dig (c.toNat : Int))) := all_u8 (by decide +kernel)
  have st : ∀ (m n : Int) (c : UInt8), Num.step 10 (some m) c = some n → 0 ≤ n - m * 10 ∧ n - m * 10 < 10 ∧ c = UInt8.ofNat (48 + (n - m * 10).toNat) ∧ (c ≠ 48 → 1 ≤ n - m * 10) := by
    intro m n c h
    unfold Num.step at h
    dsimp only at h
    split at h
    · cases h
    · rename_i hd
      cases h
      rcases dg c with h1 | h1 | h1
      · omega
      · omega
      · have e : m * 10 + Num.dig (c.toNat : Int) - m * 10 = Num.dig (c.toNat : Int) := by omega
        rw [e]
        exact ⟨by omega, by omega, h1.1, h1.2⟩
  induction k with
  | zero =>
    intro l n hl _ hn
    obtain ⟨c, rfl⟩ : ∃ c, l = [c] := List.length_eq_one_iff.1 hl
    obtain ⟨h1, h2, h3, h4⟩ := st 0 n c hn
    rw [Int.zero_mul, Int.sub_zero] at h1 h2 h3 h4
    refine ⟨h1, ?_, fun h => h4 (by simpa using h)⟩
    rw [Lib.decDigits_one (by omega), ← h3]
  | succ k ih =>
    intro l n hl hz hn
    obtain ⟨a, c, rfl⟩ : ∃ a c, l = a ++ [c] := by
      have hne : l ≠ [] := by intro h; simp [h] at hl
      exact ⟨l.dropLast, l.getLast hne, (List.dropLast_concat_getLast hne).symm⟩
    have hla : a.length = k + 1 := by simpa using hl
    have hah : (a ++ [c]).head? = a.head? := by
      cases a with
      | nil => simp at hla
      | cons x r => rfl
    have hz' : a.head? ≠ some 48 := by rw [← hah]; exact hz.resolve_left (by omega)
    rw [Num.num_snoc] at hn
    cases ha : Num.num 10 a with
    | none => rw [ha] at hn; simp [Num.step] at hn
    | some m =>
      obtain ⟨m0, m1, m2⟩ := ih a m hla (.inr hz') ha
      have m3 := m2 hz'
      rw [ha] at hn
      obtain ⟨h1, h2, h3, h4⟩ := st m n c hn
      refine ⟨by omega, ?_, fun _ => by omega⟩
      rw [Lib.decDigits, dif_neg (by omega), show n.toNat / 10 = m.toNat by omega, ← m1, show n.toNat % 10 = (n - m * 10).toNat by omega, ← h3]

/-- a number without noughts ahead, at most so great; -1: none -/
def sm (most : Nat) (l : List UInt8) : Int :=
  if 1 < l.length ∧ l.head? = some 48 then -1
  else if (Num.ans 10 9 l).2 = 0 ∧ (Num.ans 10 9 l).1 ≤ most then (Num.ans 10 9 l).1 else -1
theorem ans_cases (l : List UInt8) : Num.ans 10 9 l = (0, 4) ∨ (∃ n, Num.num 10 l = some n ∧ 1 ≤ l.length ∧ l.length ≤ 9 ∧ Num.ans 10 9 l = (n, 0) ∧ 0 ≤ n ∧ n < 68719476736) := by
  unfold Num.ans
  split
  · exact .inl rfl
  · rename_i h
    cases hn : Num.num 10 l with
    | none => exact .inl rfl
    | some n =>
      have := Num.num_bd 10 (by omega) (by omega) l.length l n rfl hn
      have hp : (16 : Int) ^ l.length ≤ 16 ^ 9 := by
        have h1 : (16 : Nat) ^ l.length ≤ 16 ^ 9 := Nat.pow_le_pow_right (by omega) (by omega)
        exact_mod_cast h1
      have h9 : (16 : Int) ^ 9 = 68719476736 := by decide
      exact .inr ⟨n, rfl, by omega, by omega, rfl, this.1, by omega⟩
theorem sm_bd (most : Nat) (l : List UInt8) : sm most l = -1 ∨ (0 ≤ sm most l ∧ sm most l ≤ most) := by
  unfold sm
  split
  · exact .inl rfl
  split
  · rename_i h
    rcases ans_cases l with e | ⟨n, _, _, _, e, h0, _⟩
    · rw [e] at h; exact absurd h.1 (by decide)
    · rw [e] at h ⊢; exact .inr ⟨h0, h.2⟩
  · exact .inl rfl
theorem sm_dec {most n : Nat} (h : n ≤ most) (h9 : n < 1000000000) : sm most (decDigits n) = n := by
  have hl := len_dec 8 n h9
  have ha : Num.ans 10 9 (decDigits n) = ((n : Int), 0) := by unfold Num.ans; rw [if_neg (by omega), num_dec n n (Nat.le_refl _)]
  unfold sm
  rw [if_neg, ha, if_pos ⟨rfl, by omega⟩]
  rintro ⟨h1, h2⟩
  by_cases h10 : n < 10
  · rw [Lib.decDigits_one h10] at h1; simp at h1
  · exact dec_head n n (Nat.le_refl _) (by omega) h2
theorem dec_sm {most : Nat} {l : List UInt8} (h : 0 ≤ sm most l) : l = decDigits (sm most l).toNat := by
  unfold sm at h ⊢
  by_cases h1 : 1 < l.length ∧ l.head? = some 48
  · rw [if_pos h1] at h; omega
  · rw [if_neg h1] at h ⊢
    by_cases h2 : (Num.ans 10 9 l).2 = 0 ∧ (Num.ans 10 9 l).1 ≤ most
    · rw [if_pos h2] at h ⊢
      rcases ans_cases l with e | ⟨n, hn, hl1, hl9, e, h0, _⟩
      · rw [e] at h2; exact absurd h2.1 (by decide)
      · rw [e]
        exact (dec_of (l.length - 1) l n (by omega) (by
          by_cases hk : l.length - 1 = 0
          · exact .inl hk
          · exact .inr fun e => h1 ⟨by omega, e⟩) hn).2.1
    · rw [if_neg h2] at h; omega

/-- numbers from 0 to 255 one behind the other, as one number -/
def adrL : Nat → List (List UInt8) → Option Nat
  | acc, [] => some acc
  | acc, p :: ps => if sm 255 p < 0 then none else adrL (acc * 256 + (sm 255 p).toNat) ps
/-- the address of which a text is the text -/
def adr (l : List UInt8) : Option Nat := if (Cs.cut 46 l).length = 4 then adrL 0 (Cs.cut 46 l) else none
theorem adrL_bd : ∀ (L : List (List UInt8)) (acc a : Nat), adrL acc L = some a → a < (acc + 1) * 256 ^ L.length
  | [], acc, a, h => by cases h; simp
  | p :: ps, acc, a, h => by
    unfold adrL at h
    split at h
    · cases h
    · have h1 := adrL_bd ps _ a h
      have h2 : (sm 255 p).toNat ≤ 255 := by
        rcases sm_bd 255 p with e | e
        · omega
        · omega
      have h3 : acc * 256 + (sm 255 p).toNat + 1 ≤ (acc + 1) * 256 := by omega
      rw [List.length_cons, Nat.pow_succ, Nat.mul_comm (256 ^ ps.length) 256, ← Nat.mul_assoc]
      exact Nat.lt_of_lt_of_le h1 (Nat.mul_le_mul_right _ h3)
theorem adr_bd {l : List UInt8} {a : Nat} (h : adr l = some a) : a < 4294967296 := by
  unfold adr at h
  split at h
  · rename_i h4
    have := adrL_bd _ _ _ h
    rw [h4] at this
    simpa using this
  · cases h

def fin (a b : Nat) : Nat × Nat × Int := if a % 2 ^ (32 - b) = 0 then (a, b, 0) else (0, 0, 4)
theorem fin_ok {a b c d : Nat} (h : fin a b = (c, d, 0)) : a = c ∧ b = d ∧ a % 2 ^ (32 - b) = 0 := by
  unfold fin at h
  split at h
  · injection h with h1 h2
    injection h2 with h2 h3
    exact ⟨h1, h2, by assumption⟩
  · cases h
/-- the net of which a text is the text: what it is, its bits, and what went wrong -/
def parse (l : List UInt8) : Nat × Nat × Int :=
  match adr (Lib.cut l [47]).1 with
  | none => (0, 0, 3)
  | some a =>
    if (Lib.cut l [47]).2.2 = true ∧ sm 32 (Lib.cut l [47]).2.1 < 0 then (0, 0, 3)
    else fin a (if (Lib.cut l [47]).2.2 = true then (sm 32 (Lib.cut l [47]).2.1).toNat else 32)
/-- a net: an address and bits -/
def right (a : Nat) (b : Int) : Prop := 0 ≤ b ∧ b ≤ 32 ∧ a % 2 ^ (32 - b.toNat) = 0
instance (a : Nat) (b : Int) : Decidable (right a b) := by unfold right; infer_instance
theorem parse_right {l : List UInt8} {a b : Nat} (h : parse l = (a, b, 0)) : a < 4294967296 ∧ right a b := by
  unfold parse at h
  split at h
  · cases h
  · rename_i a' ha
    by_cases hs : (Lib.cut l [47]).2.2 = true ∧ sm 32 (Lib.cut l [47]).2.1 < 0
    · rw [if_pos hs] at h; cases h
    · rw [if_neg hs] at h
      obtain ⟨h1, h2, h3⟩ := fin_ok h
      have hb : (if (Lib.cut l [47]).2.2 = true then (sm 32 (Lib.cut l [47]).2.1).toNat else 32) ≤ 32 := by
        split
        · rcases sm_bd 32 (Lib.cut l [47]).2.1 with e | e <;> omega
        · omega
      rw [h2] at h3 hb
      rw [← h1]
      exact ⟨adr_bd ha, by omega, by omega, by rw [Int.toNat_natCast]; exact h3⟩
theorem parse_cases (l : List UInt8) : parse l = (0, 0, 3) ∨ parse l = (0, 0, 4) ∨ ∃ a b, parse l = (a, b, 0) := by
  unfold parse
  split
  · exact .inl rfl
  · rename_i a' ha
    by_cases hs : (Lib.cut l [47]).2.2 = true ∧ sm 32 (Lib.cut l [47]).2.1 < 0
    · rw [if_pos hs]; exact .inl rfl
    · rw [if_neg hs]
      unfold fin
      by_cases h : a' % 2 ^ (32 - (if (Lib.cut l [47]).2.2 = true then (sm 32 (Lib.cut l [47]).2.1).toNat else 32)) = 0
      · rw [if_pos h]; exact .inr (.inr ⟨_, _, rfl⟩)
      · rw [if_neg h]; exact .inr (.inl rfl)

/-- the text of an address, and of a net -/
def txA (a : Nat) : List UInt8 := decDigits (a / 16777216) ++ 46 :: (decDigits (a / 65536 % 256) ++ 46 :: (decDigits (a / 256 % 256) ++ 46 :: decDigits (a % 256)))
def tx (a b : Nat) : List UInt8 := txA a ++ (if b < 32 then 47 :: decDigits b else [])
theorem cut_txA (a : Nat) : Cs.cut 46 (txA a) = [decDigits (a / 16777216), decDigits (a / 65536 % 256), decDigits (a / 256 % 256), decDigits (a % 256)] := by
  have h : ∀ n, (46 : UInt8) ∉ decDigits n := dec_not (by decide)
  unfold txA
  rw [Cs.cut_hit _ (h _), Cs.cut_hit _ (h _), Cs.cut_hit _ (h _), Cs.cut_no (h _)]
theorem adr_txA {a : Nat} (ha : a < 4294967296) : adr (txA a) = some a := by
  unfold adr
  rw [cut_txA, if_pos (show ([_, _, _, _] : List (List UInt8)).length = 4 from rfl)]
  unfold adrL adrL adrL adrL adrL
  rw [sm_dec (by omega) (by omega), sm_dec (by omega) (by omega), sm_dec (by omega) (by omega), sm_dec (by omega) (by omega)]
  rw [if_neg (by omega), if_neg (by omega), if_neg (by omega), if_neg (by omega)]
  congr 1
  omega
/-- the first sign c of a text -/
theorem cut_at {c : UInt8} {u : List UInt8} (v : List UInt8) (h : c ∉ u) : Lib.cut (u ++ c :: v) [c] = (u, v, true) := by
  have e : Lib.index (u ++ c :: v) [c] = u.length := by
    rcases Lib.index_spec (u ++ c :: v) [c] with ⟨h1, h2⟩ | ⟨i, h1, h2, h3, h4⟩
    · have := h2 u.length (by simp)
      rw [show Lib.occAt (u ++ c :: v) [c] u.length = true by unfold Lib.occAt; simp] at this
      cases this
    · rw [h1]
      have hs := Cp.occ_split h3
      by_cases hi : i < u.length
      · exfalso
        apply h
        have h5 : (u ++ c :: v)[i]? = (List.take i (u ++ c :: v) ++ [c] ++ List.drop (i + 1) (u ++ c :: v))[i]? := congrArg (fun l => l[i]?) hs
        have hl : (u ++ c :: v)[i]? = u[i]? := List.getElem?_append_left hi
        rw [hl] at h5
        have h6 : (List.take i (u ++ c :: v)).length = i := by rw [List.length_take]; simp; omega
        have h7 : u[i]? = some c := by
          rw [h5]
          simp [h6]
        exact List.mem_of_getElem? h7
      · by_cases hi2 : i = u.length
        · omega
        · have := h4 u.length (by omega)
          rw [show Lib.occAt (u ++ c :: v) [c] u.length = true by unfold Lib.occAt; simp] at this
          cases this
  unfold Lib.cut
  rw [e, if_pos (by omega)]
  simp
theorem cut_none {c : UInt8} {u : List UInt8} (h : c ∉ u) : Lib.cut u [c] = (u, [], false) := by
  have e : Lib.index u [c] = -1 := by
    rcases Lib.index_spec u [c] with ⟨h1, h2⟩ | ⟨i, h1, h2, h3, h4⟩
    · exact h1
    · have hs := Cp.occ_split h3
      exact absurd (by rw [hs]; simp) h
  unfold Lib.cut
  rw [e, if_neg (by omega)]
theorem mem_split {c : UInt8} : ∀ {l : List UInt8}, c ∈ l → ∃ u v, l = u ++ c :: v ∧ c ∉ u
  | [], h => by simp at h
  | b :: l, h => by
    by_cases hb : c = b
    · exact ⟨[], l, by rw [hb]; rfl, by simp⟩
    · have h1 : c ∈ l := by
        rcases List.mem_cons.1 h with e | e
        · exact absurd e hb
        · exact e
      obtain ⟨u, v, e, hu⟩ := mem_split h1
      exact ⟨b :: u, v, by rw [e]; rfl, by simp [hb, hu]⟩
theorem cut_cases (c : UInt8) (l : List UInt8) : (c ∉ l ∧ Lib.cut l [c] = (l, [], false)) ∨ ∃ u v, l = u ++ c :: v ∧ c ∉ u ∧ Lib.cut l [c] = (u, v, true) := by
  by_cases h : c ∈ l
  · obtain ⟨u, v, e, hu⟩ := mem_split h
    exact .inr ⟨u, v, e, hu, by rw [e]; exact cut_at v hu⟩
  · exact .inl ⟨h, cut_none h⟩
theorem txA_slash (a : Nat) : (47 : UInt8) ∉ txA a := by
  have h : ∀ n, (47 : UInt8) ∉ decDigits n := dec_not (by decide)
  unfold txA
  simp [h]
theorem parse_tx {a b : Nat} (ha : a < 4294967296) (h : right a b) : parse (tx a b) = (a, b, 0) := by
  obtain ⟨h1, h2, h3⟩ := h
  rw [Int.toNat_natCast] at h3
  unfold tx
  by_cases hb : b < 32
  · rw [if_pos hb]
    have hc := cut_at (decDigits b) (txA_slash a)
    unfold parse
    rw [hc]
    dsimp only
    rw [adr_txA ha]
    dsimp only
    rw [sm_dec (by omega) (by omega), if_neg (by omega), if_pos rfl, Int.toNat_natCast]
    unfold fin
    rw [if_pos h3]
  · rw [if_neg hb, List.append_nil]
    have hc := cut_none (txA_slash a)
    unfold parse
    rw [hc]
    dsimp only
    rw [adr_txA ha]
    dsimp only
    obtain rfl : b = 32 := by omega
    rw [if_neg (by simp), if_neg (by simp)]
    unfold fin
    rw [if_pos h3]
theorem adr_form {l : List UInt8} {a : Nat} (h : adr l = some a) : l = txA a := by
  unfold adr at h
  split at h
  · rename_i h4
    have hj := Cs.join_cut 46 l
    obtain ⟨p0, p1, p2, p3, hp⟩ : ∃ p0 p1 p2 p3, Cs.cut 46 l = [p0, p1, p2, p3] := by
      match hl : Cs.cut 46 l, h4 with
      | [p0, p1, p2, p3], _ => exact ⟨p0, p1, p2, p3, rfl⟩
    rw [hp] at h hj
    have bd := fun p => sm_bd 255 p
    unfold adrL at h
    split at h
    · cases h
    rename_i g0
    unfold adrL at h
    split at h
    · cases h
    rename_i g1
    unfold adrL at h
    split at h
    · cases h
    rename_i g2
    unfold adrL at h
    split at h
    · cases h
    rename_i g3
    unfold adrL at h
    cases h
    have e0 := dec_sm (most := 255) (l := p0) (by omega)
    have e1 := dec_sm (most := 255) (l := p1) (by omega)
    have e2 := dec_sm (most := 255) (l := p2) (by omega)
    have e3 := dec_sm (most := 255) (l := p3) (by omega)
    have b0 := bd p0
    have b1 := bd p1
    have b2 := bd p2
    have b3 := bd p3
    obtain ⟨n0, hn0⟩ : ∃ n, (sm 255 p0).toNat = n := ⟨_, rfl⟩
    obtain ⟨n1, hn1⟩ : ∃ n, (sm 255 p1).toNat = n := ⟨_, rfl⟩
    obtain ⟨n2, hn2⟩ : ∃ n, (sm 255 p2).toNat = n := ⟨_, rfl⟩
    obtain ⟨n3, hn3⟩ : ∃ n, (sm 255 p3).toNat = n := ⟨_, rfl⟩
    have c0 : n0 ≤ 255 := by omega
    have c1 : n1 ≤ 255 := by omega
    have c2 : n2 ≤ 255 := by omega
    have c3 : n3 ≤ 255 := by omega
    rw [hn0] at e0
    rw [hn1] at e1
    rw [hn2] at e2
    rw [hn3] at e3
    rw [hn0, hn1, hn2, hn3, ← hj]
    unfold txA
    rw [show (((0 * 256 + n0) * 256 + n1) * 256 + n2) * 256 + n3 = n0 * 16777216 + n1 * 65536 + n2 * 256 + n3 by omega]
    rw [show (n0 * 16777216 + n1 * 65536 + n2 * 256 + n3) / 16777216 = n0 by omega, show (n0 * 16777216 + n1 * 65536 + n2 * 256 + n3) / 65536 % 256 = n1 by omega,
      show (n0 * 16777216 + n1 * 65536 + n2 * 256 + n3) / 256 % 256 = n2 by omega, show (n0 * 16777216 + n1 * 65536 + n2 * 256 + n3) % 256 = n3 by omega, ← e0, ← e1, ← e2, ← e3]
    simp [Lib.join_cons, Lib.joinTail]
  · cases h
theorem tx_parse {l : List UInt8} {a b : Nat} (h : parse l = (a, b, 0)) : tx a b = l ∨ tx a b ++ [47, 51, 50] = l := by
  unfold parse at h
  split at h
  · cases h
  · rename_i a' ha
    by_cases hs : (Lib.cut l [47]).2.2 = true ∧ sm 32 (Lib.cut l [47]).2.1 < 0
    · rw [if_pos hs] at h; cases h
    · rw [if_neg hs] at h
      obtain ⟨h1, h2, h3⟩ := fin_ok h
      subst h1
      have hf := adr_form ha
      rcases cut_cases 47 l with ⟨hc1, hc2⟩ | ⟨u, v, hc0, hc1, hc2⟩
      · rw [hc2] at hf h2
        dsimp only at hf h2
        rw [if_neg (by simp)] at h2
        left
        unfold tx
        rw [if_neg (by omega), List.append_nil, hf]
      · rw [hc2] at hf h2 hs
        dsimp only at hf h2 hs
        rw [if_pos rfl] at h2
        have hbd : 0 ≤ sm 32 v ∧ sm 32 v ≤ 32 := by
          rcases sm_bd 32 v with e | e
          · exact absurd ⟨rfl, by omega⟩ hs
          · exact e
        have hv := dec_sm (most := 32) (l := v) hbd.1
        rw [h2] at hv
        by_cases hb : b < 32
        · left
          unfold tx
          rw [if_pos hb, ← hv, ← hf, hc0]
        · right
          have hb2 : b = 32 := by omega
          unfold tx
          rw [if_neg hb, List.append_nil, ← hf, hc0, hv, hb2, show decDigits 32 = [51, 50] by rw [Lib.decDigits_two (by omega) (by omega)]; rfl]
theorem dec_len4 {n : Nat} (h : n < 1000) : (decDigits n).length ≤ 3 := (len_dec 2 n (by omega)).2
theorem txA_len {a : Nat} (ha : a < 4294967296) : (txA a).length ≤ 15 := by
  have h0 := dec_len4 (n := a / 16777216) (by omega)
  have h1 := dec_len4 (n := a / 65536 % 256) (by omega)
  have h2 := dec_len4 (n := a / 256 % 256) (by omega)
  have h3 := dec_len4 (n := a % 256) (by omega)
  unfold txA
  simp only [List.length_append, List.length_cons]
  omega
theorem tx_len {a b : Nat} (ha : a < 4294967296) : (tx a b).length ≤ 18 := by
  have h := txA_len ha
  unfold tx
  rw [List.length_append]
  split
  · rename_i hb
    have := (len_dec 1 b (by omega)).2
    rw [List.length_cons]; omega
  · simp; omega
theorem tx_slash {a b : Nat} : 47 ∈ tx a b ↔ b < 32 := by
  unfold tx
  rw [List.mem_append]
  constructor
  · rintro (h | h)
    · exact absurd h (txA_slash a)
    · split at h
      · assumption
      · simp at h
  · intro h
    rw [if_pos h]; simp

/-- bits of an address -/
theorem mod_bit (a m : Nat) : a % 2 ^ (m + 1) = a % 2 ^ m + 2 ^ m * (a / 2 ^ m % 2) := by
  rw [Nat.pow_succ, Nat.mod_mul]
theorem div_bit (a m : Nat) : a / 2 ^ m = 2 * (a / 2 ^ (m + 1)) + a / 2 ^ m % 2 := by
  rw [Nat.pow_succ, ← Nat.div_div_eq_div_mul]; omega
theorem mask_and {x k : Nat} (hx : x < 4294967296) (hk : k ≤ 32) : x &&& (4294967296 - 2 ^ k) = x / 2 ^ k * 2 ^ k := by
  have e : 4294967296 - 2 ^ k = 2 ^ 32 - 2 ^ k := rfl
  apply Nat.eq_of_testBit_eq
  intro i
  have h1 : (4294967296 - 2 ^ k : Nat) = 2 ^ k * (2 ^ (32 - k) - 1) := by
    rw [Nat.mul_sub, ← Nat.pow_add, show k + (32 - k) = 32 by omega]; simp
  rw [Nat.testBit_and, h1, Nat.mul_comm (x / 2 ^ k), Nat.testBit_two_pow_mul, Nat.testBit_two_pow_mul, Nat.testBit_two_pow_sub_one, Nat.testBit_div_two_pow]
  by_cases hi : k ≤ i
  · rw [show i - k + k = i by omega]
    by_cases h32 : i < 32
    · simp [hi, show i - k < 32 - k by omega]
    · have : x.testBit i = false := Nat.testBit_lt_two_pow (Nat.lt_of_lt_of_le hx (by
        have : 2 ^ 32 ≤ 2 ^ i := Nat.pow_le_pow_right (by omega) (by omega)
        simpa using this))
      simp [this]
  · simp [hi]
theorem xor_same {a b k : Nat} : (a ^^^ b) / 2 ^ k = 0 ↔ a / 2 ^ k = b / 2 ^ k := by
  rw [← Nat.shiftRight_eq_div_pow, ← Nat.shiftRight_eq_div_pow, ← Nat.shiftRight_eq_div_pow, Nat.shiftRight_xor_distrib]
  constructor
  · intro h
    apply Nat.eq_of_testBit_eq
    intro i
    have := congrArg (fun n => n.testBit i) h
    simp only [Nat.testBit_xor, Nat.zero_testBit] at this
    cases h1 : (a >>> k).testBit i <;> cases h2 : (b >>> k).testBit i <;> simp [h1, h2] at this ⊢
  · intro h; rw [h, Nat.xor_self]
end Nt
end Go.Proofs.YtgmpgacedmjgdaaDoor
