/- What an expression matches, from one place of a text to another: plain. -/
import Derived.Test.YtmgealcolofomaaDoorHk
namespace Go.Proofs.YtmgealcolofomaaDoor
open Go.RowKit Kb
set_option linter.unusedVariables false
set_option maxRecDepth 20000

namespace Sp
/-- a row of spans of a, one behind the other, each of them going on, k of them at most -/
def starF (n : Nat) (a : Nat → Nat → Bool) : Nat → Nat → Nat → Bool
  | 0, i, j => i == j
  | k + 1, i, j => i == j || (List.range (n + 1)).any fun m => decide (i < m) && a i m && starF n a k m j
/-- whether an expression matches s from place i to place j -/
def M (s : List UInt8) : Ex → Nat → Nat → Bool
  | .none, _, _ => false
  | .emp, i, j => decide (i = j ∧ i ≤ s.length)
  | .byte t, i, j => decide (j = i + 1) && (match s[i]? with | some c => bit t c.toNat | none => false)
  | .cat a b, i, j => (List.range (s.length + 1)).any fun m => M s a i m && M s b m j
  | .alt a b, i, j => M s a i j || M s b i j
  | .star a, i, j => decide (i ≤ s.length) && starF s.length (M s a) s.length i j
  | .beg, i, j => decide (i = 0 ∧ j = 0)
  | .en, i, j => decide (i = s.length ∧ j = s.length)
/-- spans that go on, within a text of n bytes -/
def Ok (n : Nat) (a : Nat → Nat → Bool) : Prop := ∀ i j, a i j = true → i ≤ j ∧ j ≤ n
theorem starF_ok {n : Nat} {a : Nat → Nat → Bool} (ha : Ok n a) : ∀ k i j, i ≤ n → starF n a k i j = true → i ≤ j ∧ j ≤ n := by
  intro k
  induction k with
  | zero => intro i j hi h; simp only [starF, beq_iff_eq] at h; omega
  | succ k ih =>
    intro i j hi h
    simp only [starF, Bool.or_eq_true, beq_iff_eq, List.any_eq_true, List.mem_range, Bool.and_eq_true, decide_eq_true_eq] at h
    rcases h with h | ⟨m, hm, ⟨h1, h2⟩, h3⟩
    · omega
    · have := ih m j (by omega) h3
      omega
/-- that many are enough -/
theorem starF_more {n : Nat} {a : Nat → Nat → Bool} : ∀ k i j, n - i ≤ k → i ≤ n → starF n a (k + 1) i j = starF n a k i j := by
  intro k
  induction k with
  | zero =>
    intro i j hk hi
    rw [Bool.eq_iff_iff]
    simp only [starF, Bool.or_eq_true, beq_iff_eq, List.any_eq_true, List.mem_range, Bool.and_eq_true, decide_eq_true_eq]
    constructor
    · rintro (h | ⟨m, hm, ⟨h1, _⟩, _⟩)
      · exact h
      · omega
    · exact .inl
  | succ k ih =>
    intro i j hk hi
    rw [starF, starF]
    congr 1
    rw [Bool.eq_iff_iff]
    simp only [List.any_eq_true, List.mem_range, Bool.and_eq_true, decide_eq_true_eq]
    constructor
    · rintro ⟨m, hm, ⟨h1, h2⟩, h3⟩
      exact ⟨m, hm, ⟨h1, h2⟩, by rw [← ih m j (by omega) (by omega)]; exact h3⟩
    · rintro ⟨m, hm, ⟨h1, h2⟩, h3⟩
      exact ⟨m, hm, ⟨h1, h2⟩, by rw [ih m j (by omega) (by omega)]; exact h3⟩
theorem starF_enough {n : Nat} {a : Nat → Nat → Bool} {i j : Nat} (hi : i ≤ n) : ∀ d k, n - i ≤ k → starF n a (k + d) i j = starF n a k i j := by
  intro d
  induction d with
  | zero => intro k _; rfl
  | succ d ih => intro k hk; rw [← Nat.add_assoc, starF_more (k + d) i j (by omega) hi]; exact ih k hk
/-- the spans of a star -/
def star (n : Nat) (a : Nat → Nat → Bool) (i j : Nat) : Bool := decide (i ≤ n) && starF n a n i j
theorem star_iff (n : Nat) (a : Nat → Nat → Bool) (i j : Nat) : star n a i j = true ↔ i ≤ n ∧ (i = j ∨ ∃ m, i < m ∧ m ≤ n ∧ a i m = true ∧ star n a m j = true) := by
  unfold star
  rw [Bool.and_eq_true, decide_eq_true_eq]
  constructor
  · rintro ⟨hi, h⟩
    refine ⟨hi, ?_⟩
    rw [← starF_more n i j (by omega) hi, starF] at h
    simp only [Bool.or_eq_true, beq_iff_eq, List.any_eq_true, List.mem_range, Bool.and_eq_true, decide_eq_true_eq] at h
    rcases h with h | ⟨m, hm, ⟨h1, h2⟩, h3⟩
    · exact .inl h
    · exact .inr ⟨m, h1, by omega, h2, by rw [decide_eq_true (by omega : m ≤ n)]; exact h3⟩
  · rintro ⟨hi, h⟩
    refine ⟨hi, ?_⟩
    rw [← starF_more n i j (by omega) hi, starF]
    simp only [Bool.or_eq_true, beq_iff_eq, List.any_eq_true, List.mem_range, Bool.and_eq_true, decide_eq_true_eq]
    rcases h with h | ⟨m, h1, hm, h2, h3⟩
    · exact .inl h
    · rw [decide_eq_true hm, Bool.true_and] at h3
      exact .inr ⟨m, by omega, ⟨h1, h2⟩, h3⟩
theorem M_star (s : List UInt8) (a : Ex) (i j : Nat) : M s (.star a) i j = star s.length (M s a) i j := rfl
theorem M_cat (s : List UInt8) (a b : Ex) (i j : Nat) : M s (.cat a b) i j = true ↔ ∃ m, m ≤ s.length ∧ M s a i m = true ∧ M s b m j = true := by
  rw [M]
  simp only [List.any_eq_true, List.mem_range, Bool.and_eq_true]
  constructor
  · rintro ⟨m, h1, h2, h3⟩; exact ⟨m, by omega, h2, h3⟩
  · rintro ⟨m, h1, h2, h3⟩; exact ⟨m, by omega, h2, h3⟩
theorem M_byte (s : List UInt8) (t : Se) (i j : Nat) : M s (.byte t) i j = true ↔ ∃ c, s[i]? = some c ∧ bit t c.toNat = true ∧ j = i + 1 := by
  rw [M, Bool.and_eq_true, decide_eq_true_eq]
  cases h : s[i]? with
  | none => simp
  | some c => simp [and_comm]
theorem M_ok (s : List UInt8) (e : Ex) : Ok s.length (M s e) := by
  induction e with
  | none => intro i j h; cases h
  | emp => intro i j h; simp [M] at h; omega
  | byte t =>
    intro i j h
    obtain ⟨c, hc, _, rfl⟩ := (M_byte s t i j).1 h
    have := (List.getElem?_eq_some_iff.1 hc).1
    omega
  | cat a b iha ihb =>
    intro i j h
    obtain ⟨m, _, h1, h2⟩ := (M_cat s a b i j).1 h
    have := iha i m h1
    have := ihb m j h2
    omega
  | alt a b iha ihb =>
    intro i j h
    rw [M, Bool.or_eq_true] at h
    rcases h with h | h
    · exact iha i j h
    · exact ihb i j h
  | star a iha =>
    intro i j h
    rw [M, Bool.and_eq_true, decide_eq_true_eq] at h
    exact starF_ok iha _ i j h.1 h.2
  | beg => intro i j h; simp [M] at h; omega
  | en => intro i j h; simp [M] at h; omega
/-- the span that begins first, and of those the longest -/
def First (T : Nat → Nat → Bool) : Option (Nat × Nat) → Prop
  | none => ∀ i j, T i j = false
  | some (i, j) => T i j = true ∧ (∀ k, T i k = true → k ≤ j) ∧ ∀ h k, h < i → T h k = false
theorem First.uniq {T : Nat → Nat → Bool} {a b : Option (Nat × Nat)} (ha : First T a) (hb : First T b) : a = b := by
  match a, b, ha, hb with
  | none, none, _, _ => rfl
  | none, some (i, j), ha, hb => have := ha i j; rw [hb.1] at this; cases this
  | some (i, j), none, ha, hb => have := hb i j; rw [ha.1] at this; cases this
  | some (i, j), some (i', j'), ha, hb =>
    have h1 : ¬ i < i' := fun h => by have := hb.2.2 i j h; rw [ha.1] at this; cases this
    have h2 : ¬ i' < i := fun h => by have := ha.2.2 i' j' h; rw [hb.1] at this; cases this
    obtain rfl : i = i' := by omega
    have h3 := hb.2.1 j ha.1
    have h4 := ha.2.1 j' hb.1
    obtain rfl : j = j' := by omega
    rfl
theorem First.some_iff {T : Nat → Nat → Bool} {a : Option (Nat × Nat)} (ha : First T a) : a.isSome = true ↔ ∃ i j, T i j = true := by
  cases a with
  | none => simp only [Option.isSome]; exact ⟨fun h => (by cases h), fun ⟨i, j, h⟩ => by rw [ha i j] at h; cases h⟩
  | some x => exact ⟨fun _ => ⟨x.1, x.2, ha.1⟩, fun _ => rfl⟩
/-- an expression that asks for no end, has its spans in more text too -/
def NoEn : Ex → Prop
  | .en => False
  | .cat a b => NoEn a ∧ NoEn b
  | .alt a b => NoEn a ∧ NoEn b
  | .star a => NoEn a
  | _ => True
def NoBeg : Ex → Prop
  | .beg => False
  | .cat a b => NoBeg a ∧ NoBeg b
  | .alt a b => NoBeg a ∧ NoBeg b
  | .star a => NoBeg a
  | _ => True
theorem star_into {n n' d : Nat} {a b : Nat → Nat → Bool} (hn : n + d ≤ n') (ha : Ok n a) (h : ∀ i j, a i j = true → b (i + d) (j + d) = true) : ∀ k i j, n - i ≤ k → star n a i j = true → star n' b (i + d) (j + d) = true := by
  intro k
  induction k with
  | zero =>
    intro i j hk hs
    obtain ⟨hi, rfl | ⟨m, h1, h2, _⟩⟩ := (star_iff n a i j).1 hs
    · exact (star_iff _ _ _ _).2 ⟨by omega, .inl rfl⟩
    · omega
  | succ k ih =>
    intro i j hk hs
    obtain ⟨hi, rfl | ⟨m, h1, h2, h3, h4⟩⟩ := (star_iff n a i j).1 hs
    · exact (star_iff _ _ _ _).2 ⟨by omega, .inl rfl⟩
    · exact (star_iff _ _ _ _).2 ⟨by omega, .inr ⟨m + d, by omega, by omega, h i m h3, ih m j (by omega) h4⟩⟩
theorem M_more (s t : List UInt8) (e : Ex) : NoEn e → ∀ i j, M s e i j = true → M (s ++ t) e i j = true := by
  induction e with
  | none => intro _ i j h; cases h
  | emp => intro _ i j h; simp [M] at h ⊢; omega
  | byte u =>
    intro _ i j h
    obtain ⟨c, hc, hb, rfl⟩ := (M_byte s u i j).1 h
    exact (M_byte _ _ _ _).2 ⟨c, by rw [List.getElem?_append_left (List.getElem?_eq_some_iff.1 hc).1]; exact hc, hb, rfl⟩
  | cat a b iha ihb =>
    intro hn i j h
    obtain ⟨m, hm, h1, h2⟩ := (M_cat s a b i j).1 h
    exact (M_cat _ _ _ _ _).2 ⟨m, by simp; omega, iha hn.1 i m h1, ihb hn.2 m j h2⟩
  | alt a b iha ihb =>
    intro hn i j h
    rw [M, Bool.or_eq_true] at h ⊢
    rcases h with h | h
    · exact .inl (iha hn.1 i j h)
    · exact .inr (ihb hn.2 i j h)
  | star a iha =>
    intro hn i j h
    rw [M_star] at h ⊢
    have := star_into (n := s.length) (n' := (s ++ t).length) (d := 0) (by simp) (M_ok s a) (b := M (s ++ t) a) (fun i j h => iha hn i j h) s.length i j (by omega) h
    simpa using this
  | beg => intro _ i j h; simp [M] at h ⊢; exact h
  | en => intro hn; exact absurd hn id
/-- a piece of a text has the spans that lie within it -/
theorem M_piece (s : List UInt8) (d l : Nat) (hd : d + l ≤ s.length) (e : Ex) : NoEn e → NoBeg e → ∀ i j, M ((s.drop d).take l) e i j = true ↔ j ≤ l ∧ i ≤ l ∧ M s e (i + d) (j + d) = true := by
  have hl : ((s.drop d).take l).length = l := by simp; omega
  have hget : ∀ i, i < l → ((s.drop d).take l)[i]? = s[i + d]? := fun i hi => by
    rw [List.getElem?_take, if_pos hi, List.getElem?_drop, Nat.add_comm]
  induction e with
  | none => intro _ _ i j; simp [M]
  | emp => intro _ _ i j; simp only [M, decide_eq_true_eq, hl]; omega
  | byte u =>
    intro _ _ i j
    rw [M_byte, M_byte]
    constructor
    · rintro ⟨c, hc, hb, rfl⟩
      have hi : i < l := by have := (List.getElem?_eq_some_iff.1 hc).1; omega
      exact ⟨by omega, by omega, c, by rw [← hget i hi]; exact hc, hb, by omega⟩
    · rintro ⟨h1, h2, c, hc, hb, h3⟩
      have hi : i < l := by omega
      exact ⟨c, by rw [hget i hi]; exact hc, hb, by omega⟩
  | cat a b iha ihb =>
    intro hn hb i j
    rw [M_cat, M_cat]
    constructor
    · rintro ⟨m, hm, h1, h2⟩
      have x1 := (iha hn.1 hb.1 i m).1 h1
      have x2 := (ihb hn.2 hb.2 m j).1 h2
      exact ⟨x2.1, x1.2.1, m + d, by omega, x1.2.2, x2.2.2⟩
    · rintro ⟨h1, h2, m, hm, h3, h4⟩
      have x1 := M_ok s a _ _ h3
      have x2 := M_ok s b _ _ h4
      obtain ⟨q, rfl⟩ : ∃ q, m = q + d := ⟨m - d, by omega⟩
      exact ⟨q, by omega, (iha hn.1 hb.1 i q).2 ⟨by omega, by omega, h3⟩, (ihb hn.2 hb.2 q j).2 ⟨by omega, by omega, h4⟩⟩
  | alt a b iha ihb =>
    intro hn hb i j
    rw [M, M, Bool.or_eq_true, Bool.or_eq_true, iha hn.1 hb.1, ihb hn.2 hb.2]
    constructor
    · rintro (h | h)
      · exact ⟨h.1, h.2.1, .inl h.2.2⟩
      · exact ⟨h.1, h.2.1, .inr h.2.2⟩
    · rintro ⟨h1, h2, h | h⟩
      · exact .inl ⟨h1, h2, h⟩
      · exact .inr ⟨h1, h2, h⟩
  | star a iha =>
    intro hn hb i j
    rw [M_star, M_star, hl]
    constructor
    · intro h
      have hok : Ok l (M ((s.drop d).take l) a) := by have := M_ok ((s.drop d).take l) a; rwa [hl] at this
      have h0 := starF_ok hok l i j ((star_iff _ _ _ _).1 h).1 (by have h' := h; unfold star at h'; rw [Bool.and_eq_true] at h'; exact h'.2)
      exact ⟨by omega, by omega, star_into (n := l) (by omega) hok (fun i j h => ((iha hn hb i j).1 h).2.2) l i j (by omega) h⟩
    · rintro ⟨h1, h2, h3⟩
      have : ∀ k i, l - i ≤ k → i ≤ l → star s.length (M s a) (i + d) (j + d) = true → star l (M ((s.drop d).take l) a) i j = true := by
        intro k
        induction k with
        | zero =>
          intro i hk hi h
          obtain ⟨_, hx | ⟨m, x1, x2, x3, x4⟩⟩ := (star_iff _ _ _ _).1 h
          · exact (star_iff _ _ _ _).2 ⟨hi, .inl (by omega)⟩
          · have := starF_ok (M_ok s a) s.length m (j + d) x2 (by have h' := x4; unfold star at h'; rw [Bool.and_eq_true] at h'; exact h'.2)
            omega
        | succ k ih =>
          intro i hk hi h
          obtain ⟨_, hx | ⟨m, x1, x2, x3, x4⟩⟩ := (star_iff _ _ _ _).1 h
          · exact (star_iff _ _ _ _).2 ⟨hi, .inl (by omega)⟩
          · have := starF_ok (M_ok s a) s.length m (j + d) x2 (by have h' := x4; unfold star at h'; rw [Bool.and_eq_true] at h'; exact h'.2)
            obtain ⟨q, rfl⟩ : ∃ q, m = q + d := ⟨m - d, by omega⟩
            exact (star_iff _ _ _ _).2 ⟨hi, .inr ⟨q, by omega, by omega, (iha hn hb i q).2 ⟨by omega, by omega, x3⟩, ih q (by omega) (by omega) x4⟩⟩
      exact this l i (by omega) h2 h3
  | beg => intro _ hb; exact absurd hb id
  | en => intro hn; exact absurd hn id
/-- with ^ and $ around: the whole text, or nothing -/
theorem M_whole (s : List UInt8) (e : Ex) (i j : Nat) : M s (.cat (.cat .beg e) .en) i j = true ↔ i = 0 ∧ j = s.length ∧ M s e 0 s.length = true := by
  rw [M_cat]
  constructor
  · rintro ⟨m, hm, h1, h2⟩
    obtain ⟨q, hq, h3, h4⟩ := (M_cat _ _ _ _ _).1 h1
    simp [M] at h2 h3
    obtain ⟨rfl, rfl⟩ := h2
    obtain ⟨rfl, rfl⟩ := h3
    exact ⟨rfl, rfl, h4⟩
  · rintro ⟨rfl, rfl, h⟩
    exact ⟨s.length, Nat.le_refl _, (M_cat _ _ _ _ _).2 ⟨0, by omega, by simp [M], h⟩, by simp [M]⟩
/-- of the letters alone by which byte they have -/
theorem M_bit {s : List UInt8} {t u : Se} (h : ∀ c : UInt8, bit t c.toNat = bit u c.toNat) : M s (.byte t) = M s (.byte u) := by
  funext i j
  rw [M, M]
  cases hs : s[i]? with
  | none => rfl
  | some c => simp only [h]
end Sp
end Go.Proofs.YtmgealcolofomaaDoor
