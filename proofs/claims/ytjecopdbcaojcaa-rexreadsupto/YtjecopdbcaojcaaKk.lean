/- The program's reading of a class in brackets: plain. -/
import Derived.Test.YtjecopdbcaojcaaKi
namespace Go.Proofs.Ytjecopdbcaojcaa
open Go.RowKit Kb
set_option linter.unusedVariables false
set_option maxRecDepth 20000

theorem hexR_lt {s : ByteArray} {a m : Nat} (h : (hexR s a).1 = some m) : (hexR s a).2 = a + 2 := by
  unfold hexR at *
  by_cases h1 : hv (pkB s a) < 0
  · rw [if_pos h1] at h; cases h
  rw [if_neg h1] at h ⊢
  by_cases h2 : hv (pkB s (a + 1)) < 0
  · rw [if_pos h2] at h; cases h
  rw [if_neg h2]
theorem escR_lt {s : ByteArray} {a m : Nat} (h : (escR s a).1 = some m) : a < (escR s a).2 := by
  unfold escR at *
  by_cases h1 : pkB s a = 120
  · rw [if_pos h1] at h ⊢; rw [hexR_lt h]; omega
  rw [if_neg h1] at h ⊢
  by_cases h2 : pkB s a = 110
  · rw [if_pos h2]; simp
  rw [if_neg h2] at h ⊢
  by_cases h3 : pkB s a = 116
  · rw [if_pos h3]; simp
  rw [if_neg h3] at h ⊢
  by_cases h4 : pkB s a = 114
  · rw [if_pos h4]; simp
  rw [if_neg h4] at h ⊢
  by_cases h5 : has specs (pkB s a) = true
  · rw [if_pos h5]; simp
  · rw [if_neg h5] at h; cases h
theorem charR_lt {s : ByteArray} {a m : Nat} (h : (charR s a).1 = some m) : a < (charR s a).2 := by
  unfold charR at *
  by_cases h1 : pkB s a = 92
  · rw [if_pos h1] at h ⊢; have := escR_lt h; omega
  rw [if_neg h1] at h ⊢
  by_cases h2 : plR (pkB s a) = true
  · rw [if_pos h2]; simp
  · rw [if_neg h2] at h; cases h
theorem clsP_le {s : ByteArray} {a : Nat} {p : Nat → Bool} (h : clsP s a = some p) : a + 2 ≤ s.size := by
  unfold clsP at h
  by_cases h1 : pkB s a = 92
  · rw [if_pos h1] at h
    have : pkB s (a + 1) ≠ 0 := by
      intro e
      rw [e] at h
      simp at h
    have := pk_lt this
    omega
  · rw [if_neg h1] at h; cases h
theorem itemR_le (s : ByteArray) (a : Nat) (ha : a ≤ s.size) : (itemR s a).2 ≤ s.size ∧ (∀ p, (itemR s a).1 = some p → a < (itemR s a).2) := by
  have hc := charR_le s a ha
  have hp := @charR_lt s a
  unfold itemR
  cases h : clsP s a with
  | some p => have := clsP_le h; exact ⟨by simpa using this, fun _ _ => by simp⟩
  | none =>
    obtain ⟨⟨o1, b1⟩, ho⟩ : ∃ z, charR s a = z := ⟨_, rfl⟩
    rw [ho] at hc hp ⊢
    cases o1 with
    | none => exact ⟨hc.1, fun p hp => by cases hp⟩
    | some x =>
      have h1 := hp (m := x) rfl
      dsimp only at hc h1 ⊢
      by_cases h45 : pkB s b1 = 45
      · rw [if_pos h45]
        have hb := pk_lt (s := s) (a := b1) (by rw [h45]; decide)
        have hc2 := charR_le s (b1 + 1) (by omega)
        have hp2 := @charR_lt s (b1 + 1)
        obtain ⟨⟨o2, c2⟩, ho2⟩ : ∃ z, charR s (b1 + 1) = z := ⟨_, rfl⟩
        rw [ho2] at hc2 hp2 ⊢
        cases o2 with
        | none => exact ⟨hc2.1, fun p hp => by cases hp⟩
        | some y =>
          have h2 := hp2 (m := y) rfl
          dsimp only at hc2 h2 ⊢
          by_cases hyx : y < x
          · rw [if_pos hyx]; exact ⟨by show b1 + 1 ≤ _; omega, fun p hp => by cases hp⟩
          · rw [if_neg hyx]; exact ⟨hc2.1, fun p _ => by show a < c2; omega⟩
      · rw [if_neg h45]; exact ⟨hc.1, fun p _ => h1⟩
/-- the items of a class, up to its ] -/
def loopR (s : ByteArray) (p : Nat → Bool) (b : Nat) : Option (Nat → Bool) × Nat :=
  if pkB s b = 93 then (some p, b) else
    match itemR s b with
    | (none, c) => (none, c)
    | (some q, c) => if h : b < c ∧ c ≤ s.size then loopR s (fun j => p j || q j) c else (none, c)
  termination_by s.size - b
theorem loopR_end {s : ByteArray} {p : Nat → Bool} {b : Nat} (h : pkB s b = 93) : loopR s p b = (some p, b) := by rw [loopR, if_pos h]
theorem loopR_err {s : ByteArray} {p : Nat → Bool} {b c : Nat} (h : pkB s b ≠ 93) (hi : itemR s b = (none, c)) : loopR s p b = (none, c) := by rw [loopR, if_neg h, hi]
theorem loopR_go {s : ByteArray} {p q : Nat → Bool} {b c : Nat} (hb : b ≤ s.size) (h : pkB s b ≠ 93) (hi : itemR s b = (some q, c)) : loopR s p b = loopR s (fun j => p j || q j) c := by
  have := itemR_le s b hb
  rw [hi] at this
  rw [loopR, if_neg h, hi]
  exact dif_pos ⟨this.2 q rfl, this.1⟩
/-- the items behind the first one -/
def openR (s : ByteArray) (r : Option (Nat → Bool) × Nat) : Option (Nat → Bool) × Nat :=
  match r with
  | (none, c) => (none, c)
  | (some p, c) => loopR s p c
/-- the end of a class: turned if it began with ^; it must have a byte -/
def shutR (nb : Bool) (r : Option (Nat → Bool) × Nat) : Option (Nat → Bool) × Nat :=
  match r with
  | (none, d) => (none, d)
  | (some q, d) => if Pop.cntN (fun j => q j != nb) 256 = 0 then (none, d) else (some (fun j => q j != nb), d + 1)
/-- a class in brackets, behind its [: its bytes, or none, and where it leaves off -/
def itemsR (s : ByteArray) (a : Nat) : Option (Nat → Bool) × Nat := shutR (decide (pkB s a = 94)) (openR s (itemR s (tkA s a 94)))
end Go.Proofs.Ytjecopdbcaojcaa
