/- How the program writes sets: appendItems. -/
import Derived.Test.YtjecopdbcaojcaaJb
import Derived.Lib.Builder
namespace Go.Proofs.Ytjecopdbcaojcaa
open Go.RowKit Kb Pop
set_option linter.unusedVariables false
set_option maxRecDepth 20000

theorem lastR_run (p : Nat → Bool) (n : Nat) : ∀ l, 255 - l ≤ n → p l = true → ∀ j, l ≤ j → j ≤ lastR p l → p j = true := by
  induction n with
  | zero => intro l h hp j h1 h2; rw [lastR_stop (by omega)] at h2; obtain rfl : j = l := by omega
            exact hp
  | succ n ih =>
    intro l h hp j h1 h2
    by_cases hc : l < 255 ∧ p (l + 1) = true
    · rw [lastR_go hc.1 hc.2] at h2
      by_cases e : j = l
      · subst e; exact hp
      · exact ih (l + 1) (by omega) hc.2 j (by omega) h2
    · rw [lastR_stop hc] at h2; obtain rfl : j = l := by omega
      exact hp
theorem items_run (p : Nat → Bool) (f : Nat) (hp : heads p f = true) : ∀ d, f + d ≤ lastR p f → itemsP p (f + d + 1) = itemsP p f ++ item1 p f := by
  have hpf : p f = true := by unfold heads at hp; cases h : p f; rw [h] at hp; simp at hp; rfl
  intro d
  induction d with
  | zero => intro h; show itemsP p (f + 1) = _; rw [itemsP, if_pos hp]
  | succ d ih =>
    intro h
    have hb : p (f + d) = true := lastR_run p 255 f (by omega) hpf _ (by omega) (by omega)
    rw [show f + (d + 1) + 1 = (f + d + 1) + 1 by omega, itemsP, ih (by omega), if_neg, List.append_nil]
    unfold heads
    rw [show f + d + 1 - 1 = f + d by omega, hb]
    simp
theorem items_jump (p : Nat → Bool) (f : Nat) (hp : heads p f = true) : itemsP p (lastR p f + 1) = itemsP p f ++ item2 f (lastR p f) := by
  have h := (lastR_ge p 255 f (by omega)).1
  have := items_run p f hp (lastR p f - f) (by omega)
  rwa [show f + (lastR p f - f) + 1 = lastR p f + 1 by omega] at this
theorem lastR_end (p : Nat → Bool) (n : Nat) : ∀ l, 255 - l ≤ n → lastR p l < 255 → p (lastR p l + 1) = false := by
  induction n with
  | zero => intro l h h2; rw [lastR_stop (by omega)] at h2; omega
  | succ n ih =>
    intro l h h2
    by_cases hc : l < 255 ∧ p (l + 1) = true
    · rw [lastR_go hc.1 hc.2] at h2 ⊢; exact ih (l + 1) (by omega) h2
    · rw [lastR_stop hc] at h2 ⊢
      cases hq : p (l + 1)
      · rfl
      · exact absurd ⟨h2, hq⟩ hc
end Go.Proofs.Ytjecopdbcaojcaa
