/- Walks: what is wrong with a head, as the document says it. -/
import Derived.Test.YtmgealcolofomaaGreatDoorMd
import Derived.Test.YtmgealcolofomaaGreatDoorRa
import Derived.Test.YtmgealcolofomaaGreatDoorRb
namespace Go.Proofs.YtmgealcolofomaaGreatDoor
open Go.RowKit Kb
set_option linter.unusedVariables false
set_option maxRecDepth 20000
open Mh (Fl)

namespace Mh
theorem fieldE_bad {f : Fl} (h : f.2.all valB = false ∨ tokenB f.1 = false ∨ trim f.2 ≠ f.2) : fieldE f = 4 := by
  unfold fieldE
  rw [if_pos]
  rintro ⟨h1, h2⟩
  have h3 := value_mem h2
  rcases h with h | h | h
  · rw [List.all_eq_true.2 h3.2] at h; cases h
  · rw [h1] at h; cases h
  · exact h h3.1
theorem fieldE_good {f : Fl} (h1 : f.2.all valB = true) (h2 : tokenB f.1 = true) (h3 : trim f.2 = f.2) : fieldE f = if 1000 < f.1.length + f.2.length then 5 else 0 := by
  unfold fieldE
  rw [if_neg]
  intro h
  refine h ⟨h2, ?_⟩
  unfold valueB
  rw [h1, decide_eq_true h3]; rfl
theorem valB_cases (c : UInt8) : (valB c = false ∧ ((((c.toNat : Int) < 32) ∧ ¬ ((c.toNat : Int) = 9)) ∨ (¬ ((c.toNat : Int) < 32) ∧ (c.toNat : Int) = 127))) ∨ (valB c = true ∧ ((((c.toNat : Int) < 32) ∧ (c.toNat : Int) = 9) ∨ (¬ ((c.toNat : Int) < 32) ∧ ¬ (c.toNat : Int) = 127))) := by
  have hv : valB c = (decide (c.toNat = 9) || (decide (32 ≤ c.toNat) && !decide (c.toNat = 127))) := by
    unfold valB
    rw [show (c == 9) = decide (c.toNat = 9) by rw [Bool.eq_iff_iff, beq_iff_eq, decide_eq_true_eq, ← UInt8.toNat_inj]; rfl,
      show (c == 127) = decide (c.toNat = 127) by rw [Bool.eq_iff_iff, beq_iff_eq, decide_eq_true_eq, ← UInt8.toNat_inj]; rfl]
  rw [hv]
  by_cases h9 : c.toNat = 9 <;> by_cases h32 : 32 ≤ c.toNat <;> by_cases h127 : c.toNat = 127 <;> simp [h9, h32, h127] <;> omega
end Mh
end Go.Proofs.YtmgealcolofomaaGreatDoor
