/- How the document writes sets of bytes: items. -/
import Derived.Test.YtmgealcolofomaaDoorHd
import Derived.Test.YtmgealcolofomaaDoorHf
namespace Go.Proofs.YtmgealcolofomaaDoor
open Go.RowKit Kb
set_option linter.unusedVariables false
set_option maxRecDepth 20000

/-- the last byte of the row of bytes that goes on from l -/
def lastR (p : Nat → Bool) (l : Nat) : Nat := if l < 255 ∧ p (l + 1) = true then lastR p (l + 1) else l
termination_by 255 - l
theorem lastR_go {p : Nat → Bool} {l : Nat} (h : l < 255) (g : p (l + 1) = true) : lastR p l = lastR p (l + 1) := by rw [lastR, if_pos ⟨h, g⟩]
theorem lastR_stop {p : Nat → Bool} {l : Nat} (h : ¬ (l < 255 ∧ p (l + 1) = true)) : lastR p l = l := by rw [lastR, if_neg h]
theorem lastR_ge (p : Nat → Bool) (n : Nat) : ∀ l, 255 - l ≤ n → l ≤ lastR p l ∧ (l ≤ 255 → lastR p l ≤ 255) := by
  induction n with
  | zero => intro l h; rw [lastR_stop (by omega)]; exact ⟨Nat.le_refl _, id⟩
  | succ n ih =>
    intro l h
    by_cases hc : l < 255 ∧ p (l + 1) = true
    · rw [lastR_go hc.1 hc.2]; have := ih (l + 1) (by omega); exact ⟨by omega, fun _ => this.2 (by omega)⟩
    · rw [lastR_stop hc]; exact ⟨Nat.le_refl _, id⟩
/-- an ITEM of a row of bytes from b on -/
def item1 (p : Nat → Bool) (b : Nat) : List UInt8 :=
  charT (UInt8.ofNat b) ++ ((if b + 1 < lastR p b then [45] else []) ++ (if b < lastR p b then charT (UInt8.ofNat (lastR p b)) else []))
/-- does a row of bytes begin at b? -/
def heads (p : Nat → Bool) (b : Nat) : Bool := p b && !(decide (0 < b) && p (b - 1))
def itemsP (p : Nat → Bool) : Nat → List UInt8
  | 0 => []
  | b + 1 => itemsP p b ++ (if heads p b = true then item1 p b else [])
theorem charT_len (b : UInt8) : (charT b).length ≤ 4 := by
  unfold charT
  split
  · decide
  split
  · decide
  split
  · decide
  split
  · simp [twoH]
  split <;> simp
theorem item1_len (p : Nat → Bool) (b : Nat) : (item1 p b).length ≤ 9 := by
  unfold item1
  have h1 := charT_len (UInt8.ofNat b)
  have h2 := charT_len (UInt8.ofNat (lastR p b))
  rw [List.length_append, List.length_append]
  split <;> split <;> simp <;> omega
theorem itemsP_len (p : Nat → Bool) (b : Nat) : (itemsP p b).length ≤ 9 * b := by
  induction b with
  | zero => simp [itemsP]
  | succ b ih =>
    have := item1_len p b
    rw [itemsP, List.length_append]
    split <;> simp <;> omega
theorem mk_size (l : List UInt8) : (mk l).size = l.length := Kb.mk_sz l
end Go.Proofs.YtmgealcolofomaaDoor
