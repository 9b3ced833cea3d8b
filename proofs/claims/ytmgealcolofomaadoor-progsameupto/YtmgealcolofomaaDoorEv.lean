/- Find and Some of instructions, whatever is handed in. -/
import Derived.Test.YtmgealcolofomaaDoorEk
namespace Go.Proofs.YtmgealcolofomaaDoor
open Go.RowKit Kb
set_option linter.unusedVariables false
set_option maxRecDepth 20000
/-- what Find answers -/
def FdP (p : List In) (s : ByteArray) (fa fb : Int) (is : Bool) (f : Int) : Prop :=
  (Pm.chk p = 0 ∧ s.size ≤ 8192 ∧ f = 0 ∧ ∃ o : Option (Nat × Nat), fa = fF o ∧ fb = fT o ∧ is = o.isSome ∧ Sp.First (Pm.spanB p s.data.toList) o) ∨
  ((Pm.chk p ≠ 0 ∨ 8192 < s.size) ∧ f ≠ 0 ∧ (Pm.chk p ≠ 0 → f = Pm.chk p) ∧ (Pm.chk p = 0 → f = 2) ∧ fa = 0 ∧ fb = 0 ∧ is = false)
/-- what Some answers -/
def SdP (p : List In) (s : ByteArray) (is : Bool) (f : Int) : Prop :=
  (Pm.chk p = 0 ∧ s.size ≤ 8192 ∧ f = 0 ∧ (is = true ↔ ∃ i j, Pm.Span p s.data.toList i j)) ∨
  ((Pm.chk p ≠ 0 ∨ 8192 < s.size) ∧ f ≠ 0 ∧ (Pm.chk p ≠ 0 → f = Pm.chk p) ∧ (Pm.chk p = 0 → f = 2) ∧ is = false)
theorem bad_num {p : List In} {s : ByteArray} (h : ¬ (Pm.chk p = 0 ∧ s.size ≤ 8192)) : ∃ r : Int, (if Pm.chk p ≠ 0 then Pm.chk p else if 8192 < s.size then 2 else 0) = r ∧ (Pm.chk p ≠ 0 ∨ 8192 < s.size) ∧ r ≠ 0 ∧ (Pm.chk p ≠ 0 → r = Pm.chk p) ∧ (Pm.chk p = 0 → r = 2) := by
  refine ⟨_, rfl, by omega, ?_, fun h1 => by rw [if_pos h1], fun h1 => by rw [if_neg (by omega), if_pos (by omega)]⟩
  by_cases h1 : Pm.chk p = 0
  · rw [if_neg (by omega), if_pos (by omega)]; decide
  · rw [if_pos h1]; exact h1
theorem find_all (pv : Value) (p : List In) (s : ByteArray) (w : World) (hI : Insts w pv p) (hn : p.length ≤ 1099511627776) :
    Calls Tryd.prog 15 #[pv, .string s] w fun e w' => ∃ fa fb is f, e = .returned (.tuple #[.agg #[.int .i64 fa, .int .i64 fb], .bool is, .int .i64 f]) ∧ FdP p s fa fb is f ∧ Below w.heap.size w w' := by
  by_cases h : Pm.chk p = 0 ∧ s.size ≤ 8192
  · refine (pfind_any pv p s w hI hn h.1 h.2).mono ?_
    rintro e w' ⟨o, rfl, ho, hb⟩
    exact ⟨_, _, _, _, rfl, .inl ⟨h.1, h.2, rfl, o, rfl, rfl, rfl, ho⟩, hb⟩
  · obtain ⟨r, hr, h1, h2, h3, h4⟩ := bad_num h
    refine (pfind_bad pv p s w r hI hn hr (by rw [beq_eq_false_iff_ne]; exact h2)).mono ?_
    rintro e w' ⟨rfl, hb⟩
    exact ⟨_, _, _, _, rfl, .inr ⟨h1, h2, h3, h4, rfl, rfl, rfl⟩, hb⟩
end Go.Proofs.YtmgealcolofomaaDoor
