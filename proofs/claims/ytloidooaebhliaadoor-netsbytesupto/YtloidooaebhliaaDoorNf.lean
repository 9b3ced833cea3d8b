/- Walks: lists of nets (the program's), and that two are the same. -/
import Derived.Test.YtloidooaebhliaaDoorNc
import Derived.OwnWalk
namespace Go.Proofs.YtloidooaebhliaaDoor
open Go.RowKit Kb
set_option linter.unusedVariables false
set_option maxRecDepth 20000

theorem own_mono {w : World} {B B' e size n : Nat} {v : Value} {xs : List Value} (h : w.ownsRow B e size v n xs) (hB : B' ≤ B) : w.ownsRow B' e size v n xs := by
  obtain ⟨h1, h2⟩ := h
  refine ⟨h1, ?_⟩
  rcases h2 with h2 | ⟨b, cap, cur, h3, h4, h5⟩
  · exact .inl h2
  · exact .inr ⟨b, cap, cur, h3, Nat.le_trans hB h4, h5⟩
theorem wt_mem : ∀ {L : List (List UInt8)} {p : List UInt8}, p ∈ L → p.length + 1 ≤ Cp.wt L
  | a :: r, p, h => by
    rw [Cp.wt_cons]
    rcases List.mem_cons.1 h with e | e
    · rw [e]; omega
    · have := wt_mem e; omega
namespace Nt
def listR : List (Nat × Nat) → List (List UInt8) → List (Nat × Nat) × Int
  | acc, [] => (acc, 0)
  | acc, p :: ps => if (parse p).2.2 = 0 then listR (acc ++ [((parse p).1, (parse p).2.1)]) ps else ([], (parse p).2.2)
/-- the nets of which a text is the text, and what went wrong -/
def list (l : List UInt8) : List (Nat × Nat) × Int := if 30 < (Cs.cut 44 l).length then ([], 2) else listR [] (Cs.cut 44 l)
theorem listR_len : ∀ (ps : List (List UInt8)) (acc : List (Nat × Nat)), (listR acc ps).1.length ≤ acc.length + ps.length
  | [], acc => by simp [listR]
  | p :: ps, acc => by
    unfold listR
    split
    · have := listR_len ps (acc ++ [((parse p).1, (parse p).2.1)])
      rw [List.length_append] at this
      simp only [List.length_cons, List.length_nil] at this ⊢; omega
    · simp
theorem list_len (l : List UInt8) : (list l).1.length ≤ 30 := by
  unfold list
  split
  · simp
  · have := listR_len (Cs.cut 44 l) []
    simp only [List.length_nil] at this; omega
end Nt
/-- nets as cells -/
def cellsNs (l : List (Nat × Nat)) : List Value := l.flatMap fun x => [.int .u32 x.1, .int .i64 x.2]
theorem cellsNs_append (a b : List (Nat × Nat)) : cellsNs (a ++ b) = cellsNs a ++ cellsNs b := by simp [cellsNs]
theorem cellsNs_len (l : List (Nat × Nat)) : (cellsNs l).length = l.length * 2 := by
  induction l with
  | nil => rfl
  | cons a r ih =>
    have : (cellsNs (a :: r)).length = (cellsNs r).length + 2 := by simp [cellsNs]
    rw [this, ih, List.length_cons]; omega
theorem cellsNs_at {l : List (Nat × Nat)} {j : Nat} {h : Nat × Nat} (hj : l[j]? = some h) : (cellsNs l)[j * 2]? = some (.int .u32 h.1) ∧ (cellsNs l)[j * 2 + 1]? = some (.int .i64 h.2) := by
  induction l generalizing j with
  | nil => simp at hj
  | cons a r ih =>
    have e : cellsNs (a :: r) = .int .u32 a.1 :: .int .i64 a.2 :: cellsNs r := by simp [cellsNs]
    rw [e]
    cases j with
    | zero => simp at hj; subst hj; simp
    | succ j =>
      have := ih (j := j) (by simpa using hj)
      rw [show (j + 1) * 2 = j * 2 + 1 + 1 by omega]
      simpa using this
end Go.Proofs.YtloidooaebhliaaDoor
