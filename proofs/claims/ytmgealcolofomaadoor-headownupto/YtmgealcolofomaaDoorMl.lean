/- Walks: a head is read (the program's). -/
import Derived.Test.YtmgealcolofomaaDoorMk
import Derived.Test.YtmgealcolofomaaDoorMd
namespace Go.Proofs.YtmgealcolofomaaDoor
open Go.RowKit Kb
set_option linter.unusedVariables false
set_option maxRecDepth 20000
open Mh (Fl)

theorem grown_row {w a b : World} {R : Option Nat} {B : Nat} {row : Option Nat} (h : w.grownBy a R) (g : a.grownBy b row) (hB : w.heap.size ≤ B) (hr : ∀ k, row = some k → B ≤ k) : w.grownBy b R := by
  obtain ⟨h1, h2, h3, h4, h5⟩ := h
  obtain ⟨g1, g2, g3, g4, g5⟩ := g
  exact ⟨g1.trans h1, g2.trans h2, g3.trans h3, Nat.le_trans h4 g4, fun k hk hne => (g5 k (Nat.lt_of_lt_of_le hk h4) (fun e => by have := hr k e.symm; omega)).trans (h5 k hk hne)⟩
theorem grown_below' {w a b : World} {R : Option Nat} (h : w.grownBy a R) (g : Below a.heap.size a b) : w.grownBy b R := by
  obtain ⟨h1, h2, h3, h4, h5⟩ := h
  exact ⟨g.os.trans h1, g.tape.trans h2, g.output.trans h3, Nat.le_trans h4 g.size, fun k hk hne => (g.block k (Nat.lt_of_lt_of_le hk h4)).trans (h5 k hk hne)⟩
def hmOf (o : Option (List UInt8 × List UInt8 × List Fl)) : List UInt8 := (o.getD ([], [], [])).1
def htOf (o : Option (List UInt8 × List UInt8 × List Fl)) : List UInt8 := (o.getD ([], [], [])).2.1
def hfOf (o : Option (List UInt8 × List UInt8 × List Fl)) : List Fl := (o.getD ([], [], [])).2.2
end Go.Proofs.YtmgealcolofomaaDoor
