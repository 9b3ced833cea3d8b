/- What is wrong with an expression: the document's look. -/
import Derived.Test.YtmgealcolofomaaDoorHa
import Derived.Lib.BufferOwn
import Derived.Lib.HexFns2
namespace Go.Proofs.YtmgealcolofomaaDoor
open Go.RowKit Kb
set_option linter.unusedVariables false
set_option maxRecDepth 20000

def wantK (k : Int) : Int := if k = 4 ∨ k = 5 then 2 else if k = 6 then 1 else 0
def noSet : Se := ⟨0, 0, 0, 0⟩
/-- a node by itself is wrong -/
def badN (k : Int) (s : Se) (n : Nat) : Prop := k < 1 ∨ k > 8 ∨ (n : Int) ≠ wantK k ∨ (decide (s ≠ noSet) ≠ decide (k = 3))
instance (k : Int) (s : Se) (n : Nat) : Decidable (badN k s n) := by unfold badN; infer_instance
mutual
/-- how many nodes were counted, and what is wrong -/
def lookR : Rx → Nat → Nat → Nat × Int
  | .mk k s ks, deep, n => if 80 < n + 1 then (n + 1, 2) else if 20 < deep then (n + 1, 11) else if badN k s ks.length then (n + 1, 1) else lookL ks (deep + 1) (n + 1)
def lookL : List Rx → Nat → Nat → Nat × Int
  | [], _, n => (n, 0)
  | x :: xs, deep, n => if (lookR x deep n).2 ≠ 0 then lookR x deep n else lookL xs deep (lookR x deep n).1
end
/-- what is wrong with an expression -/
def chkR (r : Rx) : Int := (lookR r 1 0).2
theorem store_func {P : Program} (w : World) (a : Addr) (m : Mode) (f : Fn) (x y : Array Value) : (store a (.func f x y) m).run P w = stored P w a (.func f x y) m := run_store P w a _ m rfl
theorem own_base' {w : World} {B B' e size n : Nat} {v : Value} {xs : List Value} (h : w.ownsRow B e size v n xs) (hB : B' ≤ B) : w.ownsRow B' e size v n xs := by
  refine ⟨h.1, ?_⟩
  rcases h.2 with h1 | ⟨g, cap, cur, h1, h2, h3⟩
  · exact .inl h1
  · exact .inr ⟨g, cap, cur, h1, by omega, h3⟩
/-- a number in a block of its own -/
def Num1 (w : World) (B nb : Nat) (n : Int) : Prop := w.ownsRow B 3 1 (.slice (some ⟨nb, 0, none⟩) 1 1) 1 (cellsZ [n])
theorem num1_new (w : World) (n : Int) {B : Nat} (hB : B ≤ w.heap.size) : Num1 (w.alloc (.cells #[.int .i64 n] 3)) B w.heap.size n :=
  own_base' (World.ownsRow_lit w #[.int .i64 n] 1 (Nat.le_refl _) (by unfold maxLen; omega) rfl) hB
theorem Num1.cell {w : World} {B nb : Nat} {n : Int} (h : Num1 w B nb n) : w.cell? ⟨nb, 0, none⟩ = some (.int .i64 n) := by
  have := World.ownsRow.cellAt h 0 (by omega); simpa [cellsZ] using this
theorem Num1.lt {w : World} {B nb : Nat} {n : Int} (h : Num1 w B nb n) : B ≤ nb ∧ nb < w.heap.size := World.ownsRow.lt h nb rfl
theorem Num1.set {w : World} {B nb : Nat} {n : Int} (h : Num1 w B nb n) (m : Int) : Num1 (w.setCell ⟨nb, 0, none⟩ (.int .i64 m)) B nb m ∧ w.grownBy (w.setCell ⟨nb, 0, none⟩ (.int .i64 m)) (some nb) := World.ownsRow.stored h 0 (.int .i64 m)
theorem Num1.alloc {w : World} {B nb : Nat} {n : Int} (h : Num1 w B nb n) (o : Obj) : Num1 (w.alloc o) B nb n := World.ownsRow.alloc h o
theorem Num1.drew {w : World} {B nb : Nat} {n : Int} (h : Num1 w B nb n) : Num1 w.drew B nb n := World.ownsRow.drew h
theorem grown_drew (w : World) (row : Option Nat) : w.grownBy w.drew row := ⟨rfl, rfl, rfl, Nat.le_refl _, fun _ _ _ => rfl⟩
theorem below_of {w0 w w' : World} {nb : Nat} (h : Below w0.heap.size w0 w) (g : w.grownBy w' (some nb)) (hn : w0.heap.size ≤ nb) : Below w0.heap.size w0 w' := h.grown g h.size (fun q hq => by cases hq; exact hn)
end Go.Proofs.YtmgealcolofomaaDoor
