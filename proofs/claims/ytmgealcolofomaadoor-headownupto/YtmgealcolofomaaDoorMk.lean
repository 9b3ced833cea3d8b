/- Walks: a field is read, the first line is read (the program's). -/
import Derived.Test.YtmgealcolofomaaDoorMj
import Derived.OwnWalk
namespace Go.Proofs.YtmgealcolofomaaDoor
open Go.RowKit Kb
set_option linter.unusedVariables false
set_option maxRecDepth 20000
open Mh (Fl)

theorem cell_ltH {w : World} {a : Addr} {v : Value} (h : w.cell? a = some v) : a.block < w.heap.size := by
  unfold World.cell? at h
  split at h
  · rename_i hb; exact (Array.getElem?_eq_some_iff.1 hb).1
  · cases h
/-- the library's word for the longest needle lies where it lay -/
def MH (m : Int) (w : World) : Prop := w.cell? ⟨2, 0, none⟩ = some (.int .i64 m)
theorem MH.below {m : Int} {w w' : World} (h : MH m w) (b : Below w.heap.size w w') : MH m w' := cell_below h (cell_ltH (a := ⟨2, 0, none⟩) h) b
theorem cut_len (l : List UInt8) (t : List UInt8) : (Lib.cut l t).1.length ≤ l.length ∧ (Lib.cut l t).2.1.length ≤ l.length := by
  unfold Lib.cut
  split
  · refine ⟨?_, ?_⟩
    · rw [List.length_take]; omega
    · rw [List.length_drop]; omega
  · exact ⟨Nat.le_refl _, Nat.zero_le _⟩
def fst' (o : Option Fl) : List UInt8 := (o.getD ([], [])).1
def snd' (o : Option Fl) : List UInt8 := (o.getD ([], [])).2
theorem pc_one (c : UInt8) (l : List UInt8) : Mh.pc [c] l = Cs.cut c l := Cs.split_cut c _ l (Nat.le_refl _)
end Go.Proofs.YtmgealcolofomaaDoor
