/- Variables that hold a field, a head; lines; walks: a field and a first line are read (the program's). -/
import Derived.Test.YtmgealcolofomaaDoorMi
import Derived.Test.YtmgealcolofomaaDoorMe
import Derived.Test.YtmgealcolofomaaDoorNx
import Derived.Test.YtmgealcolofomaaDoorMf
namespace Go.Proofs.YtmgealcolofomaaDoor
open Go.RowKit Kb
set_option linter.unusedVariables false
set_option maxRecDepth 20000
open Mh (Fl)

def FX (w : World) (base g : Nat) (a b : ByteArray) : Prop := w.ownsRow base 57 2 (.slice (some ⟨g, 0, none⟩) 1 1) 1 [.string a, .string b]
section
variable {w w' : World} {base g : Nat} {a b : ByteArray}
theorem FX.cells (h : FX w base g a b) : w.cell? ⟨g, 0, none⟩ = some (.string a) ∧ w.cell? ⟨g, 1, none⟩ = some (.string b) :=
  ⟨World.ownsRow.cellAt h 0 (by omega), World.ownsRow.cellAt h 1 (by omega)⟩
theorem FX.frozen (h : FX w base g a b) : w.frozen? ⟨g, 0, none⟩ = false ∧ w.frozen? ⟨g, 1, none⟩ = false :=
  ⟨World.ownsRow.frozenAt h 0, World.ownsRow.frozenAt h 1⟩
theorem FX.lt (h : FX w base g a b) : base ≤ g ∧ g < w.heap.size := World.ownsRow.lt h g rfl
theorem FX.below (h : FX w base g a b) (b' : Below w.heap.size w w') : FX w' base g a b := own_below h b'
theorem FX.new (W : World) (hB : base ≤ W.heap.size) (a b : ByteArray) : FX (W.alloc (.cells #[.string a, .string b] 57)) base W.heap.size a b :=
  World.ownsRow_lit (e := 57) (size := 2) (base := base) W #[.string a, .string b] 1 hB (by unfold maxLen; omega) rfl
end
def putF (w : World) (g : Nat) (a b : ByteArray) : World := (w.setCell ⟨g, 0, none⟩ (.string a)).setCell ⟨g, 1, none⟩ (.string b)
theorem FX.put {w : World} {base g : Nat} {a b : ByteArray} (h : FX w base g a b) (a' b' : ByteArray) : FX (putF w g a' b') base g a' b' ∧ w.grownBy (putF w g a' b') (some g) := by
  obtain ⟨v0, m0⟩ := World.ownsRow.stored h 0 (.string a')
  obtain ⟨v1, m1⟩ := v0.stored 1 (.string b')
  exact ⟨v1, m0.trans m1⟩
theorem FX.load {w : World} {base g : Nat} {a b : ByteArray} (h : FX w base g a b) : (loadVar 57 ⟨g, 0, none⟩).run Tryd.prog w = .ok (.agg #[.string a, .string b]) w := by
  obtain ⟨fr, hh⟩ := own_one' h
  exact run_loadVar_row w g 57 57 #[.string a, .string b] fr _ hh Tryd.underlying57 rfl (by kernel_rfl)
theorem FX.loaded {w : World} {base g : Nat} {a b : ByteArray} (h : FX w base g a b) (a' b' : ByteArray) : (loadVar 57 ⟨g, 0, none⟩).run Tryd.prog (putF w g a' b') = .ok (.agg #[.string a', .string b']) (putF w g a' b') := (h.put a' b').1.load
def HX (w : World) (base g : Nat) (a b : ByteArray) (v : Value) : Prop := w.ownsRow base 24 3 (.slice (some ⟨g, 0, none⟩) 1 1) 1 [.string a, .string b, v]
section
variable {w w' : World} {base g : Nat} {a b : ByteArray} {v : Value}
theorem HX.cells (h : HX w base g a b v) : w.cell? ⟨g, 0, none⟩ = some (.string a) ∧ w.cell? ⟨g, 1, none⟩ = some (.string b) ∧ w.cell? ⟨g, 2, none⟩ = some v :=
  ⟨World.ownsRow.cellAt h 0 (by omega), World.ownsRow.cellAt h 1 (by omega), World.ownsRow.cellAt h 2 (by omega)⟩
theorem HX.frozen (h : HX w base g a b v) : w.frozen? ⟨g, 0, none⟩ = false ∧ w.frozen? ⟨g, 1, none⟩ = false ∧ w.frozen? ⟨g, 2, none⟩ = false :=
  ⟨World.ownsRow.frozenAt h 0, World.ownsRow.frozenAt h 1, World.ownsRow.frozenAt h 2⟩
theorem HX.lt (h : HX w base g a b v) : base ≤ g ∧ g < w.heap.size := World.ownsRow.lt h g rfl
theorem HX.below (h : HX w base g a b v) (b' : Below w.heap.size w w') : HX w' base g a b v := own_below h b'
theorem HX.kept (h : HX w base g a b v) {row : Option Nat} (k : w.grownBy w' row) (hne : row ≠ some g) : HX w' base g a b v := World.ownsRow.kept h k (.inr (fun e => hne (by rw [← e]; rfl)))
theorem HX.new (W : World) (hB : base ≤ W.heap.size) (a b : ByteArray) (o : Option Addr) (n c : Nat) : HX (W.alloc (.cells #[.string a, .string b, .slice o n c] 24)) base W.heap.size a b (.slice o n c) :=
  World.ownsRow_lit (e := 24) (size := 3) (base := base) W #[.string a, .string b, .slice o n c] 1 hB (by unfold maxLen; omega) rfl
end
def putH (w : World) (g : Nat) (a b : ByteArray) (v : Value) : World := ((w.setCell ⟨g, 0, none⟩ (.string a)).setCell ⟨g, 1, none⟩ (.string b)).setCell ⟨g, 2, none⟩ v
theorem HX.put {w : World} {base g : Nat} {a b : ByteArray} {v : Value} (h : HX w base g a b v) (a' b' : ByteArray) (v' : Value) (hv : v'.oneCell' = true) : HX (putH w g a' b' v') base g a' b' v' ∧ w.grownBy (putH w g a' b' v') (some g) := by
  obtain ⟨v0, m0⟩ := World.ownsRow.stored h 0 (.string a')
  obtain ⟨v1, m1⟩ := v0.stored 1 (.string b')
  obtain ⟨v2, m2⟩ := v1.stored 2 v'
  exact ⟨v2, (m0.trans m1).trans m2⟩
theorem HX.set2 {w : World} {base g : Nat} {a b : ByteArray} {v : Value} (h : HX w base g a b v) (v' : Value) : HX (w.setCell ⟨g, 2, none⟩ v') base g a b v' ∧ w.grownBy (w.setCell ⟨g, 2, none⟩ v') (some g) := World.ownsRow.stored h 2 v'
theorem HX.load {w : World} {base g : Nat} {a b : ByteArray} {o : Option Addr} {n c : Nat} (h : HX w base g a b (.slice o n c)) : (loadVar 24 ⟨g, 0, none⟩).run Tryd.prog w = .ok (.agg #[.string a, .string b, .slice o n c]) w := by
  obtain ⟨fr, hh⟩ := own_one' h
  exact run_loadVar_row w g 24 24 #[.string a, .string b, .slice o n c] fr _ hh Tryd.underlying24 rfl (by kernel_rfl)
theorem HX.loaded {w : World} {base g : Nat} {a b : ByteArray} {v : Value} (h : HX w base g a b v) (a' b' : ByteArray) (o : Option Addr) (n c : Nat) : (loadVar 24 ⟨g, 0, none⟩).run Tryd.prog (putH w g a' b' (.slice o n c)) = .ok (.agg #[.string a', .string b', .slice o n c]) (putH w g a' b' (.slice o n c)) := (h.put a' b' _ rfl).1.load

/-- ContainsAny at the two bytes behind a line -/
theorem any_long : ∀ l : List UInt8, decide (0 ≤ Lib.indexAny l [13, 10]) = Mh.broken l
  | [] => rfl
  | b :: l => by
    have ih := any_long l
    have hge := Lib.indexAny_ge [13, 10] l
    unfold Lib.indexAny
    unfold Mh.broken at ih ⊢
    rw [List.any_cons, is_broken]
    by_cases h : (b == 13 || b == 10) = true
    · rw [if_pos h, h]; rfl
    · rw [if_neg h, show (b == 13 || b == 10) = false by simpa using h, Bool.false_or, ← ih]
      split
      · rename_i h1; rw [beq_iff_eq] at h1; rw [h1]
      · rename_i h1
        have h2 : ¬ Lib.indexAny l [13, 10] = -1 := fun e => h1 (beq_iff_eq.2 e)
        rw [decide_eq_true (by omega), decide_eq_true (by omega)]
/-- lines in memory -/
def LinesAt (w : World) (g : Nat) (cs : List (List UInt8)) : Prop := g < w.heap.size ∧ ∀ j p, cs[j]? = some p → w.cell? ⟨g, j, none⟩ = some (.string (mk p))
theorem LinesAt.below {w w' : World} {g : Nat} {cs : List (List UInt8)} (h : LinesAt w g cs) (b : Below w.heap.size w w') : LinesAt w' g cs :=
  ⟨Nat.lt_of_lt_of_le h.1 b.size, fun j p hj => cell_below (h.2 j p hj) h.1 b⟩
theorem split_s (sep s : ByteArray) (m : Int) (w : World) (hs : s.size ≤ 4294960000) (h1 : 1 ≤ sep.size) (hm : w.cell? ⟨2, 0, none⟩ = some (.int .i64 m)) :
    Calls Tryd.prog 54 #[.string s, .string sep] w fun e w' =>
      e = .returned (.slice (some ⟨w.heap.size, 0, none⟩) (Mh.pc sep.data.toList s.data.toList).length (Mh.pc sep.data.toList s.data.toList).length) ∧ w' = w.alloc (.cells (cellsS (Mh.pc sep.data.toList s.data.toList)).toArray 9) := by
  have h := Tryd.strings_Split s sep m w (by omega) hm h1
  have hc : Lib.countB s sep = Lib.count s.data.toList sep.data.toList := rfl
  have hd := Lib.splitB_data sep 0 (Lib.countB s sep) s
  rw [hc, show Lib.splitK sep.data.toList 0 (Lib.count s.data.toList sep.data.toList) s.data.toList = Mh.pc sep.data.toList s.data.toList from rfl] at hd
  have hl := Lib.splitB_all sep h1 0 _ s rfl
  rw [hc] at hl h
  have h1 : Lib.count s.data.toList sep.data.toList + 1 = (Mh.pc sep.data.toList s.data.toList).length := by rw [← hl, ← hd, List.length_map]
  have h2 : (Lib.splitB sep 0 (Lib.count s.data.toList sep.data.toList) s).map Value.string = cellsS (Mh.pc sep.data.toList s.data.toList) := by
    rw [← hd, cellsS, List.map_map]
    refine List.map_congr_left fun x _ => ?_
    show Value.string x = Value.string (mk x.data.toList)
    rw [mk_data]
  rw [h1, h2] at h
  exact h
end Go.Proofs.YtmgealcolofomaaDoor
