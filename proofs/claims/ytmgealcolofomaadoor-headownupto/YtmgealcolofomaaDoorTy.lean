/- A variable that holds a head. -/
import Derived.Test.YtmgealcolofomaaDoorTx
import Derived.Test.YtmgealcolofomaaDoorMb
namespace Go.Proofs.YtmgealcolofomaaDoor
open Go.RowKit Kb
set_option linter.unusedVariables false
set_option maxRecDepth 20000

def HV (w : World) (base g : Nat) (a b : ByteArray) (v : Value) : Prop := w.ownsRow base 24 3 (.slice (some ⟨g, 0, none⟩) 1 1) 1 [.string a, .string b, v]
section
variable {w w' : World} {base g : Nat} {a b : ByteArray} {v : Value}
theorem HV.cells (h : HV w base g a b v) : w.cell? ⟨g, 0, none⟩ = some (.string a) ∧ w.cell? ⟨g, 1, none⟩ = some (.string b) ∧ w.cell? ⟨g, 2, none⟩ = some v :=
  ⟨World.ownsRow.cellAt h 0 (by omega), World.ownsRow.cellAt h 1 (by omega), World.ownsRow.cellAt h 2 (by omega)⟩
theorem HV.frozen (h : HV w base g a b v) : w.frozen? ⟨g, 0, none⟩ = false ∧ w.frozen? ⟨g, 1, none⟩ = false ∧ w.frozen? ⟨g, 2, none⟩ = false :=
  ⟨World.ownsRow.frozenAt h 0, World.ownsRow.frozenAt h 1, World.ownsRow.frozenAt h 2⟩
theorem HV.lt (h : HV w base g a b v) : base ≤ g ∧ g < w.heap.size := World.ownsRow.lt h g rfl
theorem HV.below (h : HV w base g a b v) (b' : Below w.heap.size w w') : HV w' base g a b v := own_below h b'
theorem HV.kept (h : HV w base g a b v) {row : Option Nat} (k : w.grownBy w' row) (hne : row ≠ some g) : HV w' base g a b v := World.ownsRow.kept h k (.inr (fun e => hne (by rw [← e]; rfl)))
theorem HV.new (W : World) (hB : base ≤ W.heap.size) (a b : ByteArray) (o : Option Addr) (n c : Nat) : HV (W.alloc (.cells #[.string a, .string b, .slice o n c] 24)) base W.heap.size a b (.slice o n c) :=
  World.ownsRow_lit (e := 24) (size := 3) (base := base) W #[.string a, .string b, .slice o n c] 1 hB (by unfold maxLen; omega) rfl
end
def putHV (w : World) (g : Nat) (a b : ByteArray) (v : Value) : World := ((w.setCell ⟨g, 0, none⟩ (.string a)).setCell ⟨g, 1, none⟩ (.string b)).setCell ⟨g, 2, none⟩ v
theorem HV.put {w : World} {base g : Nat} {a b : ByteArray} {v : Value} (h : HV w base g a b v) (a' b' : ByteArray) (v' : Value) (hv : v'.oneCell' = true) : HV (putHV w g a' b' v') base g a' b' v' ∧ w.grownBy (putHV w g a' b' v') (some g) := by
  obtain ⟨v0, m0⟩ := World.ownsRow.stored h 0 (.string a')
  obtain ⟨v1, m1⟩ := v0.stored 1 (.string b')
  obtain ⟨v2, m2⟩ := v1.stored 2 v'
  exact ⟨v2, (m0.trans m1).trans m2⟩
theorem HV.set2 {w : World} {base g : Nat} {a b : ByteArray} {v : Value} (h : HV w base g a b v) (v' : Value) : HV (w.setCell ⟨g, 2, none⟩ v') base g a b v' ∧ w.grownBy (w.setCell ⟨g, 2, none⟩ v') (some g) := World.ownsRow.stored h 2 v'
theorem HV.load {w : World} {base g : Nat} {a b : ByteArray} {o : Option Addr} {n c : Nat} (h : HV w base g a b (.slice o n c)) : (loadVar 24 ⟨g, 0, none⟩).run Tryd.prog w = .ok (.agg #[.string a, .string b, .slice o n c]) w := by
  obtain ⟨fr, hh⟩ := own_one2 h
  exact run_loadVar_row w g 24 24 #[.string a, .string b, .slice o n c] fr _ hh Tryd.underlying24 rfl (by kernel_rfl)
theorem HV.loaded {w : World} {base g : Nat} {a b : ByteArray} {v : Value} (h : HV w base g a b v) (a' b' : ByteArray) (o : Option Addr) (n c : Nat) : (loadVar 24 ⟨g, 0, none⟩).run Tryd.prog (putHV w g a' b' (.slice o n c)) = .ok (.agg #[.string a', .string b', .slice o n c]) (putHV w g a' b' (.slice o n c)) := (h.put a' b' _ rfl).1.load

end Go.Proofs.YtmgealcolofomaaDoor
