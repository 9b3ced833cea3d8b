/- A variable that holds how long a body is. -/
import Derived.Test.YtmgealcolofomaaDoorKc
import Derived.Laws.ResultCell
namespace Go.Proofs.YtmgealcolofomaaDoor
open Go.RowKit Kb
set_option linter.unusedVariables false
set_option maxRecDepth 20000

theorem results_cb {fn : Func} {p u : Tmp} {ty : TypeId} (h : fn.results = #[.cell p ty, .tmp u]) (tmps : Array Value) (w : World) (g : Nat) (cs : Array Value)
    (hp : tmps.getD p undef = .pointer (some ⟨g, 0, none⟩)) (hl : (loadVar ty ⟨g, 0, none⟩).run Tryd.prog w = .ok (.agg cs) w) (x : Value) (hx : tmps.getD u undef = x) :
    (results fn tmps).run Tryd.prog w = .ok (.tuple #[.agg cs, x]) w := by
  rw [results_cell_tmp h, hp, hx]
  simp [asAddr, hl]
theorem own_one2 {w : World} {B e size g : Nat} {xs : List Value} (h : w.ownsRow B e size (.slice (some ⟨g, 0, none⟩) 1 1) 1 xs) : ∃ fr, w.heap[g]? = some (.cells xs.toArray e fr) := by
  rcases h.2 with ⟨h0, _⟩ | ⟨g', cap, cur, h0, h1, h2, h3, h4, h5, h6⟩
  · cases h0
  · cases h0
    have : cur = xs.toArray := by
      rw [← h6, List.take_of_length_le (by simp; omega)]
    rw [← this]; exact ⟨_, h2⟩
def cellsB2 (x y : Int) : List Value := [.int .i64 x, .int .i64 y]
def BX (w : World) (base gb : Nat) (x y : Int) : Prop := w.ownsRow base 52 2 (.slice (some ⟨gb, 0, none⟩) 1 1) 1 (cellsB2 x y)
section
variable {w w' : World} {base gb : Nat} {x y : Int}
theorem BX.cells (h : BX w base gb x y) : w.cell? ⟨gb, 0, none⟩ = some (.int .i64 x) ∧ w.cell? ⟨gb, 1, none⟩ = some (.int .i64 y) :=
  ⟨World.ownsRow.cellAt h 0 (by omega), World.ownsRow.cellAt h 1 (by omega)⟩
theorem BX.frozen (h : BX w base gb x y) : w.frozen? ⟨gb, 0, none⟩ = false ∧ w.frozen? ⟨gb, 1, none⟩ = false :=
  ⟨World.ownsRow.frozenAt h 0, World.ownsRow.frozenAt h 1⟩
theorem BX.lt (h : BX w base gb x y) : base ≤ gb ∧ gb < w.heap.size := World.ownsRow.lt h gb rfl
theorem BX.below (h : BX w base gb x y) (b : Below w.heap.size w w') : BX w' base gb x y := own_below h b
theorem BX.kept (h : BX w base gb x y) {row : Option Nat} (g : w.grownBy w' row) (hne : row ≠ some gb) : BX w' base gb x y := World.ownsRow.kept h g (.inr (fun e => hne (by rw [← e]; rfl)))
theorem BX.new (W : World) (hB : base ≤ W.heap.size) (x y : Int) : BX (W.alloc (.cells #[.int .i64 x, .int .i64 y] 52)) base W.heap.size x y :=
  World.ownsRow_lit (e := 52) (size := 2) (base := base) W #[.int .i64 x, .int .i64 y] 1 hB (by unfold maxLen; omega) rfl
end
/-- the world behind a store -/
def putB (w : World) (gb : Nat) (x y : Int) : World := (w.setCell ⟨gb, 0, none⟩ (.int .i64 x)).setCell ⟨gb, 1, none⟩ (.int .i64 y)
theorem BX.put {w : World} {base gb : Nat} {x y : Int} (h : BX w base gb x y) (x' y' : Int) : BX (putB w gb x' y') base gb x' y' ∧ w.grownBy (putB w gb x' y') (some gb) := by
  obtain ⟨v0, m0⟩ := World.ownsRow.stored h 0 (.int .i64 x')
  obtain ⟨v1, m1⟩ := v0.stored 1 (.int .i64 y')
  exact ⟨v1, m0.trans m1⟩
theorem BX.load {w : World} {base gb : Nat} {x y : Int} (h : BX w base gb x y) : (loadVar 52 ⟨gb, 0, none⟩).run Tryd.prog w = .ok (.agg #[.int .i64 x, .int .i64 y]) w := by
  obtain ⟨fr, hh⟩ := own_one2 h
  exact run_loadVar_row w gb 52 52 #[.int .i64 x, .int .i64 y] fr _ hh Tryd.underlying52 rfl (by kernel_rfl)
theorem BX.loaded {w : World} {base gb : Nat} {x y : Int} (h : BX w base gb x y) (x' y' : Int) : (loadVar 52 ⟨gb, 0, none⟩).run Tryd.prog (putB w gb x' y') = .ok (.agg #[.int .i64 x', .int .i64 y']) (putB w gb x' y') := (h.put x' y').1.load
theorem BX.loadedD {w : World} {base gb : Nat} {x y : Int} (h : BX w base gb x y) (x' y' : Int) : (loadVar 52 ⟨gb, 0, none⟩).run Tryd.prog (putB w gb x' y').drew = .ok (.agg #[.int .i64 x', .int .i64 y']) (putB w gb x' y').drew := ((h.put x' y').1.below (Below.refl _ _).drew).load
end Go.Proofs.YtmgealcolofomaaDoor
