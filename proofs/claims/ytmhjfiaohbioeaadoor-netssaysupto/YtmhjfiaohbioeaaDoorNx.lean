/- A variable that holds a net. -/
import Derived.Test.YtmhjfiaohbioeaaDoorKc
import Derived.Laws.ResultCell
namespace Go.Proofs.YtmhjfiaohbioeaaDoor
open Go.RowKit Kb
set_option linter.unusedVariables false
set_option maxRecDepth 20000

theorem results_ct {fn : Func} {p u : Tmp} {ty : TypeId} (h : fn.results = #[.cell p ty, .tmp u]) (tmps : Array Value) (w : World) (g : Nat) (cs : Array Value)
    (hp : tmps.getD p undef = .pointer (some ⟨g, 0, none⟩)) (hl : (loadVar ty ⟨g, 0, none⟩).run Tryd.prog w = .ok (.agg cs) w) (x : Value) (hx : tmps.getD u undef = x) :
    (results fn tmps).run Tryd.prog w = .ok (.tuple #[.agg cs, x]) w := by
  rw [results_cell_tmp h, hp, hx]
  simp [asAddr, hl]
theorem own_one' {w : World} {B e size g : Nat} {xs : List Value} (h : w.ownsRow B e size (.slice (some ⟨g, 0, none⟩) 1 1) 1 xs) : ∃ fr, w.heap[g]? = some (.cells xs.toArray e fr) := by
  rcases h.2 with ⟨h0, _⟩ | ⟨g', cap, cur, h0, h1, h2, h3, h4, h5, h6⟩
  · cases h0
  · cases h0
    have : cur = xs.toArray := by
      rw [← h6, List.take_of_length_le (by simp; omega)]
    rw [← this]; exact ⟨_, h2⟩
def cellsN (x y : Int) : List Value := [.int .u32 x, .int .i64 y]
def NX (w : World) (base gb : Nat) (x y : Int) : Prop := w.ownsRow base 24 2 (.slice (some ⟨gb, 0, none⟩) 1 1) 1 (cellsN x y)
section
variable {w w' : World} {base gb : Nat} {x y : Int}
theorem NX.cells (h : NX w base gb x y) : w.cell? ⟨gb, 0, none⟩ = some (.int .u32 x) ∧ w.cell? ⟨gb, 1, none⟩ = some (.int .i64 y) :=
  ⟨World.ownsRow.cellAt h 0 (by omega), World.ownsRow.cellAt h 1 (by omega)⟩
theorem NX.frozen (h : NX w base gb x y) : w.frozen? ⟨gb, 0, none⟩ = false ∧ w.frozen? ⟨gb, 1, none⟩ = false :=
  ⟨World.ownsRow.frozenAt h 0, World.ownsRow.frozenAt h 1⟩
theorem NX.lt (h : NX w base gb x y) : base ≤ gb ∧ gb < w.heap.size := World.ownsRow.lt h gb rfl
theorem NX.below (h : NX w base gb x y) (b : Below w.heap.size w w') : NX w' base gb x y := own_below h b
theorem NX.kept (h : NX w base gb x y) {row : Option Nat} (g : w.grownBy w' row) (hne : row ≠ some gb) : NX w' base gb x y := World.ownsRow.kept h g (.inr (fun e => hne (by rw [← e]; rfl)))
theorem NX.new (W : World) (hB : base ≤ W.heap.size) (x y : Int) : NX (W.alloc (.cells #[.int .u32 x, .int .i64 y] 24)) base W.heap.size x y :=
  World.ownsRow_lit (e := 24) (size := 2) (base := base) W #[.int .u32 x, .int .i64 y] 1 hB (by unfold maxLen; omega) rfl
end
/-- the world behind a store -/
def put2 (w : World) (gb : Nat) (x y : Int) : World := (w.setCell ⟨gb, 0, none⟩ (.int .u32 x)).setCell ⟨gb, 1, none⟩ (.int .i64 y)
theorem NX.put {w : World} {base gb : Nat} {x y : Int} (h : NX w base gb x y) (x' y' : Int) : NX (put2 w gb x' y') base gb x' y' ∧ w.grownBy (put2 w gb x' y') (some gb) := by
  obtain ⟨v0, m0⟩ := World.ownsRow.stored h 0 (.int .u32 x')
  obtain ⟨v1, m1⟩ := v0.stored 1 (.int .i64 y')
  exact ⟨v1, m0.trans m1⟩
theorem NX.load {w : World} {base gb : Nat} {x y : Int} (h : NX w base gb x y) : (loadVar 24 ⟨gb, 0, none⟩).run Tryd.prog w = .ok (.agg #[.int .u32 x, .int .i64 y]) w := by
  obtain ⟨fr, hh⟩ := own_one' h
  exact run_loadVar_row w gb 24 24 #[.int .u32 x, .int .i64 y] fr _ hh Tryd.underlying24 rfl (by kernel_rfl)
theorem NX.loaded {w : World} {base gb : Nat} {x y : Int} (h : NX w base gb x y) (x' y' : Int) : (loadVar 24 ⟨gb, 0, none⟩).run Tryd.prog (put2 w gb x' y') = .ok (.agg #[.int .u32 x', .int .i64 y']) (put2 w gb x' y') := (h.put x' y').1.load
theorem NX.loadedD {w : World} {base gb : Nat} {x y : Int} (h : NX w base gb x y) (x' y' : Int) : (loadVar 24 ⟨gb, 0, none⟩).run Tryd.prog (put2 w gb x' y').drew = .ok (.agg #[.int .u32 x', .int .i64 y']) (put2 w gb x' y').drew := ((h.put x' y').1.below (Below.refl _ _).drew).load
end Go.Proofs.YtmhjfiaohbioeaaDoor
