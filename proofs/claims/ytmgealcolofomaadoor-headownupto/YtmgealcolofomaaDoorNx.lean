/- A variable that holds a net. -/
import Derived.Test.YtmgealcolofomaaDoorKc
import Derived.Laws.ResultCell
namespace Go.Proofs.YtmgealcolofomaaDoor
open Go.RowKit Kb
set_option linter.unusedVariables false
set_option maxRecDepth 20000

theorem results_ct {fn : Func} {p u : Tmp} {ty : TypeId} (h : fn.results = #[.cell p ty, .tmp u]) (tmps : Array Value) (w : World) (g : Nat) (cs : Array Value)
    (hp : tmps.getD p undef = .pointer (some ⟨g, 0, none⟩)) (hl : (loadVar ty ⟨g, 0, none⟩).run Tryd.prog w = .ok (.agg cs) w) (x : Value) (hx : tmps.getD u undef = x) :
    (results fn tmps).run Tryd.prog w = .ok (.tuple #[.agg cs, x]) w := by
  rw [results_cell_tmp h, hp, hx]
  simp [asAddr, hl]
theorem own_one' {w : World} {B e size g : Nat} {xs : List Value} (h : w.ownsRow B e size (.slice (some ⟨g, 0, none⟩) 1 1) 1 xs) : ∃ fr, w.heap[g]? = some (.cells xs.toArray e fr) := by
  rcases h.2 with ⟨h0, _⟩ | ⟨g', cap, cur, h0, h1, h2, h3, h4, h5, h6⟩
  · cases h0
  · cases h0
    have : cur = xs.toArray := by
      rw [← h6, List.take_of_length_le (by simp; omega)]
    rw [← this]; exact ⟨_, h2⟩
def cellsN (x y : Int) : List Value := [.int .u32 x, .int .i64 y]
section
variable {w w' : World} {base gb : Nat} {x y : Int}
end
/-- the world behind a store -/
def put2 (w : World) (gb : Nat) (x y : Int) : World := (w.setCell ⟨gb, 0, none⟩ (.int .u32 x)).setCell ⟨gb, 1, none⟩ (.int .i64 y)
end Go.Proofs.YtmgealcolofomaaDoor
