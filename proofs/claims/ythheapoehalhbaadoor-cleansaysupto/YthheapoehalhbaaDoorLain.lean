/- A world that holds the two tables of unicode/utf8 as their initialisers lay them. -/
import Derived.Test.YthheapoehalhbaaDoorRows
import Derived.Lib.LaidTab
import Derived.Lib.LaidU8
import Derived.Deep.DeepHandedRow
namespace Go.Proofs.YthheapoehalhbaaDoor
open Go.Lib

def laidIn (w : World) : World :=
  { w with heap := (w.heap.modify 1 fun
      | .cells _ t frozen => .cells (Lib.firstTab.map fun z => Value.int .u8 z).toArray t frozen
      | o => o).modify 2 fun
      | .cells _ t frozen => .cells ((List.range 16).flatMap fun i => [Value.int .u8 (Lib.accLo i), Value.int .u8 (Lib.accHi i)]).toArray t frozen
      | o => o }
end Go.Proofs.YthheapoehalhbaaDoor
