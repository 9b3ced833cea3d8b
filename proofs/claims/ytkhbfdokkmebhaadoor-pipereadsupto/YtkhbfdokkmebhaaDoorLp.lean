/- A world that holds the tables of unicode/utf8 and the words of pipes as their initialisers lay them. -/
import Derived.Test.YtkhbfdokkmebhaaDoorRows
import Derived.Lib.LaidTab
import Derived.Lib.LaidU8
import Derived.Deep.DeepHandedRow
namespace Go.Proofs.YtkhbfdokkmebhaaDoor
open Go.Lib

def strCells (d : DataW Unit) : Array Value := match d with
  | .agg l => (l.map fun x => match x with | .lit (.string b) => Value.string ⟨b.toArray⟩ | _ => Value.bool false).toArray
  | _ => #[]
def laidIn (w : World) : World :=
  { w with heap := (((w.heap.modify 3 fun
      | .cells _ t frozen => .cells (Lib.firstTab.map fun z => Value.int .u8 z).toArray t frozen
      | o => o).modify 4 fun
      | .cells _ t frozen => .cells ((List.range 16).flatMap fun i => [Value.int .u8 (Lib.accLo i), Value.int .u8 (Lib.accHi i)]).toArray t frozen
      | o => o).modify 1 fun
      | .cells _ t frozen => .cells (strCells Rows.laid_gatewicket_pipe_words) t frozen
      | o => o).modify 0 fun
      | .cells _ t frozen => .cells (strCells Rows.laid_gatewicket_wickref_pipeWords) t frozen
      | o => o }
end Go.Proofs.YtkhbfdokkmebhaaDoor
