/- A world that holds the library's tables as their initialisers lay them; deBruijn's table in memory. -/
import Derived.Test.YtjpclmkekmkddaaGreatDoorRows
import Derived.Test.YtjpclmkekmkddaaGreatDoorFi
import Derived.Test.YtjpclmkekmkddaaGreatDoorShelf
import Derived.Lib.LaidTab
import Derived.Stop.LaidErr
import Derived.Lib.LaidU8
import Derived.Deep.DeepHandedRow
namespace Go.Proofs.YtjpclmkekmkddaaGreatDoor
open Go.Lib Go.RowKit Kb

def intCells (d : DataW Unit) : Array Value := match d with
  | .agg l => (l.map fun x => match x with | .lit (.int k z) => Value.int k z | _ => Value.bool false).toArray
  | _ => #[]
def ints (d : DataW Unit) : List Int := match d with
  | .agg l => l.map fun x => match x with | .lit (.int _ z) => z | _ => 0
  | _ => []
def laidIn (w : World) : World :=
  { w with heap := ((((w.heap.modify 4 fun
      | .cells _ t frozen => .cells (Lib.firstTab.map fun z => Value.int .u8 z).toArray t frozen
      | o => o).modify 5 fun
      | .cells _ t frozen => .cells ((List.range 16).flatMap fun i => [Value.int .u8 (Lib.accLo i), Value.int .u8 (Lib.accHi i)]).toArray t frozen
      | o => o).modify 2 fun
      | .cells _ t frozen => .cells (intCells Rows.laid_math_bits_deBruijn32tab) t frozen
      | o => o).modify 3 fun
      | .cells _ t frozen => .cells (intCells Rows.laid_math_bits_deBruijn64tab) t frozen
      | o => o).modify 1 fun
      | .cells _ t frozen => .cells (intCells Rows.laid_internal_strconv_uint64pow10) t frozen
      | o => o }
theorem d64_is : (Rows.laid_math_bits_deBruijn64tab : DataW Unit) = Lib.tabData .u8 (ints Rows.laid_math_bits_deBruijn64tab) := by kernel_rfl
theorem db_of {W : World} {rest : List (String × DataW Unit)} (hL : laidMet Tryz.prog (("math/bits.deBruijn32tab", Rows.laid_math_bits_deBruijn32tab) :: ("math/bits.deBruijn64tab", Rows.laid_math_bits_deBruijn64tab) :: rest) W) :
    W.cell? ⟨3, 15, none⟩ = some (.int .u8 4) := by
  have h1 := hL.tail
  rw [d64_is] at h1
  have h3 := Lib.tabIs_of_head (g := 3) (t := 164) (e := 5) (n := 64) (by kernel_rfl) (by kernel_rfl) Tryz.underlying164 Tryz.underlying5 (by kernel_rfl) (by kernel_rfl) h1
  exact (h3.cell (g := 3) (by kernel_rfl) 15 (by decide)).trans (by kernel_rfl)
end Go.Proofs.YtjpclmkekmkddaaGreatDoor
