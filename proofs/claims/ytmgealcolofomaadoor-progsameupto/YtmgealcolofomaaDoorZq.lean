/- A world that holds the library's table as its initialiser lays it. -/
import Derived.Test.YtmgealcolofomaaDoorRows
import Derived.Test.YtmgealcolofomaaDoorZd
import Derived.Lib.LaidTab
import Derived.Stop.LaidErr
import Derived.Lib.LaidU8
import Derived.Deep.DeepHandedRow
namespace Go.Proofs.YtmgealcolofomaaDoor
open Go.Lib Go.RowKit Kb

def intCells (d : DataW Unit) : Array Value := match d with
  | .agg l => (l.map fun x => match x with | .lit (.int k z) => Value.int k z | _ => Value.bool false).toArray
  | _ => #[]
def ints (d : DataW Unit) : List Int := match d with
  | .agg l => l.map fun x => match x with | .lit (.int _ z) => z | _ => 0
  | _ => []
def laidIn (w : World) : World :=
  { w with heap := w.heap.modify 0 fun
      | .cells _ t frozen => .cells (intCells Rows.laid_math_bits_deBruijn64tab) t frozen
      | o => o }
theorem d64_is : (Rows.laid_math_bits_deBruijn64tab : DataW Unit) = Lib.tabData .u8 (ints Rows.laid_math_bits_deBruijn64tab) := by kernel_rfl
theorem d64_same : ∀ j ∈ List.range 64, (ints Rows.laid_math_bits_deBruijn64tab).getD j 0 = ((Lib.deBruijn64tab.getD j 0 : Nat) : Int) := by decide +kernel
theorem tz_of {W : World} (hL : laidMet Tryd.prog [("math/bits.deBruijn64tab", Rows.laid_math_bits_deBruijn64tab)] W) : TZ W := by
  intro j hj
  have h1 := hL
  rw [d64_is] at h1
  have h3 := Lib.tabIs_of_head (g := 0) (t := 157) (e := 5) (n := 64) (by kernel_rfl) (by kernel_rfl) Tryd.underlying157 Tryd.underlying5 (by kernel_rfl) (by kernel_rfl) h1
  have hj64 : j < 64 := hj
  have hlen : (ints Rows.laid_math_bits_deBruijn64tab).length = 64 := by kernel_rfl
  exact (h3.cell (g := 0) (by kernel_rfl) j (by omega)).trans (by rw [d64_same j (List.mem_range.2 hj64)])
end Go.Proofs.YtmgealcolofomaaDoor
