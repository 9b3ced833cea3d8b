/- A world that holds the library's tables of numbers as their initialisers lay them. -/
import Derived.Test.YtgmpgacedmjgdaaDoorRows
import Derived.Test.YtgmpgacedmjgdaaDoorFi
import Derived.Test.YtgmpgacedmjgdaaDoorShelf
import Derived.Lib.LaidTab
import Derived.Stop.LaidErr
import Derived.Lib.LaidU8
import Derived.Deep.DeepHandedRow
namespace Go.Proofs.YtgmpgacedmjgdaaDoor
open Go.Lib Go.RowKit Kb

def intCells (d : DataW Unit) : Array Value := match d with
  | .agg l => (l.map fun x => match x with | .lit (.int k z) => Value.int k z | _ => Value.bool false).toArray
  | _ => #[]
def ints (d : DataW Unit) : List Int := match d with
  | .agg l => l.map fun x => match x with | .lit (.int _ z) => z | _ => 0
  | _ => []
/-- a world with the three tables as their initialisers lay them -/
def laidIn (w : World) : World :=
  { w with heap := ((w.heap.modify 4 fun
      | .cells _ t frozen => .cells (intCells Rows.laid_math_bits_deBruijn32tab) t frozen
      | o => o).modify 5 fun
      | .cells _ t frozen => .cells (intCells Rows.laid_math_bits_deBruijn64tab) t frozen
      | o => o).modify 0 fun
      | .cells _ t frozen => .cells (intCells Rows.laid_internal_strconv_uint64pow10) t frozen
      | o => o }

theorem d64_is : (Rows.laid_math_bits_deBruijn64tab : DataW Unit) = Lib.tabData .u8 (ints Rows.laid_math_bits_deBruijn64tab) := by kernel_rfl
theorem db_of {W : World} (hL : laidMet Tryd.prog [("math/bits.deBruijn32tab", Rows.laid_math_bits_deBruijn32tab), ("math/bits.deBruijn64tab", Rows.laid_math_bits_deBruijn64tab), ("internal/strconv.uint64pow10", Rows.laid_internal_strconv_uint64pow10)] W) :
    W.cell? ⟨5, 15, none⟩ = some (.int .u8 4) := by
  have h1 := hL.tail
  rw [d64_is] at h1
  have h3 := Lib.tabIs_of_head (g := 5) (t := 118) (e := 5) (n := 64) (by kernel_rfl) (by kernel_rfl) Tryd.underlying118 Tryd.underlying5 (by kernel_rfl) (by kernel_rfl) h1
  exact (h3.cell (g := 5) (by kernel_rfl) 15 (by decide)).trans (by kernel_rfl)

theorem one_int (w : World) (a : Int) (t : TypeId) (ha : -9223372036854775808 ≤ a ∧ a ≤ 9223372036854775807) :
    Ints (w.alloc (.cells #[.int .i64 a] t)) (.slice (some ⟨w.heap.size, 0, none⟩) 1 1) [a] := by
  refine ⟨⟨_, 1, rfl, Nat.le_refl _⟩, by show 1 ≤ _; omega, ?_, .inr ⟨_, _, rfl⟩, fun _ => ⟨w.heap.size, 0, 1, rfl, by simp, ?_⟩⟩
  · intro z hz
    simp at hz
    rw [hz]; exact ha
  · intro j z hj
    rw [Nat.zero_add, World.cell?_alloc_new w _ _ j]
    match j, hj with
    | 0, hj => simpa using hj
end Go.Proofs.YtgmpgacedmjgdaaDoor
