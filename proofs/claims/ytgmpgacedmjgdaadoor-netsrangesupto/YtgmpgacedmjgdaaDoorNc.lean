/- Walks: addresses, nets read (the program's). -/
import Derived.Test.YtgmpgacedmjgdaaDoorNb
import Derived.Test.YtgmpgacedmjgdaaDoorPs
import Derived.Test.YtgmpgacedmjgdaaDoorNx
namespace Go.Proofs.YtgmpgacedmjgdaaDoor
open Go.RowKit Kb
set_option linter.unusedVariables false
set_option maxRecDepth 20000

theorem cell_lt {w : World} {a : Addr} {v : Value} (h : w.cell? a = some v) : a.block < w.heap.size := by
  unfold World.cell? at h
  split at h
  · rename_i hb; exact (Array.getElem?_eq_some_iff.1 hb).1
  · cases h
theorem szM (l : List UInt8) : (mk l).size = l.length := by simp [mk, ByteArray.size]
/-- the library's word for the longest needle lies where it lay -/
def MX (m : Int) (w : World) : Prop := w.cell? ⟨3, 0, none⟩ = some (.int .i64 m)
theorem MX.below {m : Int} {w w' : World} (h : MX m w) (b : Below w.heap.size w w') : MX m w' := cell_below h (cell_lt (a := ⟨3, 0, none⟩) h) b
theorem cut_any (c : UInt8) (s : ByteArray) (m : Int) (w : World) (hs : s.size < 4294967281) (hm : MX m w) (k : List UInt8 × List UInt8 × Bool) (hk : Lib.cut s.data.toList [c] = k) :
    Calls Tryd.prog 42 #[.string s, .string ⟨#[c]⟩] w fun e w' => e = .returned (.tuple #[.string (mk k.1), .string (mk k.2.1), .bool k.2.2]) ∧ Below w.heap.size w w' := by
  refine (Tryd.strings_Cut s ⟨#[c]⟩ m w hs hm).mono ?_
  rintro e w' ⟨rfl, n, rfl⟩
  subst hk
  exact ⟨rfl, Go.below_drewN (Below.refl _ _) _⟩

namespace Nt
/-- what is left of an address: k numbers are read -/
def go (k acc : Nat) (l : List UInt8) : Option Nat := if k = 4 then some acc else if (Cs.cut 46 l).length = 4 - k then adrL acc (Cs.cut 46 l) else none
theorem go_zero (l : List UInt8) : go 0 0 l = adr l := rfl
theorem go_hit {k acc : Nat} {u v : List UInt8} (hk : k < 3) (hu : (46 : UInt8) ∉ u) : go k acc (u ++ 46 :: v) = if sm 255 u < 0 then none else go (k + 1) (acc * 256 + (sm 255 u).toNat) v := by
  unfold go
  rw [if_neg (by omega), Cs.cut_hit v hu, List.length_cons]
  by_cases h : (Cs.cut 46 v).length = 4 - (k + 1)
  · rw [if_pos (show (Cs.cut 46 v).length + 1 = 4 - k by omega), if_neg (show ¬ k + 1 = 4 by omega), if_pos h, adrL]
  · rw [if_neg (show ¬ (Cs.cut 46 v).length + 1 = 4 - k by omega), if_neg (show ¬ k + 1 = 4 by omega), if_neg h]; split <;> rfl
theorem go_hit3 {acc : Nat} {u v : List UInt8} (hu : (46 : UInt8) ∉ u) : go 3 acc (u ++ 46 :: v) = none := by
  unfold go
  rw [if_neg (by omega), Cs.cut_hit v hu, List.length_cons, if_neg]
  have := List.length_pos_iff.2 (Cs.cut_ne 46 v)
  omega
theorem go_miss {k acc : Nat} {u : List UInt8} (hk : k < 3) (hu : (46 : UInt8) ∉ u) : go k acc u = none := by
  unfold go
  rw [if_neg (by omega), Cs.cut_no hu, if_neg (by show ¬ 1 = 4 - k; omega)]
theorem go_miss3 {acc : Nat} {u : List UInt8} (hu : (46 : UInt8) ∉ u) (v : List UInt8) : go 3 acc u = if sm 255 u < 0 then none else go 4 (acc * 256 + (sm 255 u).toNat) v := by
  unfold go
  rw [if_neg (by omega), Cs.cut_no hu, if_pos (show [u].length = 4 - 3 from rfl), if_pos rfl, adrL, adrL]
end Nt
theorem pow256 (k : Nat) (h : k < 4) : 256 ^ k * 256 ≤ 4294967296 ∧ 256 ^ (k + 1) = 256 ^ k * 256 := by
  have : ∀ k : Fin 4, 256 ^ k.1 * 256 ≤ 4294967296 := by decide
  exact ⟨this ⟨k, h⟩, Nat.pow_succ _ _⟩
theorem or_256 (acc n : Nat) (h : acc < 16777216) (hn : n ≤ 255) : bits .or .u32 ((acc : Int) * 256) (n : Int) = ((acc * 256 + n : Nat) : Int) := by
  have := u32_or_nat (acc * 256) n (by omega) (by omega)
  rw [Go.nat_join 8 (acc * 256) n (by omega) (by omega)] at this
  rw [← this]; norm_cast
theorem ret_ub {a c : Int} {b d : Bool} (h : a = c) (g : b = d) : Ending.returned (.tuple #[.int .u32 a, .bool b]) = .returned (.tuple #[.int .u32 c, .bool d]) := by rw [h, g]
/-- a pair of a net and an error -/
def netV (a b : Int) : Value := .agg #[.int .u32 a, .int .i64 b]
theorem ret_ne {a b c a' b' c' : Int} (h : a = a') (g : b = b') (k : c = c') : Ending.returned (.tuple #[.agg #[.int .u32 a, .int .i64 b], .int .i64 c]) = .returned (.tuple #[.agg #[.int .u32 a', .int .i64 b'], .int .i64 c']) := by rw [h, g, k]
end Go.Proofs.YtgmpgacedmjgdaaDoor
