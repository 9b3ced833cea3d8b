/- Walks of the document's Split, Pieces, Has at any text; its reader of heads. -/
import Derived.Test.YtmgealcolofomaaGreatDoorMm
import Derived.Test.YtmgealcolofomaaGreatDoorMg
namespace Go.Proofs.YtmgealcolofomaaGreatDoor
open Go.RowKit Kb
set_option linter.unusedVariables false
set_option maxRecDepth 20000
open Mh (Fl)

theorem find_zero (s t : List UInt8) : Fnd.find s t 0 = Lib.index s t := by
  unfold Fnd.find
  have := Lib.index_ge s t
  rw [show (max 0 0 : Int) = 0 from rfl, if_neg (by omega)]
  simp only [Int.toNat_zero, List.drop_zero, Int.zero_add]
  split <;> omega
theorem ret_ssb {a b c d : ByteArray} {p q : Bool} (h : a = b) (g : c = d) (k : p = q) : Ending.returned (.tuple #[.string a, .string c, .bool p]) = .returned (.tuple #[.string b, .string d, .bool q]) := by rw [h, g, k]
theorem cut_pc {t l : List UInt8} (ht : t ≠ []) : ((Lib.cut l t).2.2 = false ∧ Mh.pc t l = [(Lib.cut l t).1] ∧ (Lib.cut l t).1 = l) ∨ ((Lib.cut l t).2.2 = true ∧ Mh.pc t l = (Lib.cut l t).1 :: Mh.pc t (Lib.cut l t).2.1 ∧ (Lib.cut l t).2.1.length < l.length) := by
  rcases Lib.index_spec l t with ⟨h1, _⟩ | ⟨i, h1, h2, h3, _⟩
  · left
    unfold Lib.cut
    rw [h1, if_neg (by omega)]
    exact ⟨rfl, Mh.pc_miss h1, rfl⟩
  · right
    have hr := Lib.index_room l t (by omega)
    have hp := List.length_pos_iff.2 ht
    unfold Lib.cut
    rw [h1, if_pos (by omega), Int.toNat_natCast]
    refine ⟨rfl, Mh.pc_hit ht h1, ?_⟩
    rw [h1] at hr
    dsimp only
    rw [List.length_drop]; omega
end Go.Proofs.YtmgealcolofomaaGreatDoor
