/- Walks of the document's answers on codes: two, UrlEncode, UrlDecode, HexEncode, HexDecode. -/
import Derived.Test.YtkhbfdokkmebhaaGreatDoorRi
import Derived.Test.YtkhbfdokkmebhaaGreatDoorWg
namespace Go.Proofs.YtkhbfdokkmebhaaGreatDoor
open Go.RowKit Kb
set_option linter.unusedVariables false
set_option maxRecDepth 20000

/-- two digits of a byte, out of sixteen -/
def twoL (d : ByteArray) (b : UInt8) : List UInt8 := [d.data.toList.getD (b.toNat / 16) 0, d.data.toList.getD (b.toNat % 16) 0]

theorem two_s (b : UInt8) : twoL ⟨#[48, 49, 50, 51, 52, 53, 54, 55, 56, 57, 97, 98, 99, 100, 101, 102]⟩ b = Cd.h1 b := by
  have := Kb.u8_all (p := fun b => twoL ⟨#[48, 49, 50, 51, 52, 53, 54, 55, 56, 57, 97, 98, 99, 100, 101, 102]⟩ b == Cd.h1 b) (by decide +kernel) b
  simpa using this
theorem two_c (b : UInt8) : twoL ⟨#[48, 49, 50, 51, 52, 53, 54, 55, 56, 57, 65, 66, 67, 68, 69, 70]⟩ b = [Cd.hX (b / 16), Cd.hX (b % 16)] := by
  have := Kb.u8_all (p := fun b => twoL ⟨#[48, 49, 50, 51, 52, 53, 54, 55, 56, 57, 65, 66, 67, 68, 69, 70]⟩ b == [Cd.hX (b / 16), Cd.hX (b % 16)]) (by decide +kernel) b
  simpa using this
theorem in_unres (c : UInt8) (b : Bool) (s : ByteArray) (w : World) (hs : s.size ≤ maxLen) (hb : Cd.unres c = b) (h : (List.range 256).all (fun n => has s.data.toList (UInt8.ofNat n) == Cd.unres (UInt8.ofNat n)) = true) :
    Calls Tryz.prog 43 #[.int .u8 c.toNat, .string s] w fun e w' => e = .returned (.bool b) ∧ w' = w := by
  have := in_any c s w hs
  have h2 := Kb.u8_all (p := fun c => has s.data.toList c == Cd.unres c) h c
  simp only [beq_iff_eq] at h2
  rwa [h2, hb] at this
theorem next_str {f : UInt8 → List UInt8} {s o x : ByteArray} {k : Nat} (h : k < s.size) (ho : o.data.toList = Fm f s k) (hx : x.data.toList = f s[k]) : (o ++ x).data.toList = Fm f s (k + 1) := by
  rw [cat_data, ho, hx, Fm_succ f s k h]

end Go.Proofs.YtkhbfdokkmebhaaGreatDoor
