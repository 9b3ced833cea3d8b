/- Walks: a net printed (the program's). -/
import Derived.Test.YtloidooaebhliaaDoorNc
import Derived.OwnWalk
namespace Go.Proofs.YtloidooaebhliaaDoor
open Go.RowKit Kb
set_option linter.unusedVariables false
set_option maxRecDepth 20000

theorem infoB : (Tryd.prog.info? 5).map (fun i => (i.zero, i.size, i.bytes)) = some (some (.int .u8 0), 1, 1) := by kernel_rfl
theorem wrap_u64 (n : Int) : IntKind.u64.wrap n = n % 18446744073709551616 := by simp [IntKind.wrap, IntKind.bits, IntKind.signed]
namespace Nt
open Lib (decDigits)
/-- the first k numbers of an address, as a text -/
def pre (a : Nat) : Nat → List UInt8
  | 0 => []
  | 1 => decDigits (a / 16777216)
  | 2 => decDigits (a / 16777216) ++ 46 :: decDigits (a / 65536 % 256)
  | 3 => decDigits (a / 16777216) ++ 46 :: (decDigits (a / 65536 % 256) ++ 46 :: decDigits (a / 256 % 256))
  | _ => txA a
theorem pre_len {a : Nat} (ha : a < 4294967296) (k : Nat) : (pre a k).length ≤ 15 := by
  have h := txA_len ha
  unfold txA at h
  unfold pre
  split
  · simp
  · simp only [List.length_append, List.length_cons] at h; omega
  · simp only [List.length_append, List.length_cons] at h ⊢; omega
  · simp only [List.length_append, List.length_cons] at h ⊢; omega
  · exact txA_len ha
end Nt
theorem and_255 (x : Nat) (h : x < 4294967296) : bits .and .u32 (x : Int) 255 = ((x % 256 : Nat) : Int) := by
  have := u32_and_nat x 255 h (by decide)
  rw [show x &&& 255 = x % 256 from Nat.and_two_pow_sub_one_eq_mod x 8] at this
  exact this
end Go.Proofs.YtloidooaebhliaaDoor
