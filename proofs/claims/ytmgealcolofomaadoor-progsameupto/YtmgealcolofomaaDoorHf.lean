/- How the document writes bytes: char. -/
import Derived.Test.YtmgealcolofomaaDoorRi
import Derived.Test.YtmgealcolofomaaDoorKc
namespace Go.Proofs.YtmgealcolofomaaDoor
open Go.RowKit Kb
set_option linter.unusedVariables false
set_option maxRecDepth 20000

/-- two digits of a byte, out of sixteen -/
def twoH (d : ByteArray) (b : UInt8) : List UInt8 := [d.data.toList.getD (b.toNat / 16) 0, d.data.toList.getD (b.toNat % 16) 0]
def hexs : ByteArray := ⟨#[48, 49, 50, 51, 52, 53, 54, 55, 56, 57, 97, 98, 99, 100, 101, 102]⟩
/-- the signs that stand behind a \ -/
def specs : List UInt8 := [40, 41, 91, 93, 124, 42, 43, 63, 46, 94, 36, 45, 92]
/-- how a byte is written -/
def charT (b : UInt8) : List UInt8 :=
  if b.toNat = 10 then [92, 110] else if b.toNat = 9 then [92, 116] else if b.toNat = 13 then [92, 114] else if b.toNat < 33 ∨ 126 < b.toNat then [92, 120] ++ twoH hexs b else if has specs b = true then [92, b] else [b]
end Go.Proofs.YtmgealcolofomaaDoor
