/-
  No cell of these rows narrows 'for every input' (looked for: loops, veiled, ifaces, maps, wideKeys, modest, calm, conditions, laid).
  DERIVED. THE GIVEN ROWS OF THIS SEAT. 5 by the template 'for every input the law returns true; each argument reads behind the call as it read before'; 0 by the template 'total and deterministic' (their statements: YtejjbnbaholbbaaTotals.lean).
  GIVEN WITH THE SEED: the statements are not yours to turn. If you find one false, say at which input.
  Laid BY PROGRAM, IN A SANDBOX (cutbox-rows.mjs): the forced cells as the released guide's own fill.sh prints them over the translation 216a15d7af3454aa… (all of the seat's roots in one cut). By AI agents, Wed Nov 11 2026. No macro, syntax, notation, axiom, sorry.
-/
import Derived.Test.YtejjbnbaholbbaaChecked
import GoSem.Claim
import GoSem.ClaimJoined
import GoSem.ClaimMapViews
import Derived.JoinedTies
import Derived.KernelRfl
namespace Go.Proofs.Ytejjbnbaholbbaa
/- THE CELL 'sum', in the pinned program and in every row, IS THE sha256 OF THE DUMP (.gsa) THAT YtejjbnbaholbbaaProg.lean LOADS. Nothing in Lean hashes anything: it is a label: what it is worth is what the hold of that sum in a sandbox is worth. -/
noncomputable def Try.pinned : Pinned := { name := "ytejjbnbaholbbaa", sum := "216a15d7af3454aa340d76de0811c15a5fd2d24de46815977380a7a91e7ee72a", checked := Try.checked }
namespace Rows
def none {H : Type} : Left H := { results := [], args := [] }

/-- 'wicklaw.CodingUrl': WHATEVER THE INPUT: true; the input reads as it did. -/
def codingUrlSpec : ChangeSpec := { name := "codingUrl", fn := fun _ => fun
  | [d] => { results := [.lit (.bool true)], args := [d] }
  | _ => none }
def codingUrlRow : OpenClaim := { program := "ytejjbnbaholbbaa", sum := "216a15d7af3454aa340d76de0811c15a5fd2d24de46815977380a7a91e7ee72a", func := "gatewicket/wicklaw.CodingUrl", spec := "codingUrl", inPlace := ["internal/bytealg.IndexByteString"], apart := false }
def CodingUrlSaid : Prop := codingUrlRow.holds Try.pinned (OpenSpec.ofChange codingUrlSpec)

/-- ITS FALSE NEIGHBOUR: 'it returns false'. Refute it at one input. -/
def codingUrlWrong : ChangeSpec := { name := "codingUrl", fn := fun _ => fun
  | [d] => { results := [.lit (.bool false)], args := [d] }
  | _ => none }
def CodingUrlWrongFalsely : Prop := codingUrlRow.holds Try.pinned (OpenSpec.ofChange codingUrlWrong)

/-- 'wicklaw.CodingBytes': WHATEVER THE INPUT: true; the input reads as it did. -/
def codingBytesSpec : ChangeSpec := { name := "codingBytes", fn := fun _ => fun
  | [d] => { results := [.lit (.bool true)], args := [d] }
  | _ => none }
def codingBytesRow : OpenClaim := { program := "ytejjbnbaholbbaa", sum := "216a15d7af3454aa340d76de0811c15a5fd2d24de46815977380a7a91e7ee72a", func := "gatewicket/wicklaw.CodingBytes", spec := "codingBytes", inPlace := ["internal/bytealg.IndexByteString"], unfollowed := true, recurses := true, apart := false }
def CodingBytesSaid : Prop := codingBytesRow.holds Try.pinned (OpenSpec.ofChange codingBytesSpec)

/-- ITS FALSE NEIGHBOUR: 'it returns false'. Refute it at one input. -/
def codingBytesWrong : ChangeSpec := { name := "codingBytes", fn := fun _ => fun
  | [d] => { results := [.lit (.bool false)], args := [d] }
  | _ => none }
def CodingBytesWrongFalsely : Prop := codingBytesRow.holds Try.pinned (OpenSpec.ofChange codingBytesWrong)

/-- 'wickkeep.CodingBack': WHATEVER THE INPUT: true; the input reads as it did. -/
def codingBackSpec : ChangeSpec := { name := "codingBack", fn := fun _ => fun
  | [d] => { results := [.lit (.bool true)], args := [d] }
  | _ => none }
def codingBackRow : OpenClaim := { program := "ytejjbnbaholbbaa", sum := "216a15d7af3454aa340d76de0811c15a5fd2d24de46815977380a7a91e7ee72a", func := "gatewicket/wickkeep.CodingBack", spec := "codingBack", inPlace := ["internal/bytealg.IndexByteString"], apart := false }
def CodingBackSaid : Prop := codingBackRow.holds Try.pinned (OpenSpec.ofChange codingBackSpec)

/-- ITS FALSE NEIGHBOUR: 'it returns false'. Refute it at one input. -/
def codingBackWrong : ChangeSpec := { name := "codingBack", fn := fun _ => fun
  | [d] => { results := [.lit (.bool false)], args := [d] }
  | _ => none }
def CodingBackWrongFalsely : Prop := codingBackRow.holds Try.pinned (OpenSpec.ofChange codingBackWrong)

/-- 'wickkeep.CodingOne': WHATEVER THE INPUT: true; the input reads as it did. -/
def codingOneSpec : ChangeSpec := { name := "codingOne", fn := fun _ => fun
  | [d] => { results := [.lit (.bool true)], args := [d] }
  | _ => none }
def codingOneRow : OpenClaim := { program := "ytejjbnbaholbbaa", sum := "216a15d7af3454aa340d76de0811c15a5fd2d24de46815977380a7a91e7ee72a", func := "gatewicket/wickkeep.CodingOne", spec := "codingOne", inPlace := ["internal/bytealg.IndexByteString"], apart := false }
def CodingOneSaid : Prop := codingOneRow.holds Try.pinned (OpenSpec.ofChange codingOneSpec)

/-- ITS FALSE NEIGHBOUR: 'it returns false'. Refute it at one input. -/
def codingOneWrong : ChangeSpec := { name := "codingOne", fn := fun _ => fun
  | [d] => { results := [.lit (.bool false)], args := [d] }
  | _ => none }
def CodingOneWrongFalsely : Prop := codingOneRow.holds Try.pinned (OpenSpec.ofChange codingOneWrong)

/-- 'wickkeep.CodingJoins': WHATEVER THE INPUT: true; the input reads as it did. -/
def codingJoinsSpec : ChangeSpec := { name := "codingJoins", fn := fun _ => fun
  | [d1, d2] => { results := [.lit (.bool true)], args := [d1, d2] }
  | _ => none }
def codingJoinsRow : OpenClaim := { program := "ytejjbnbaholbbaa", sum := "216a15d7af3454aa340d76de0811c15a5fd2d24de46815977380a7a91e7ee72a", func := "gatewicket/wickkeep.CodingJoins", spec := "codingJoins", inPlace := ["internal/bytealg.IndexByteString"], apart := false }
def CodingJoinsSaid : Prop := codingJoinsRow.holds Try.pinned (OpenSpec.ofChange codingJoinsSpec)

/-- ITS FALSE NEIGHBOUR: 'it returns false'. Refute it at one input. -/
def codingJoinsWrong : ChangeSpec := { name := "codingJoins", fn := fun _ => fun
  | [d1, d2] => { results := [.lit (.bool false)], args := [d1, d2] }
  | _ => none }
def CodingJoinsWrongFalsely : Prop := codingJoinsRow.holds Try.pinned (OpenSpec.ofChange codingJoinsWrong)

/- THE SECOND FORM. 'bulk': how many values and letters a reading holds, each counted each time it is reached (what is shared counts as often as it is met; a slice's spare places count too). A statement '..UptoSaid' is the law's where the arguments, and the package variables that the reading takes, are together of bulk at most 1048576: NARROWER than '..Said'. Prove '..Said' where nothing that the law and all that it calls make is longer than what came in: it says more and counts as full. Else prove '..UptoSaid'. A law counts once. -/
mutual
def uptoBulk {H : Type} : DataW H → Nat
  | .lit (.string bytes) => bytes.length + 1
  | .lit _ => 1
  | .nil => 1
  | .ptr d => uptoBulk d + 1
  | .slice elems spare => uptoBulkAll elems + uptoBulkAll spare + 1
  | .agg parts => uptoBulkAll parts + 1
  | .iface _ d => uptoBulk d + 1
  | .map entries => uptoBulkEntries entries + 1
  | .held _ => 1
def uptoBulkAll {H : Type} : List (DataW H) → Nat
  | [] => 0
  | d :: r => uptoBulk d + uptoBulkAll r
def uptoBulkEntries {H : Type} : List (Lit × DataW H) → Nat
  | [] => 0
  | x :: r => uptoBulkEntry x + uptoBulkEntries r
def uptoBulkEntry {H : Type} : Lit × DataW H → Nat
  | (.string bytes, d) => bytes.length + uptoBulk d + 1
  | (_, d) => uptoBulk d + 1
 end
def uptoSmall : (H : Type) → List (DataW H) → Bool := fun _ ds => decide (uptoBulkAll ds ≤ 1048576)
def OpenSpec.upto (s : _root_.Go.ChangeSpec) : _root_.Go.OpenSpec := { _root_.Go.OpenSpec.ofChange s with cond := some uptoSmall }

/-- 'wicklaw.CodingUrl', WHERE WHAT IT READS IS OF BULK AT MOST 1048576: true; the input reads as it did. -/
def codingUrlUptoRow : OpenClaim := { program := "ytejjbnbaholbbaa", sum := "216a15d7af3454aa340d76de0811c15a5fd2d24de46815977380a7a91e7ee72a", func := "gatewicket/wicklaw.CodingUrl", spec := "codingUrl", inPlace := ["internal/bytealg.IndexByteString"], apart := false, narrowed := true }
def CodingUrlUptoSaid : Prop := codingUrlUptoRow.holds Try.pinned (OpenSpec.upto codingUrlSpec)

/-- 'wicklaw.CodingBytes', WHERE WHAT IT READS IS OF BULK AT MOST 1048576: true; the input reads as it did. -/
def codingBytesUptoRow : OpenClaim := { program := "ytejjbnbaholbbaa", sum := "216a15d7af3454aa340d76de0811c15a5fd2d24de46815977380a7a91e7ee72a", func := "gatewicket/wicklaw.CodingBytes", spec := "codingBytes", inPlace := ["internal/bytealg.IndexByteString"], unfollowed := true, recurses := true, apart := false, narrowed := true }
def CodingBytesUptoSaid : Prop := codingBytesUptoRow.holds Try.pinned (OpenSpec.upto codingBytesSpec)

/-- 'wickkeep.CodingBack', WHERE WHAT IT READS IS OF BULK AT MOST 1048576: true; the input reads as it did. -/
def codingBackUptoRow : OpenClaim := { program := "ytejjbnbaholbbaa", sum := "216a15d7af3454aa340d76de0811c15a5fd2d24de46815977380a7a91e7ee72a", func := "gatewicket/wickkeep.CodingBack", spec := "codingBack", inPlace := ["internal/bytealg.IndexByteString"], apart := false, narrowed := true }
def CodingBackUptoSaid : Prop := codingBackUptoRow.holds Try.pinned (OpenSpec.upto codingBackSpec)

/-- 'wickkeep.CodingOne', WHERE WHAT IT READS IS OF BULK AT MOST 1048576: true; the input reads as it did. -/
def codingOneUptoRow : OpenClaim := { program := "ytejjbnbaholbbaa", sum := "216a15d7af3454aa340d76de0811c15a5fd2d24de46815977380a7a91e7ee72a", func := "gatewicket/wickkeep.CodingOne", spec := "codingOne", inPlace := ["internal/bytealg.IndexByteString"], apart := false, narrowed := true }
def CodingOneUptoSaid : Prop := codingOneUptoRow.holds Try.pinned (OpenSpec.upto codingOneSpec)

/-- 'wickkeep.CodingJoins', WHERE WHAT IT READS IS OF BULK AT MOST 1048576: true; the input reads as it did. -/
def codingJoinsUptoRow : OpenClaim := { program := "ytejjbnbaholbbaa", sum := "216a15d7af3454aa340d76de0811c15a5fd2d24de46815977380a7a91e7ee72a", func := "gatewicket/wickkeep.CodingJoins", spec := "codingJoins", inPlace := ["internal/bytealg.IndexByteString"], apart := false, narrowed := true }
def CodingJoinsUptoSaid : Prop := codingJoinsUptoRow.holds Try.pinned (OpenSpec.upto codingJoinsSpec)

end Rows
end Go.Proofs.Ytejjbnbaholbbaa
