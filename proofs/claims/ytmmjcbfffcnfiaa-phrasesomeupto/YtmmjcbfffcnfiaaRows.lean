/-
  No cell of these rows narrows 'for every input' (looked for: loops, veiled, ifaces, maps, wideKeys, modest, calm, conditions, laid).
  DERIVED. THE GIVEN ROWS OF THIS SEAT. 4 by the template 'for every input the law returns true; each argument reads behind the call as it read before'; 0 by the template 'total and deterministic' (their statements: YtmmjcbfffcnfiaaTotals.lean).
  GIVEN WITH THE SEED: the statements are not yours to turn. If you find one false, say at which input.
  Laid BY PROGRAM, IN A SANDBOX (cutbox-rows.mjs): the forced cells as the released guide's own fill.sh prints them over the translation d5338fe893091266… (all of the seat's roots in one cut). By AI agents, Wed Nov 11 2026. No macro, syntax, notation, axiom, sorry.
-/
import Derived.Test.YtmmjcbfffcnfiaaChecked
import GoSem.Claim
import GoSem.ClaimJoined
import GoSem.ClaimMapViews
import Derived.JoinedTies
import Derived.KernelRfl
namespace Go.Proofs.Ytmmjcbfffcnfiaa
/- THE CELL 'sum', in the pinned program and in every row, IS THE sha256 OF THE DUMP (.gsa) THAT YtmmjcbfffcnfiaaProg.lean LOADS. Nothing in Lean hashes anything: it is a label: what it is worth is what the hold of that sum in a sandbox is worth. -/
noncomputable def Try.pinned : Pinned := { name := "ytmmjcbfffcnfiaa", sum := "d5338fe89309126675dedce4d14e1151f7e24c2a5dae38802784069d997b4276", checked := Try.checked }
namespace Rows
def none {H : Type} : Left H := { results := [], args := [] }

/-- 'wicklaw.PhraseMakes': WHATEVER THE INPUT: true; the input reads as it did. -/
def phraseMakesSpec : ChangeSpec := { name := "phraseMakes", fn := fun _ => fun
  | [d] => { results := [.lit (.bool true)], args := [d] }
  | _ => none }
def phraseMakesRow : OpenClaim := { program := "ytmmjcbfffcnfiaa", sum := "d5338fe89309126675dedce4d14e1151f7e24c2a5dae38802784069d997b4276", func := "gatewicket/wicklaw.PhraseMakes", spec := "phraseMakes", unfollowed := true, recurses := true, plainKeys := false, apart := false }
def PhraseMakesSaid : Prop := phraseMakesRow.holds Try.pinned (OpenSpec.ofChange phraseMakesSpec)

/-- ITS FALSE NEIGHBOUR: 'it returns false'. Refute it at one input. -/
def phraseMakesWrong : ChangeSpec := { name := "phraseMakes", fn := fun _ => fun
  | [d] => { results := [.lit (.bool false)], args := [d] }
  | _ => none }
def PhraseMakesWrongFalsely : Prop := phraseMakesRow.holds Try.pinned (OpenSpec.ofChange phraseMakesWrong)

/-- 'wicklaw.PhraseHits': WHATEVER THE INPUT: true; the input reads as it did. -/
def phraseHitsSpec : ChangeSpec := { name := "phraseHits", fn := fun _ => fun
  | [d1, d2, d3] => { results := [.lit (.bool true)], args := [d1, d2, d3] }
  | _ => none }
def phraseHitsRow : OpenClaim := { program := "ytmmjcbfffcnfiaa", sum := "d5338fe89309126675dedce4d14e1151f7e24c2a5dae38802784069d997b4276", func := "gatewicket/wicklaw.PhraseHits", spec := "phraseHits", unfollowed := true, recurses := true, plainKeys := false, apart := false }
def PhraseHitsSaid : Prop := phraseHitsRow.holds Try.pinned (OpenSpec.ofChange phraseHitsSpec)

/-- ITS FALSE NEIGHBOUR: 'it returns false'. Refute it at one input. -/
def phraseHitsWrong : ChangeSpec := { name := "phraseHits", fn := fun _ => fun
  | [d1, d2, d3] => { results := [.lit (.bool false)], args := [d1, d2, d3] }
  | _ => none }
def PhraseHitsWrongFalsely : Prop := phraseHitsRow.holds Try.pinned (OpenSpec.ofChange phraseHitsWrong)

/-- 'wickkeep.PhraseStands': WHATEVER THE INPUT: true; the input reads as it did. -/
def phraseStandsSpec : ChangeSpec := { name := "phraseStands", fn := fun _ => fun
  | [d1, d2] => { results := [.lit (.bool true)], args := [d1, d2] }
  | _ => none }
def phraseStandsRow : OpenClaim := { program := "ytmmjcbfffcnfiaa", sum := "d5338fe89309126675dedce4d14e1151f7e24c2a5dae38802784069d997b4276", func := "gatewicket/wickkeep.PhraseStands", spec := "phraseStands", unfollowed := true, recurses := true, plainKeys := false, apart := false }
def PhraseStandsSaid : Prop := phraseStandsRow.holds Try.pinned (OpenSpec.ofChange phraseStandsSpec)

/-- ITS FALSE NEIGHBOUR: 'it returns false'. Refute it at one input. -/
def phraseStandsWrong : ChangeSpec := { name := "phraseStands", fn := fun _ => fun
  | [d1, d2] => { results := [.lit (.bool false)], args := [d1, d2] }
  | _ => none }
def PhraseStandsWrongFalsely : Prop := phraseStandsRow.holds Try.pinned (OpenSpec.ofChange phraseStandsWrong)

/-- 'wickkeep.PhraseSome': WHATEVER THE INPUT: true; the input reads as it did. -/
def phraseSomeSpec : ChangeSpec := { name := "phraseSome", fn := fun _ => fun
  | [d1, d2, d3] => { results := [.lit (.bool true)], args := [d1, d2, d3] }
  | _ => none }
def phraseSomeRow : OpenClaim := { program := "ytmmjcbfffcnfiaa", sum := "d5338fe89309126675dedce4d14e1151f7e24c2a5dae38802784069d997b4276", func := "gatewicket/wickkeep.PhraseSome", spec := "phraseSome", inPlace := ["internal/bytealg.IndexByteString", "internal/bytealg.IndexString"], unfollowed := true, recurses := true, named := ["internal/bytealg.MaxLen"], plainKeys := false, apart := false }
def PhraseSomeSaid : Prop := phraseSomeRow.holds Try.pinned (OpenSpec.ofChange phraseSomeSpec)

/-- ITS FALSE NEIGHBOUR: 'it returns false'. Refute it at one input. -/
def phraseSomeWrong : ChangeSpec := { name := "phraseSome", fn := fun _ => fun
  | [d1, d2, d3] => { results := [.lit (.bool false)], args := [d1, d2, d3] }
  | _ => none }
def PhraseSomeWrongFalsely : Prop := phraseSomeRow.holds Try.pinned (OpenSpec.ofChange phraseSomeWrong)

/- THE SECOND FORM. 'bulk': how many values and letters a reading holds, each counted each time it is reached (what is shared counts as often as it is met; a slice's spare places count too). A statement '..UptoSaid' is the law's where the arguments, and the package variables that the reading takes, are together of bulk at most 1048576: NARROWER than '..Said'. Prove '..Said' where nothing that the law and all that it calls make is longer than what came in: it says more and counts as full. Else prove '..UptoSaid'. A law counts once. -/
mutual
def uptoBulk {H : Type} : DataW H → Nat
  | .lit (.string bytes) => bytes.length + 1
  | .lit _ => 1
  | .nil => 1
  | .ptr d => uptoBulk d + 1
  | .slice elems spare => uptoBulkAll elems + uptoBulkAll spare + 1
  | .agg parts => uptoBulkAll parts + 1
  | .iface _ d => uptoBulk d + 1
  | .map entries => uptoBulkEntries entries + 1
  | .held _ => 1
def uptoBulkAll {H : Type} : List (DataW H) → Nat
  | [] => 0
  | d :: r => uptoBulk d + uptoBulkAll r
def uptoBulkEntries {H : Type} : List (Lit × DataW H) → Nat
  | [] => 0
  | x :: r => uptoBulkEntry x + uptoBulkEntries r
def uptoBulkEntry {H : Type} : Lit × DataW H → Nat
  | (.string bytes, d) => bytes.length + uptoBulk d + 1
  | (_, d) => uptoBulk d + 1
 end
def uptoSmall : (H : Type) → List (DataW H) → Bool := fun _ ds => decide (uptoBulkAll ds ≤ 1048576)
def OpenSpec.upto (s : _root_.Go.ChangeSpec) : _root_.Go.OpenSpec := { _root_.Go.OpenSpec.ofChange s with cond := some uptoSmall }

/-- 'wicklaw.PhraseMakes', WHERE WHAT IT READS IS OF BULK AT MOST 1048576: true; the input reads as it did. -/
def phraseMakesUptoRow : OpenClaim := { program := "ytmmjcbfffcnfiaa", sum := "d5338fe89309126675dedce4d14e1151f7e24c2a5dae38802784069d997b4276", func := "gatewicket/wicklaw.PhraseMakes", spec := "phraseMakes", unfollowed := true, recurses := true, plainKeys := false, apart := false, narrowed := true }
def PhraseMakesUptoSaid : Prop := phraseMakesUptoRow.holds Try.pinned (OpenSpec.upto phraseMakesSpec)

/-- 'wicklaw.PhraseHits', WHERE WHAT IT READS IS OF BULK AT MOST 1048576: true; the input reads as it did. -/
def phraseHitsUptoRow : OpenClaim := { program := "ytmmjcbfffcnfiaa", sum := "d5338fe89309126675dedce4d14e1151f7e24c2a5dae38802784069d997b4276", func := "gatewicket/wicklaw.PhraseHits", spec := "phraseHits", unfollowed := true, recurses := true, plainKeys := false, apart := false, narrowed := true }
def PhraseHitsUptoSaid : Prop := phraseHitsUptoRow.holds Try.pinned (OpenSpec.upto phraseHitsSpec)

/-- 'wickkeep.PhraseStands', WHERE WHAT IT READS IS OF BULK AT MOST 1048576: true; the input reads as it did. -/
def phraseStandsUptoRow : OpenClaim := { program := "ytmmjcbfffcnfiaa", sum := "d5338fe89309126675dedce4d14e1151f7e24c2a5dae38802784069d997b4276", func := "gatewicket/wickkeep.PhraseStands", spec := "phraseStands", unfollowed := true, recurses := true, plainKeys := false, apart := false, narrowed := true }
def PhraseStandsUptoSaid : Prop := phraseStandsUptoRow.holds Try.pinned (OpenSpec.upto phraseStandsSpec)

/-- 'wickkeep.PhraseSome', WHERE WHAT IT READS IS OF BULK AT MOST 1048576: true; the input reads as it did. -/
def phraseSomeUptoRow : OpenClaim := { program := "ytmmjcbfffcnfiaa", sum := "d5338fe89309126675dedce4d14e1151f7e24c2a5dae38802784069d997b4276", func := "gatewicket/wickkeep.PhraseSome", spec := "phraseSome", inPlace := ["internal/bytealg.IndexByteString", "internal/bytealg.IndexString"], unfollowed := true, recurses := true, named := ["internal/bytealg.MaxLen"], plainKeys := false, apart := false, narrowed := true }
def PhraseSomeUptoSaid : Prop := phraseSomeUptoRow.holds Try.pinned (OpenSpec.upto phraseSomeSpec)

end Rows
end Go.Proofs.Ytmmjcbfffcnfiaa
