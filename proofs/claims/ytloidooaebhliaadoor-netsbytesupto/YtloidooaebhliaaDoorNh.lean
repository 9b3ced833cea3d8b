/- Walks of the document's answers on nets: a net read. -/
import Derived.Test.YtloidooaebhliaaDoorNg
namespace Go.Proofs.YtloidooaebhliaaDoor
open Go.RowKit Kb
set_option linter.unusedVariables false
set_option maxRecDepth 20000

theorem wt_mem' : ∀ {L : List (List UInt8)} {p : List UInt8}, p ∈ L → p.length + 1 ≤ Cp.wt L
  | a :: r, p, h => by
    rw [Cp.wt_cons]
    rcases List.mem_cons.1 h with e | e
    · rw [e]; omega
    · have := wt_mem' e; omega
/-- what came of reading, when the bits are known -/
def netR (o : Option Nat) (bt : Nat) : Nat × Nat × Int := match o with | none => (0, 0, 3) | some a => Nt.fin a bt
end Go.Proofs.YtloidooaebhliaaDoor
