/- Walks of the document's answers on nets: lists of nets; is a text in another one. -/
import Derived.Test.YtloidooaebhliaaDoorNh
import Derived.Test.YtloidooaebhliaaDoorNf
namespace Go.Proofs.YtloidooaebhliaaDoor
open Go.RowKit Kb
set_option linter.unusedVariables false
set_option maxRecDepth 20000

end Go.Proofs.YtloidooaebhliaaDoor
