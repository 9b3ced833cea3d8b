/- The library's Count, Split, Join and the document's Split, Pieces, Joined at one sign. -/
import Derived.Test.YtgmpgacedmjgdaaDoorKc
import Derived.Test.YtgmpgacedmjgdaaDoorCs
import Derived.Test.YtgmpgacedmjgdaaDoorRi
import Derived.Test.YtgmpgacedmjgdaaDoorShelf
import Derived.OwnWalk
namespace Go.Proofs.YtgmpgacedmjgdaaDoor
open Go.RowKit Kb
set_option linter.unusedVariables false
set_option maxRecDepth 20000

end Go.Proofs.YtgmpgacedmjgdaaDoor
