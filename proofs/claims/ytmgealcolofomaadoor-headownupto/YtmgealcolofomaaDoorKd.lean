/- The library's Clone of a text. -/
import Derived.Test.YtmgealcolofomaaDoorKc
import Derived.Test.YtmgealcolofomaaDoorShelf
namespace Go.Proofs.YtmgealcolofomaaDoor
open Go.RowKit Kb
set_option linter.unusedVariables false
set_option maxRecDepth 20000

set_option maxHeartbeats 1000000 in
theorem clone_any (s : ByteArray) (w : World) (hs : s.size ≤ 281474976710656) :
    Calls Tryd.prog 29 #[.string s] w fun e w' => e = .returned (.string s) ∧ Below w.heap.size w w' := by
  have H := hide (Tryd.stringslite_Clone s w hs)
  go_enter Tryd.func29, Tryd.ntmps29
  go_wp2_with fail
  refine (unhide H).mono ?_; rintro e w1 ⟨rfl, b1⟩
  go_wp2_with fail
  go_ret
  exact ⟨rfl, b1⟩
end Go.Proofs.YtmgealcolofomaaDoor
