/- The calls of coding, told by texts of their own names. -/
import Derived.Test.YtkhbfdokkmebhaaGreatDoorKc
import Derived.Test.YtkhbfdokkmebhaaGreatDoorWe
namespace Go.Proofs.YtkhbfdokkmebhaaGreatDoor
open Go.RowKit Kb
set_option linter.unusedVariables false
set_option maxRecDepth 20000

theorem ud_at (s q : ByteArray) (hq : q.data.toList = Cd.urlDec s.data.toList) (hs : s.size ≤ 68719476736) (w : World) :
    Calls Tryz.prog 23 #[.string s] w fun e w' => e = .returned (.string q) ∧ Below w.heap.size w w' := by
  have := urlDecode_any s w hs
  rwa [back_list q _ hq] at this
theorem hd_at (s q : ByteArray) (hq : Cd.hexDec s.data.toList = some q.data.toList) (hs : s.size ≤ 68719476736) (w : World) :
    Calls Tryz.prog 25 #[.string s] w fun e w' => e = .returned (.tuple #[.string q, .int .i64 0]) ∧ Below w.heap.size w w' := by
  have := hexDecode_any s w hs
  rw [show hdV s.data.toList = q.data.toList from by unfold hdV; rw [hq]; rfl, show hdE s.data.toList = 0 from by unfold hdE; rw [hq]; rfl, back_list q _ rfl] at this
  exact this
theorem hd_bad (s : ByteArray) (hq : Cd.hexDec s.data.toList = none) (hs : s.size ≤ 68719476736) (w : World) :
    Calls Tryz.prog 25 #[.string s] w fun e w' => e = .returned (.tuple #[.string ⟨#[]⟩, .int .i64 4]) ∧ Below w.heap.size w w' := by
  have := hexDecode_any s w hs
  rw [show hdV s.data.toList = [] from by unfold hdV; rw [hq]; rfl, show hdE s.data.toList = 4 from by unfold hdE; rw [hq]; rfl] at this
  exact this
theorem ht_at (s q : ByteArray) (hq : q.data.toList = Ch.htmlDec s.data.toList) (hs : s.size ≤ 68719476736) (w : World) :
    Calls Tryz.prog 27 #[.string s] w fun e w' => e = .returned (.string q) ∧ Below w.heap.size w w' := by
  have := htmlDecode_any s w hs
  rwa [back_list q _ hq] at this
end Go.Proofs.YtkhbfdokkmebhaaGreatDoor
