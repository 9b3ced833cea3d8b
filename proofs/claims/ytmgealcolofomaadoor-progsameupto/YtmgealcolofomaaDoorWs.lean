/- The walk of small. -/
import Derived.Test.YtmgealcolofomaaDoorChecked
import Derived.WalkKit
import Derived.WalkSpells
namespace Go.Proofs.YtmgealcolofomaaDoor
open Go.RowKit
set_option linter.unusedVariables false
set_option maxRecDepth 20000

theorem hide {p : Prop} (h : p) : Hid p := h
theorem unhide {p : Prop} (h : Hid p) : p := h

def smallOf (c : Int) : Int := if 65 ≤ c ∧ c ≤ 90 then c + 32 else c

theorem ret_int {k : IntKind} {a b : Int} (h : a = b) : Ending.returned (.int k a) = .returned (.int k b) := by rw [h]
theorem dec_t {p : Prop} [Decidable p] (h : p) : true = decide p := by simp [h]
theorem dec_f {p : Prop} [Decidable p] (h : ¬ p) : false = decide p := by simp [h]

set_option maxHeartbeats 400000 in
theorem small_any (c : Int) (w : World) (h0 : 0 ≤ c) (h1 : c ≤ 255) :
    Calls Tryd.prog 57 #[.int .u8 c] w fun e w' => e = .returned (.int .u8 (smallOf c)) ∧ w' = w := by
  by_cases ha : 65 ≤ c
  · by_cases hb : c ≤ 90
    · go_enter Tryd.func57, Tryd.ntmps57
      go_wp2
      go_ret
      exact ⟨ret_int (by unfold smallOf; split <;> omega), rfl⟩
    · go_enter Tryd.func57, Tryd.ntmps57
      go_wp2
      go_ret
      exact ⟨ret_int (by unfold smallOf; split <;> omega), rfl⟩
  · go_enter Tryd.func57, Tryd.ntmps57
    go_wp2
    go_ret
    exact ⟨ret_int (by unfold smallOf; split <;> omega), rfl⟩

end Go.Proofs.YtmgealcolofomaaDoor
