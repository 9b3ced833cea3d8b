/- Steps compared, sorted. -/
import Derived.Test.YtmmjcbfffcnfiaaFk
import Derived.Test.YtmmjcbfffcnfiaaSo
import Derived.Test.YtmmjcbfffcnfiaaShelf
namespace Go.Proofs.Ytmmjcbfffcnfiaa
open Go.Shelf Go.RowKit Go.Lib Go.Sort Kb Ph
set_option linter.unusedVariables false
set_option maxRecDepth 20000

def cf (x y : St) : Int := if x.1 = y.1 then Lib.compareInt x.2 y.2 else Lib.compareInt x.1 y.1
def slt (x y : St) : Prop := x.1 < y.1 ∨ (x.1 = y.1 ∧ x.2 < y.2)
theorem cf_lt (x y : St) : ltOf cf x y = true ↔ slt x y := by
  unfold ltOf cf slt Lib.compareInt
  rw [decide_eq_true_iff]
  by_cases h1 : x.1 = y.1
  · rw [if_pos h1]
    by_cases h2 : x.2 < y.2
    · rw [if_pos h2]; omega
    · rw [if_neg h2]; split <;> omega
  · rw [if_neg h1]
    by_cases h2 : x.1 < y.1
    · rw [if_pos h2]; omega
    · rw [if_neg h2]; split <;> omega
theorem cf_swo : SWO (ltOf cf) where
  irrefl x := by
    rw [Bool.eq_false_iff]; intro h; have := (cf_lt _ _).1 h; unfold slt at this; omega
  trans x y z h1 h2 := by
    have h1 := (cf_lt _ _).1 h1
    have h2 := (cf_lt _ _).1 h2
    refine (cf_lt _ _).2 ?_
    unfold slt at *; omega
  ntrans x y z h1 h2 := by
    rw [Bool.eq_false_iff] at *
    intro h
    have h := (cf_lt _ _).1 h
    have h1 : ¬ slt x y := fun g => h1 ((cf_lt _ _).2 g)
    have h2 : ¬ slt y z := fun g => h2 ((cf_lt _ _).2 g)
    unfold slt at *; omega

set_option maxHeartbeats 2000000 in
theorem isNaN_byte (x : Int) (w : World) : Calls Try.prog 80 #[.int .u8 x] w fun e w' => e = .returned (.bool false) ∧ w' = w := by
  go_enter Try.func80, Try.ntmps80
  go_wp2
  go_ret
  exact ⟨ret_bool (by simp), rfl⟩
set_option maxHeartbeats 2000000 in
theorem compare_byte (x y : Int) (w : World) : Calls Try.prog 57 #[.int .u8 x, .int .u8 y] w fun e w' => e = .returned (.int .i64 (Lib.compareInt x y)) ∧ w' = w := by
  have H := hide (fun z => isNaN_byte z w)
  by_cases h1 : x < y
  · have HE : Hid (Lib.compareInt x y = -1) := hide (by unfold Lib.compareInt; rw [if_pos h1])
    go_enter Try.func57, Try.ntmps57
    go_wp2_with fail
    refine ((unhide H) _).mono ?_; rintro e w1 ⟨rfl, hw⟩; rw [hw]; clear hw
    go_wp2_with fail
    refine ((unhide H) _).mono ?_; rintro e w1 ⟨rfl, hw⟩; rw [hw]; clear hw
    go_wp2
    go_ret
    exact ⟨ret_i (unhide HE).symm, rfl⟩
  · by_cases h2 : y < x
    · have HE : Hid (Lib.compareInt x y = 1) := hide (by unfold Lib.compareInt; rw [if_neg h1, if_pos h2])
      go_enter Try.func57, Try.ntmps57
      go_wp2_with fail
      refine ((unhide H) _).mono ?_; rintro e w1 ⟨rfl, hw⟩; rw [hw]; clear hw
      go_wp2_with fail
      refine ((unhide H) _).mono ?_; rintro e w1 ⟨rfl, hw⟩; rw [hw]; clear hw
      go_wp2
      go_ret
      exact ⟨ret_i (unhide HE).symm, rfl⟩
    · have HE : Hid (Lib.compareInt x y = 0) := hide (by unfold Lib.compareInt; rw [if_neg h1, if_neg h2])
      go_enter Try.func57, Try.ntmps57
      go_wp2_with fail
      refine ((unhide H) _).mono ?_; rintro e w1 ⟨rfl, hw⟩; rw [hw]; clear hw
      go_wp2_with fail
      refine ((unhide H) _).mono ?_; rintro e w1 ⟨rfl, hw⟩; rw [hw]; clear hw
      go_wp2
      go_ret
      exact ⟨ret_i (unhide HE).symm, rfl⟩
set_option maxHeartbeats 2000000 in
theorem compareSteps_any (x y : St) (W : World) : Calls Try.prog 45 #[.agg #[.int .i64 x.1, .int .u8 x.2], .agg #[.int .i64 y.1, .int .u8 y.2]] W fun e w' => e = .returned (.int .i64 (cf x y)) ∧ ∃ q os', w' = grow (W.drewN q) os' := by
  obtain ⟨a, c⟩ := x
  obtain ⟨a', c'⟩ := y
  have H1 := hide (fun w => Try.cmp_Compare_int a a' w)
  have H2 := hide (fun w => compare_byte c c' w)
  by_cases h : a = a'
  · have HE : Hid (cf (a, c) (a', c') = Lib.compareInt c c') := hide (by unfold cf; rw [if_pos h])
    subst h
    dsimp only
    obtain ⟨r, hr⟩ : ∃ r, Lib.compareInt c c' = r := ⟨_, rfl⟩
    rw [hr] at H2 HE
    clear hr
    go_enter Try.func45, Try.ntmps45
    go_wp2_with fail
    refine ((unhide H2) _).mono ?_; rintro e w1 ⟨rfl, hw⟩; rw [hw]; clear hw
    go_wp2
    go_ret
    exact ⟨ret_i (unhide HE).symm, 0, _, by rw [alloc_eq_grow, alloc_eq_grow, grow_grow]; rfl⟩
  · have HE : Hid (cf (a, c) (a', c') = Lib.compareInt a a') := hide (by unfold cf; rw [if_neg h])
    have hb : (a != a') = true := by simp; exact h
    clear h
    dsimp only
    obtain ⟨r, hr⟩ : ∃ r, Lib.compareInt a a' = r := ⟨_, rfl⟩
    rw [hr] at H1 HE
    clear hr
    go_enter Try.func45, Try.ntmps45
    go_wp2_with fail
    refine ((unhide H1) _).mono ?_; rintro e w1 ⟨rfl, hw⟩; rw [hw]; clear hw
    go_wp2
    go_ret
    exact ⟨ret_i (unhide HE).symm, 0, _, by rw [alloc_eq_grow, alloc_eq_grow, grow_grow]; rfl⟩
end Go.Proofs.Ytmmjcbfffcnfiaa
