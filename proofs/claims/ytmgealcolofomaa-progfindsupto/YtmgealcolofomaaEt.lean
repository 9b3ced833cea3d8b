/- Walks: the document's Runs: how many marks are not set, told by the world (the passes' measure). -/
import Derived.Test.YtmgealcolofomaaEs
namespace Go.Proofs.Ytmgealcolofomaa
open Go.RowKit Kb
set_option linter.unusedVariables false
set_option maxRecDepth 20000
open Sp Classical
theorem count_range : ∀ (hs : List Bool) (f : Nat → Bool), (∀ k b, hs[k]? = some b → f k = !b) → ((List.range hs.length).filter f).length = hs.count false := by
  intro hs
  induction hs with
  | nil => intro f _; rfl
  | cons b r ih =>
    intro f hf
    have h0 := hf 0 b rfl
    have hr := ih (fun k => f (k + 1)) (fun k q hk => hf (k + 1) q (by simpa using hk))
    rw [List.length_cons, List.range_succ_eq_map, List.filter_cons, List.filter_map, List.count_cons]
    have e : (f ∘ Nat.succ) = fun k => f (k + 1) := rfl
    rw [e]
    cases b
    · rw [h0, if_pos (by rfl), List.length_cons, List.length_map, hr]; simp
    · rw [h0, if_neg (by simp), List.length_map, hr]; simp
/-- how many of a row's marks are not set -/
noncomputable def uW (W : World) (hb n : Nat) : Nat := ((List.range n).filter fun k => decide (W.cell? ⟨hb, k, none⟩ = some (.bool false))).length
theorem uW_eq {W : World} {hb : Nat} {hs : List Bool} (hc : ∀ k b, hs[k]? = some b → W.cell? ⟨hb, k, none⟩ = some (.bool b)) : uW W hb hs.length = Pm.uH hs := by
  unfold uW Pm.uH
  refine count_range hs _ (fun k b hk => ?_)
  have := hc k b hk
  cases b
  · rw [this]; simp
  · rw [this]; simp
/-- is the box's mark set? -/
noncomputable def mW (W : World) (x : Value) : Nat := match x with
  | .pointer (some a) => if W.cell? a = some (.bool true) then 1 else 0
  | _ => 0
theorem mW_eq {W : World} {gm : Nat} {m : Bool} (hc : W.cell? ⟨gm, 0, none⟩ = some (.bool m)) : mW W (.pointer (some ⟨gm, 0, none⟩)) = if m = true then 1 else 0 := by
  unfold mW
  cases m <;> simp [hc]
theorem QX.measure {w W : World} {g h n gm gh hb : Nat} {T : Nat → Nat → Bool} {m : Bool} {hs : List Bool} (x : QX w W g h n T gm gh hb m hs) : 2 * uW W hb hs.length + mW W (.pointer (some ⟨gm, 0, none⟩)) = 2 * Pm.uH hs + if m = true then 1 else 0 := by
  rw [uW_eq x.hx.cell, mW_eq x.hx.more]
end Go.Proofs.Ytmgealcolofomaa
