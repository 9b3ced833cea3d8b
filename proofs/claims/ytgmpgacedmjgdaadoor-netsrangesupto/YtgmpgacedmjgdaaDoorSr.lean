/- strings.SplitSeq at one sign: the call; the program's Bytes. -/
import Derived.Test.YtgmpgacedmjgdaaDoorSq
import Derived.Test.YtgmpgacedmjgdaaDoorNj
namespace Go.Proofs.YtgmpgacedmjgdaaDoor
open Go.RowKit Kb Go.Shelf
attribute [local go_sem] Oper.semAt_some
set_option linter.unusedVariables false
set_option maxRecDepth 20000

theorem splitSeq_in (s : ByteArray) (c : UInt8) (w : World) :
    Calls Tryd.prog 41 #[.string s, .string ⟨#[c]⟩, .int .i64 0] w fun e w' => ∃ bp bs bq, e = .returned (.func (.func 55) #[] #[.pointer (some ⟨bp, 0, none⟩), .pointer (some ⟨bs, 0, none⟩), .pointer (some ⟨bq, 0, none⟩)]) ∧ Caps w' bp bs bq c s ∧ Below w.heap.size w w' ∧ w.heap.size ≤ bs ∧ bp < w'.heap.size ∧ bs < w'.heap.size ∧ bq < w'.heap.size ∧ w.heap.size ≤ bp ∧ w.heap.size ≤ bq := by
  have e1 : (w.alloc (.cells #[.string s] 9)).heap.size = w.heap.size + 1 := by simp
  have e2 : ((w.alloc (.cells #[.string s] 9)).alloc (.cells #[.string ⟨#[c]⟩] 9)).heap.size = w.heap.size + 1 + 1 := by simp
  have bS := ((Boxed.new w 9 (.string s)).alloc (.cells #[.string ⟨#[c]⟩] 9)).alloc (.cells #[.int .i64 0] 3)
  have bP := (Boxed.new (w.alloc (.cells #[.string s] 9)) 9 (.string ⟨#[c]⟩)).alloc (.cells #[.int .i64 0] 3)
  have bQ := Boxed.new ((w.alloc (.cells #[.string s] 9)).alloc (.cells #[.string ⟨#[c]⟩] 9)) 3 (.int .i64 0)
  rw [e1] at bP
  rw [e2] at bQ
  have HC : Hid (Caps (((w.alloc (.cells #[.string s] 9)).alloc (.cells #[.string ⟨#[c]⟩] 9)).alloc (.cells #[.int .i64 0] 3)) (w.heap.size + 1) w.heap.size (w.heap.size + 1 + 1) c s) := hide ⟨bP.cell, bS.cell, bQ.cell, bS.frozen, by omega, by omega⟩
  have HB : Hid (Below w.heap.size w (((w.alloc (.cells #[.string s] 9)).alloc (.cells #[.string ⟨#[c]⟩] 9)).alloc (.cells #[.int .i64 0] 3))) := hide ((((Below.refl _ w).alloc (Nat.le_refl _) _).alloc (by simp) _).alloc (by simp; omega) _)
  clear e1 e2 bS bP bQ
  go_enter Tryd.func41, Tryd.ntmps41
  go_wp2_with fail
  go_ret
  exact ⟨w.heap.size + 1, w.heap.size, w.heap.size + 1 + 1, rfl, unhide HC, unhide HB, Nat.le_refl _, by simp, by simp; omega, by simp, by omega, by omega⟩
theorem splitSeq_any (s : ByteArray) (c : UInt8) (w : World) :
    Calls Tryd.prog 31 #[.string s, .string ⟨#[c]⟩] w fun e w' => ∃ bp bs bq, e = .returned (.func (.func 55) #[] #[.pointer (some ⟨bp, 0, none⟩), .pointer (some ⟨bs, 0, none⟩), .pointer (some ⟨bq, 0, none⟩)]) ∧ Caps w' bp bs bq c s ∧ Below w.heap.size w w' ∧ w.heap.size ≤ bs ∧ bp < w'.heap.size ∧ bs < w'.heap.size ∧ bq < w'.heap.size ∧ w.heap.size ≤ bp ∧ w.heap.size ≤ bq := by
  go_enter Tryd.func31, Tryd.ntmps31
  go_wp2_with fail
  refine (splitSeq_in s c w).mono ?_
  rintro e w1 ⟨bp, bs, bq, rfl, h⟩
  have H := hide h
  clear h
  go_wp2_with fail
  go_ret
  exact ⟨bp, bs, bq, rfl, unhide H⟩
end Go.Proofs.YtgmpgacedmjgdaaDoor
