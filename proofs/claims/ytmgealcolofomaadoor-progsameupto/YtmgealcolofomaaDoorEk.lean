/- Walks: Some (the program's); Find and Some where the list is wrong or the text too large. -/
import Derived.Test.YtmgealcolofomaaDoorEj
namespace Go.Proofs.YtmgealcolofomaaDoor
open Go.RowKit Kb
set_option linter.unusedVariables false
set_option maxRecDepth 20000
def SmP (p : List In) (s : ByteArray) (w : World) (e : Ending) (w' : World) : Prop := ∃ b : Bool, e = .returned (.tuple #[.bool b, .int .i64 0]) ∧ (b = true ↔ ∃ i j, Pm.Span p s.data.toList i j) ∧ Below w.heap.size w w'
theorem pfind_bad (pv : Value) (p : List In) (s : ByteArray) (w : World) (r : Int) (hI : Insts w pv p) (hn : p.length ≤ 1099511627776) (hr : (if Pm.chk p ≠ 0 then Pm.chk p else if 8192 < s.size then 2 else 0) = r) (h0 : (r == 0) = false) :
    Calls Tryd.prog 15 #[pv, .string s] w fun e w' => e = .returned (.tuple #[.agg #[.int .i64 0, .int .i64 0], .bool false, .int .i64 r]) ∧ Below w.heap.size w w' := by
  have HRY : Hid (∀ W : World, Below w.heap.size w W → Calls Tryd.prog 42 #[pv, .string s] W fun e w' => e = .returned (.int .i64 r) ∧ w' = W) := hide (fun W h => by
    have := ready_any pv p s W (hI.below h) hn
    rw [hr] at this
    exact this)
  obtain ⟨o, c, rfl, hc⟩ := hI.form
  have bb := (Below.refl w.heap.size w).alloc (Nat.le_refl _) (.cells #[.int .i64 0, .int .i64 0] 45)
  have OWN := World.ownsRow_lit (e := 45) (size := 2) (base := w.heap.size) w #[.int .i64 0, .int .i64 0] 1 (Nat.le_refl _) (by unfold maxLen; omega) rfl
  obtain ⟨W0, hW0⟩ : ∃ W, w.alloc (.cells #[.int .i64 0, .int .i64 0] 45) = W := ⟨_, rfl⟩
  rw [hW0] at bb OWN
  have B0 := hide bb
  have y0 := OWN.cellAt 0 (by omega)
  have y1 := OWN.cellAt 1 (by omega)
  have f0 := OWN.frozenAt 0
  have f1 := OWN.frozenAt 1
  obtain ⟨v0, m0'⟩ := World.ownsRow.stored OWN 0 (.int .i64 0)
  obtain ⟨v1, m1'⟩ := v0.stored 1 (.int .i64 0)
  have LD : Hid ((loadVar 45 ⟨w.heap.size, 0, none⟩).run Tryd.prog (((W0.setCell ⟨w.heap.size, 0, none⟩ (.int .i64 0)).setCell ⟨w.heap.size, 1, none⟩ (.int .i64 0))) = .ok (.agg #[.int .i64 0, .int .i64 0]) (((W0.setCell ⟨w.heap.size, 0, none⟩ (.int .i64 0)).setCell ⟨w.heap.size, 1, none⟩ (.int .i64 0)))) := hide (by
      obtain ⟨fr, hh⟩ := own_one' v1
      exact run_loadVar_row _ w.heap.size 45 45 #[.int .i64 0, .int .i64 0] fr _ hh Tryd.underlying45 rfl (by kernel_rfl))
  have BF : Hid (Below w.heap.size w ((W0.setCell ⟨w.heap.size, 0, none⟩ (.int .i64 0)).setCell ⟨w.heap.size, 1, none⟩ (.int .i64 0))) := hide (bb.grown (m0'.trans m1') bb.size (fun q hq => by have := Option.some.inj hq; omega))
  have hr0 : r ≠ 0 := by simpa using h0
  clear hI hr v0 v1 m0' m1' OWN bb
  go_enter Tryd.func15, Tryd.ntmps15
  go_wp2_with fail
  refine ((unhide HRY) W0 (unhide B0)).mono ?_; rintro e wx ⟨rfl, hwx⟩; rw [hwx]; clear hwx wx
  go_wp2_with fail
  (try simp only [Exit.inBlock, Exit.then])
  refine bodyPost_ret_by (v := .tuple #[.agg #[.int .i64 0, .int .i64 0], .bool false, .int .i64 r]) ?_ rfl ⟨rfl, unhide BF⟩
  refine results_ctt9' (p := 4) (u := 5) (u' := 6) (ty := 45) ?_ _ _ w.heap.size _ ?_ (unhide LD) _ ?_ _ ?_ <;> rfl
end Go.Proofs.YtmgealcolofomaaDoor
