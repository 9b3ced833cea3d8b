/- Walks: wide bounds. -/
import Derived.Test.YtjpclmkekmkddabDoorUB
namespace Go.Proofs.YtjpclmkekmkddabDoor
open Go.RowKit Kb
set_option linter.unusedVariables false
set_option maxRecDepth 20000
theorem results_c1 {fn : Func} {p : Tmp} {ty : TypeId} (h : fn.results = #[.cell p ty]) (tmps : Array Value) (w : World) (g : Nat) (z : Value)
    (hp : tmps.getD p undef = .pointer (some ⟨g, 0, none⟩)) (hl : (loadVar ty ⟨g, 0, none⟩).run Tryd.prog w = .ok z w) :
    (results fn tmps).run Tryd.prog w = .ok z w := by
  have hp' : tmps[p]?.getD undef = .pointer (some ⟨g, 0, none⟩) := by simpa using hp
  simp [results, h, hp', asAddr, hl]
def B3 (w : World) (base g : Nat) (x y z : Int) : Prop := w.ownsRow base 23 3 (.slice (some ⟨g, 0, none⟩) 1 1) 1 (cells3 x y z)
section
variable {w w' : World} {base g : Nat} {x y z : Int}
theorem B3.cells (h : B3 w base g x y z) : w.cell? ⟨g, 0, none⟩ = some (.int .i64 x) ∧ w.cell? ⟨g, 1, none⟩ = some (.int .i64 y) ∧ w.cell? ⟨g, 2, none⟩ = some (.int .i64 z) :=
  ⟨World.ownsRow.cellAt h 0 (by omega), World.ownsRow.cellAt h 1 (by omega), World.ownsRow.cellAt h 2 (by omega)⟩
theorem B3.frozen (h : B3 w base g x y z) : w.frozen? ⟨g, 0, none⟩ = false ∧ w.frozen? ⟨g, 1, none⟩ = false ∧ w.frozen? ⟨g, 2, none⟩ = false :=
  ⟨World.ownsRow.frozenAt h 0, World.ownsRow.frozenAt h 1, World.ownsRow.frozenAt h 2⟩
theorem B3.new (W : World) (hB : base ≤ W.heap.size) (x y z : Int) : B3 (W.alloc (.cells #[.int .i64 x, .int .i64 y, .int .i64 z] 23)) base W.heap.size x y z :=
  World.ownsRow_lit (e := 23) (size := 3) (base := base) W #[.int .i64 x, .int .i64 y, .int .i64 z] 1 hB (by unfold maxLen; omega) rfl
end
theorem B3.put {w : World} {base g : Nat} {x y z : Int} (h : B3 w base g x y z) (x' y' z' : Int) :
    (loadVar 23 ⟨g, 0, none⟩).run Tryd.prog (((w.setCell ⟨g, 0, none⟩ (.int .i64 x')).setCell ⟨g, 1, none⟩ (.int .i64 y')).setCell ⟨g, 2, none⟩ (.int .i64 z')) = .ok (bndV x' y' z') (((w.setCell ⟨g, 0, none⟩ (.int .i64 x')).setCell ⟨g, 1, none⟩ (.int .i64 y')).setCell ⟨g, 2, none⟩ (.int .i64 z'))
    ∧ w.grownBy (((w.setCell ⟨g, 0, none⟩ (.int .i64 x')).setCell ⟨g, 1, none⟩ (.int .i64 y')).setCell ⟨g, 2, none⟩ (.int .i64 z')) (some g) := by
  obtain ⟨v0, m0⟩ := World.ownsRow.stored h 0 (.int .i64 x')
  obtain ⟨v1, m1⟩ := v0.stored 1 (.int .i64 y')
  obtain ⟨v2, m2⟩ := v1.stored 2 (.int .i64 z')
  refine ⟨?_, (m0.trans m1).trans m2⟩
  obtain ⟨fr, hh⟩ := own_one' v2
  exact run_loadVar_row _ g 23 23 #[.int .i64 x', .int .i64 y', .int .i64 z'] fr _ hh Tryd.underlying23 rfl (by kernel_rfl)
theorem wide_any (w : World) : Calls Tryd.prog 5 #[] w fun e w' => e = .returned (bndV 4096 4096 40) ∧ Below w.heap.size w w' := by
  have X0 := hide (B3.new (base := w.heap.size) w (Nat.le_refl _) 0 0 0)
  have b0 := hide ((Below.refl w.heap.size w).alloc (Nat.le_refl _) (.cells #[.int .i64 0, .int .i64 0, .int .i64 0] 23))
  obtain ⟨W0, hW0⟩ : ∃ W, w.alloc (.cells #[.int .i64 0, .int .i64 0, .int .i64 0] 23) = W := ⟨_, rfl⟩
  rw [hW0] at X0 b0
  obtain ⟨y0, y1, y2⟩ := (unhide X0).cells
  obtain ⟨f0, f1, f2⟩ := (unhide X0).frozen
  obtain ⟨l, g⟩ := (unhide X0).put 4096 4096 40
  have L := hide l
  have HB := hide ((unhide b0).grown g (unhide b0).size (fun q hq => by have := Option.some.inj hq; omega))
  clear l g
  go_enter Tryd.func5, Tryd.ntmps5
  go_wp2_with fail
  (try simp only [Exit.inBlock, Exit.then])
  refine bodyPost_ret_by (v := bndV 4096 4096 40) ?_ rfl ⟨rfl, unhide HB⟩
  refine results_c1 (p := 0) (ty := 23) ?_ _ _ w.heap.size _ ?_ (unhide L) <;> rfl
end Go.Proofs.YtjpclmkekmkddabDoor
