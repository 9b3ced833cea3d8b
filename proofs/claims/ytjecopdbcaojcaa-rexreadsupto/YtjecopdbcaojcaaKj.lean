/- The program's making of nodes. -/
import Derived.Test.YtjecopdbcaojcaaKi
namespace Go.Proofs.Ytjecopdbcaojcaa
open Go.RowKit Kb
set_option linter.unusedVariables false
set_option maxRecDepth 20000

set_option maxHeartbeats 1000000 in
theorem nodeR_any (k : Int) (o : Option Addr) (n c : Nat) (w : World) :
    Calls Try.prog 29 #[.int .i64 k, .slice o n c] w fun e w' => e = .returned (.agg #[.int .i64 k, .int .u64 0, .int .u64 0, .int .u64 0, .int .u64 0, .slice o n c]) ∧ Below w.heap.size w w' := by
  go_enter Try.func29, Try.ntmps29
  go_wp2_with fail
  refine bodyPost_ret_by (v := .agg #[.int .i64 k, .int .u64 0, .int .u64 0, .int .u64 0, .int .u64 0, .slice o n c]) ?_ rfl ⟨rfl, (Below.refl _ _).alloc (Nat.le_refl _) _⟩
  exact results_cell_row (ty := 27) rfl _ _ w.heap.size _ #[.int .i64 k, .int .u64 0, .int .u64 0, .int .u64 0, .int .u64 0, .slice o n c] _ _ rfl (heap_alloc_new w _) Try.underlying27 rfl (by kernel_rfl)
theorem heap_alloc2 (w : World) (o p : Obj) : ((w.alloc o).alloc p).heap[w.heap.size + 1]? = some p := by
  have := heap_alloc_new (w.alloc o) p
  rwa [show (w.alloc o).heap.size = w.heap.size + 1 by simp] at this
set_option maxHeartbeats 1000000 in
theorem byteOf_any (s : Se) (w : World) :
    Calls Try.prog 50 #[setV s] w fun e w' => e = .returned (.agg #[.int .i64 3, .int .u64 s.a, .int .u64 s.b, .int .u64 s.c, .int .u64 s.d, .slice none 0 0]) ∧ Below w.heap.size w w' := by
  obtain ⟨s1, s2, s3, s4⟩ := s
  unfold setV
  dsimp only
  go_enter Try.func50, Try.ntmps50
  go_wp2_with fail
  refine bodyPost_ret_by (v := .agg #[.int .i64 3, .int .u64 s1, .int .u64 s2, .int .u64 s3, .int .u64 s4, .slice none 0 0]) ?_ rfl ⟨rfl, ((Below.refl _ _).alloc (Nat.le_refl _) _).alloc (by simp) _⟩
  exact results_cell_row (ty := 27) rfl _ _ (w.heap.size + 1) _ #[.int .i64 3, .int .u64 s1, .int .u64 s2, .int .u64 s3, .int .u64 s4, .slice none 0 0] _ _ rfl (heap_alloc2 w _ _) Try.underlying27 rfl (by kernel_rfl)
end Go.Proofs.Ytjecopdbcaojcaa
