/- Regular expressions that came in. -/
import Derived.Test.YtmgealcolofomaaHa
import Derived.Test.YtmgealcolofomaaRows
import Derived.Lib.SmallJoins
import Derived.Deep.Slices
import Derived.Deep.Strs
import Derived.Laws.IdiomArrays
import Derived.OpenShut
import Derived.Carry
import Derived.WideShapes
namespace Go.Proofs.Ytmgealcolofomaa
open Go.RowKit Kb Go.ChangeShapes Go.WideShapes Go.Joins
set_option linter.unusedVariables false
set_option maxRecDepth 20000

theorem bulk_mem {H : Type} {l : List (DataW H)} {d : DataW H} (h : d ∈ l) : Rows.uptoBulk d ≤ Rows.uptoBulkAll l := by
  induction l with
  | nil => cases h
  | cons a r ih =>
    have e : Rows.uptoBulkAll (a :: r) = Rows.uptoBulk a + Rows.uptoBulkAll r := by simp [Rows.uptoBulkAll]
    rw [e]
    rcases List.mem_cons.1 h with rfl | h
    · omega
    · have := ih h; omega
theorem bulk_len {H : Type} (l : List (DataW H)) : l.length ≤ Rows.uptoBulkAll l := by
  induction l with
  | nil => exact Nat.zero_le _
  | cons a r ih =>
    have e : Rows.uptoBulkAll (a :: r) = Rows.uptoBulk a + Rows.uptoBulkAll r := by simp [Rows.uptoBulkAll]
    have : 1 ≤ Rows.uptoBulk a := by
      cases a <;> try simp [Rows.uptoBulk]
      rename_i x; cases x <;> simp [Rows.uptoBulk]
    rw [e, List.length_cons]; omega
theorem bounds_u64 {a : Int} (h : (Lit.int .u64 a).wf = true) : 0 ≤ a ∧ a ≤ 18446744073709551615 := by
  have h1 : IntKind.u64.min = 0 := by decide
  have h2 : IntKind.u64.max = 18446744073709551615 := by decide
  simp [Lit.wf, h1, h2] at h; exact h
instance : Inhabited Rx := ⟨.mk 0 ⟨0, 0, 0, 0⟩ []⟩
theorem kd_of {W : World} {a : Addr} {len cap m : Nat} {f : Nat → Rx} (hl : len ≤ cap) (hlen : len ≤ 1048576) (hm : len ≤ m)
    (h : ∀ i, i < m → (∃ e, (W.cell? (a.add (i * 6)) = some (.int .i64 (f i).k) ∧ W.cell? ((a.add (i * 6)).add 1) = some (.int .u64 (f i).s.a) ∧ W.cell? ((a.add (i * 6)).add 2) = some (.int .u64 (f i).s.b) ∧ W.cell? ((a.add (i * 6)).add 3) = some (.int .u64 (f i).s.c) ∧ W.cell? ((a.add (i * 6)).add 4) = some (.int .u64 (f i).s.d) ∧ W.cell? ((a.add (i * 6)).add 5) = some e) ∧ Kd W (f i).ks e) ∧ Fit (f i)) :
    Kd W ((List.range len).map f) (.slice (some a) len cap) := by
  have hlenT : ((List.range len).map f).length = len := by simp
  rw [Kd]
  refine ⟨⟨some a, cap, by rw [hlenT], by rw [hlenT]; exact hl⟩, by rw [hlenT]; omega, fun hne => ?_⟩
  have hlp : 0 < len := by have := List.length_pos_iff.2 hne; rwa [hlenT] at this
  obtain ⟨⟨e, ⟨k0, _⟩, _⟩, _⟩ := h 0 (by omega)
  obtain ⟨b, off, spot⟩ := a
  have hspot : spot = none := by simpa [Addr.add] using World.cell?_spot k0
  subst hspot
  have hb : b < W.heap.size := by have := World.block_lt_of_cell? _ _ k0; simpa [Addr.add] using this
  refine ⟨b, off, cap, by rw [hlenT], hb, fun i hi => ?_⟩
  rw [hlenT] at hi
  obtain ⟨⟨e, ⟨k0, k1, k2, k3, k4, k5⟩, hk⟩, hf⟩ := h i (by omega)
  simp only [add_plain] at k0 k1 k2 k3 k4 k5
  have hx : ((List.range len).map f)[i]'(by rw [hlenT]; exact hi) = f i := by simp
  rw [hx]
  exact ⟨hf, k0, k1, k2, k3, k4, e, k5, hk⟩
theorem laidOutAll : laidOutB Try.prog = true := by kernel_rfl
end Go.Proofs.Ytmgealcolofomaa
