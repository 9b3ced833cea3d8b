/- Slices of numbers that came in. -/
import Derived.Test.YtjpclmkekmkddaaDoorFi
import Derived.Test.YtjpclmkekmkddaaDoorRows
import Derived.OpenShut
import Derived.Carry
import Derived.WideShapes
namespace Go.Proofs.YtjpclmkekmkddaaDoor
open Go.RowKit Kb Go.ChangeShapes Go.WideShapes
set_option linter.unusedVariables false
set_option maxRecDepth 20000

theorem lits_len {H : Type} (k : IntKind) (zs : List Int) : Rows.uptoBulkAll (lits k zs : List (DataW H)) = zs.length := by
  induction zs with
  | nil => rfl
  | cons z r ih =>
    show Rows.uptoBulk (DataW.lit (.int k z)) + Rows.uptoBulkAll (lits k r : List (DataW H)) = _
    rw [ih, List.length_cons, show Rows.uptoBulk (DataW.lit (.int k z) : DataW H) = 1 by simp [Rows.uptoBulk]]; omega
set_option maxRecDepth 100000 in
/-- a slice of numbers that came in -/
theorem open_ints_in {H : Type} {enc : TypeId × Value → H} {W : World} {base : Nat} {v : Value} {d : DataW H} {p : List MemPlace}
    (hval : Value.okWide Tryd.prog W .any base 43 v) (h : DataW.Trod enc Tryd.prog W 0 (fun _ => true) true 43 v d p) (hk : Rows.uptoBulk d ≤ 1048576) :
    ∃ zs, Ints W v zs ∧ zs.length ≤ Rows.uptoBulk d ∧ ∀ x ∈ p, x.block < W.heap.size := by
  obtain ⟨a0, len, cap, rfl⟩ := okWide_slice Tryd.underlying43 hval
  obtain ⟨fuel, hf⟩ := h
  rcases open_ints Tryd.underlying43 Tryd.underlying3 (by kernel_rfl) hf with ⟨hcs, hx⟩ | ⟨a, len', cap', zs, hcs, _, hl, hm, hz, hx, hcell, hwz⟩
  · have e : Value.slice a0 len cap = .slice none 0 0 := by simpa [Value.cells] using hcs
    cases e
    cases hx
    exact ⟨[], Ints.nil _, Nat.zero_le _, by simp⟩
  · have e : Value.slice a0 len cap = .slice (some a) len' cap' := by simpa [Value.cells] using hcs
    cases e
    cases hx
    simp only [if_true] at hz
    have htl : (zs.take len).length = len := by rw [List.length_take]; omega
    have hbulk : (zs.take len).length ≤ Rows.uptoBulk (DataW.slice (lits .i64 (zs.take len)) (lits .i64 (zs.drop len)) : DataW H) := by
      have : Rows.uptoBulk (DataW.slice (lits .i64 (zs.take len)) (lits .i64 (zs.drop len)) : DataW H) = Rows.uptoBulkAll (lits .i64 (zs.take len) : List (DataW H)) + Rows.uptoBulkAll (lits .i64 (zs.drop len) : List (DataW H)) + 1 := by simp [Rows.uptoBulk]
      rw [this, lits_len]; omega
    have hblk : ∀ x ∈ MemPlace.row a zs.length, x.block < W.heap.size := by
      intro x hx
      obtain ⟨i, hi, rfl⟩ := MemPlace.mem_row.1 hx
      obtain ⟨b, off, rfl, hc⟩ := ints_at hcell (by omega)
      have hh := World.block_lt_of_cell? _ _ (hc i hi)
      simpa [MemPlace.block] using hh
    refine ⟨zs.take len, ⟨⟨some a, cap, by rw [htl], by rw [htl]; exact hl⟩, ?_, ?_, .inr ⟨a, cap, by rw [htl]⟩, ?_⟩, ?_, hblk⟩
    · omega
    · intro z hz'
      exact bounds_i64 (hwz z (List.mem_of_mem_take hz'))
    · intro hne
      have hp : 0 < zs.length := by
        have := List.length_pos_iff.2 hne; rw [htl] at this; omega
      obtain ⟨b, off, rfl, hc⟩ := ints_at hcell hp
      refine ⟨b, off, cap, by rw [htl], World.block_lt_of_cell? _ _ (hc 0 hp), ?_⟩
      intro j z hj
      have hjl : j < len := by have := (List.getElem?_eq_some_iff.1 hj).1; rw [htl] at this; exact this
      rw [List.getElem?_take, if_pos hjl] at hj
      rw [hc j (by omega), List.getD, hj]; rfl
    · exact hbulk
end Go.Proofs.YtjpclmkekmkddaaDoor
