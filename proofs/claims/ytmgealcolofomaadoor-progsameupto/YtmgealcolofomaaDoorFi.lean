/- Rows of numbers that came in or were made. -/
import Derived.Test.YtmgealcolofomaaDoorKc
namespace Go.Proofs.YtmgealcolofomaaDoor
open Go.RowKit Kb
set_option linter.unusedVariables false
set_option maxRecDepth 20000

/-- a slice that holds these numbers -/
structure Ints (w : World) (v : Value) (zs : List Int) : Prop where
  form : ∃ o c, v = .slice o zs.length c ∧ zs.length ≤ c
  room : zs.length ≤ 140737488355328
  fits : ∀ z ∈ zs, -9223372036854775808 ≤ z ∧ z ≤ 9223372036854775807
  sort_ : v = .slice none 0 0 ∨ ∃ a c, v = .slice (some a) zs.length c
  at_ : zs ≠ [] → ∃ g off c, v = .slice (some ⟨g, off, none⟩) zs.length c ∧ g < w.heap.size ∧ ∀ j z, zs[j]? = some z → w.cell? ⟨g, off + j, none⟩ = some (.int .i64 z)
theorem Ints.below {w w' : World} {v : Value} {zs : List Int} (h : Ints w v zs) (b : Below w.heap.size w w') : Ints w' v zs := by
  refine ⟨h.form, h.room, h.fits, h.sort_, fun hne => ?_⟩
  obtain ⟨g, off, c, h1, h2, h3⟩ := h.at_ hne
  exact ⟨g, off, c, h1, Nat.lt_of_lt_of_le h2 b.size, fun j z hj => cell_below (h3 j z hj) h2 b⟩
theorem Ints.nil (w : World) : Ints w (.slice none 0 0) [] := ⟨⟨none, 0, rfl, Nat.le_refl _⟩, by decide, by simp, .inl rfl, fun h => absurd rfl h⟩
def cellsZ (l : List Int) : List Value := l.map (Value.int .i64)
theorem cellsZ_append (a b : List Int) : cellsZ (a ++ b) = cellsZ a ++ cellsZ b := by simp [cellsZ]
theorem Ints.own {w : World} {B : Nat} {v : Value} {zs : List Int} (h : w.ownsRow B 3 1 v zs.length (cellsZ zs)) (hr : zs.length ≤ 140737488355328)
    (hf : ∀ z ∈ zs, -9223372036854775808 ≤ z ∧ z ≤ 9223372036854775807) : Ints w v zs := by
  refine ⟨?_, hr, hf, ?_, ?_⟩
  · rcases h.2 with ⟨h1, h2⟩ | ⟨g, cap, cur, h1, _, _, h2, _⟩
    · exact ⟨none, 0, by rw [h1, h2], by omega⟩
    · exact ⟨_, _, h1, h2⟩
  · rcases h.2 with ⟨h1, h2⟩ | ⟨g, cap, cur, h1, _, _, h2, _⟩
    · exact .inl h1
    · exact .inr ⟨_, _, h1⟩
  · intro hne
    obtain ⟨g, c, hv, hc⟩ := own_form h (List.length_pos_iff.2 hne)
    subst hv
    have hlt : g < w.heap.size := (h.lt g rfl).2
    refine ⟨g, 0, c, rfl, hlt, fun j z hj => ?_⟩
    have hj2 : j < zs.length := (List.getElem?_eq_some_iff.1 hj).1
    rw [Nat.zero_add, h.cellAt j (by omega), cellsZ, List.getElem?_map, hj]; rfl

theorem two_ints (w : World) (a b : Int) (t : TypeId) (ha : -9223372036854775808 ≤ a ∧ a ≤ 9223372036854775807) (hb : -9223372036854775808 ≤ b ∧ b ≤ 9223372036854775807) :
    Ints (w.alloc (.cells #[.int .i64 a, .int .i64 b] t)) (.slice (some ⟨w.heap.size, 0, none⟩) 2 2) [a, b] := by
  refine ⟨⟨_, 2, rfl, Nat.le_refl _⟩, by show 2 ≤ _; omega, ?_, .inr ⟨_, _, rfl⟩, fun _ => ⟨w.heap.size, 0, 2, rfl, by simp, ?_⟩⟩
  · intro z hz
    simp at hz
    rcases hz with rfl | rfl
    · exact ha
    · exact hb
  · intro j z hj
    rw [Nat.zero_add, World.cell?_alloc_new w _ _ j]
    match j, hj with
    | 0, hj => simpa using hj
    | 1, hj => simpa using hj
theorem mem_below {w w' : World} {a : Addr} {x : Value} (h : w.cell? a = some x) (hb : Below w.heap.size w w') : w'.cell? a = some x :=
  (hb.cell (World.block_lt_of_cell? _ _ h)).trans h
theorem ret_i {k : IntKind} {a b : Int} (h : a = b) : Ending.returned (.int k a) = .returned (.int k b) := by rw [h]
end Go.Proofs.YtmgealcolofomaaDoor
