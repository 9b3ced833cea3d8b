/- Slices of texts that came in; how many nodes words make. -/
import Derived.Test.YtmmjcbfffcnfiaaFy
import Derived.Test.YtmmjcbfffcnfiaaRows
import Derived.Lib.SmallJoins
import Derived.SliceStrings
import Derived.OpenShut
import Derived.Carry
import Derived.WideShapes
namespace Go.Proofs.Ytmmjcbfffcnfiaa
open Go.RowKit Kb Go.ChangeShapes Go.WideShapes Ph Go.Joins
set_option linter.unusedVariables false
set_option maxRecDepth 20000

theorem Strs.nil (w : World) : Strs w (.slice none 0 0) [] := ⟨⟨none, 0, rfl, Nat.le_refl _⟩, by decide, .inl rfl, fun h => absurd rfl h⟩
theorem strs_bulk {H : Type} (ss : List ByteArray) : ss.length ≤ Rows.uptoBulkAll (strs ss : List (DataW H)) ∧ ∀ s ∈ ss, s.size ≤ Rows.uptoBulkAll (strs ss : List (DataW H)) := by
  induction ss with
  | nil => exact ⟨Nat.zero_le _, by simp⟩
  | cons s r ih =>
    have e : Rows.uptoBulkAll (strs (s :: r) : List (DataW H)) = s.size + 1 + Rows.uptoBulkAll (strs r : List (DataW H)) := by
      show Rows.uptoBulk (DataW.lit (.string s.data.toList)) + Rows.uptoBulkAll (strs r : List (DataW H)) = _
      rw [show Rows.uptoBulk (DataW.lit (.string s.data.toList) : DataW H) = s.size + 1 by simp [Rows.uptoBulk]]
    rw [e]
    refine ⟨by rw [List.length_cons]; have := ih.1; omega, ?_⟩
    intro x hx
    rcases List.mem_cons.1 hx with rfl | hx
    · omega
    · have := ih.2 x hx; omega
set_option maxRecDepth 100000 in
/-- a slice of texts that came in -/
theorem open_strs_in {H : Type} {enc : TypeId × Value → H} {W : World} {base : Nat} {v : Value} {d : DataW H} {p : List MemPlace}
    (hval : Value.okWide Try.prog W .any base 22 v) (h : DataW.Trod enc Try.prog W 0 (fun _ => true) true 22 v d p) (hk : Rows.uptoBulk d ≤ 1048576) :
    ∃ ws, Strs W v ws ∧ (ws.length ≤ 1048576 ∧ ∀ x ∈ ws, x.size ≤ 1048576) ∧ ∀ x ∈ p, x.block < W.heap.size := by
  obtain ⟨a0, len, cap, rfl⟩ := okWide_slice Try.underlying22 hval
  obtain ⟨fuel, hf⟩ := h
  rcases open_strings Try.underlying22 Try.underlying9 (by kernel_rfl) hf with ⟨hcs, hx⟩ | ⟨a, len', cap', ss, hcs, _, hl, hm, hz, hx, hcell, hwz⟩
  · have e : Value.slice a0 len cap = .slice none 0 0 := by simpa [Value.cells] using hcs
    cases e
    cases hx
    exact ⟨[], Strs.nil _, ⟨Nat.zero_le _, by simp⟩, by simp⟩
  · have e : Value.slice a0 len cap = .slice (some a) len' cap' := by simpa [Value.cells] using hcs
    cases e
    cases hx
    simp only [if_true] at hz
    have htl : (ss.take len).length = len := by rw [List.length_take]; omega
    have hbulk : Rows.uptoBulk (DataW.slice (strs (ss.take len)) (strs (ss.drop len)) : DataW H) = Rows.uptoBulkAll (strs (ss.take len) : List (DataW H)) + Rows.uptoBulkAll (strs (ss.drop len) : List (DataW H)) + 1 := by simp [Rows.uptoBulk]
    rw [hbulk] at hk
    have hbs := strs_bulk (H := H) (ss.take len)
    have hplain : 0 < ss.length → ∃ b off, a = ⟨b, off, none⟩ ∧ ∀ j, j < ss.length → W.cell? ⟨b, off + j, none⟩ = some (.string (ss.getD j ByteArray.empty)) := by
      intro hp
      obtain ⟨b, off, spot⟩ := a
      have hspot : spot = none := by simpa [Addr.add] using World.cell?_spot (hcell 0 hp)
      subst hspot
      exact ⟨b, off, rfl, fun j hj => by rw [← Go.WideShapes.add_plain]; exact hcell j hj⟩
    have hblk : ∀ x ∈ MemPlace.row a ss.length, x.block < W.heap.size := by
      intro x hx
      obtain ⟨i, hi, rfl⟩ := MemPlace.mem_row.1 hx
      obtain ⟨b, off, rfl, hc⟩ := hplain (by omega)
      have hh := World.block_lt_of_cell? _ _ (hc i hi)
      simpa [MemPlace.block] using hh
    refine ⟨ss.take len, ⟨⟨some a, cap, by rw [htl], by rw [htl]; exact hl⟩, ?_, .inr ⟨a, cap, by rw [htl]⟩, ?_⟩, ⟨by omega, fun x hx => by have := hbs.2 x hx; omega⟩, hblk⟩
    · have := hbs.1; omega
    · intro hne
      have hp : 0 < ss.length := by
        have := List.length_pos_iff.2 hne; rw [htl] at this; omega
      obtain ⟨b, off, rfl, hc⟩ := hplain hp
      refine ⟨b, off, cap, by rw [htl], World.block_lt_of_cell? _ _ (hc 0 hp), ?_⟩
      intro j z hj
      have hjl : j < len := by have := (List.getElem?_eq_some_iff.1 hj).1; rw [htl] at this; exact this
      rw [List.getElem?_take, if_pos hjl] at hj
      rw [hc j (by omega), List.getD, hj]; rfl

theorem nodup_len {α : Type} [DecidableEq α] : ∀ (a b : List α), a.Nodup → (∀ x ∈ a, x ∈ b) → a.length ≤ b.length
  | [], _, _, _ => Nat.zero_le _
  | x :: a, b, hn, hs => by
    have hx := hs x List.mem_cons_self
    rw [List.nodup_cons] at hn
    have := nodup_len a (b.erase x) hn.2 (fun y hy => (List.mem_erase_of_ne (fun e => by subst e; exact hn.1 hy)).2 (hs y (List.mem_cons_of_mem _ hy)))
    have hl := List.length_erase_of_mem hx
    have hp := List.length_pos_of_mem hx
    rw [List.length_cons]; omega
theorem GI.small {ws : List ByteArray} {d : Nat} {T : List Nd} {at_ : List Nat} {X : List (List UInt8)} {lev : Nat} (h : GI ws d T at_ X lev) (b : List (List UInt8)) (hb : ∀ t, (t = [] ∨ ∃ i, i < ws.length ∧ t <+: wd ws i) → t ∈ b) : T.length ≤ b.length := by
  have := nodup_len ((List.range T.length).map (xt X)) b ?_ ?_
  · simpa using this
  · rw [List.nodup_iff_pairwise_ne, List.pairwise_map]
    refine List.Pairwise.imp_of_mem ?_ (List.pairwise_lt_range (n := T.length))
    intro i j hi hj hij
    exact h.tx.inj j (List.mem_range.1 hj) i hij
  · intro x hx
    obtain ⟨j, hj, rfl⟩ := List.mem_map.1 hx
    refine hb _ ?_
    rcases h.pre j (List.mem_range.1 hj) with rfl | g
    · exact .inl h.xroot
    · exact .inr g
theorem pre_mem {α : Type} {t l : List α} (h : t <+: l) : t ∈ (List.range (l.length + 1)).map l.take := by
  obtain ⟨u, rfl⟩ := h
  exact List.mem_map.2 ⟨t.length, List.mem_range.2 (by simp; omega), by simp⟩
/-- all beginnings of words -/
def begs (ws : List ByteArray) : List (List UInt8) := [] :: (List.range ws.length).flatMap fun i => (List.range ((wd ws i).length + 1)).map (wd ws i).take
theorem GI.begs {ws : List ByteArray} {d : Nat} {T : List Nd} {at_ : List Nat} {X : List (List UInt8)} {lev : Nat} (h : GI ws d T at_ X lev) : T.length ≤ (begs ws).length := by
  refine h.small _ ?_
  rintro t (rfl | ⟨i, hi, hp⟩)
  · exact List.mem_cons_self
  · exact List.mem_cons_of_mem _ (List.mem_flatMap.2 ⟨i, List.mem_range.2 hi, pre_mem hp⟩)
end Go.Proofs.Ytmmjcbfffcnfiaa
