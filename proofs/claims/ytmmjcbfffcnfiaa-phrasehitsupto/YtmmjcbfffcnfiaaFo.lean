/- Trees that came in. -/
import Derived.Test.YtmmjcbfffcnfiaaFb
import Derived.Test.YtmmjcbfffcnfiaaRows
import Derived.Lib.SmallJoins
import Derived.Deep.Slices
import Derived.OpenShut
import Derived.Carry
import Derived.WideShapes
namespace Go.Proofs.Ytmmjcbfffcnfiaa
open Go.RowKit Kb Go.ChangeShapes Go.WideShapes Ph Go.Joins
set_option linter.unusedVariables false
set_option maxRecDepth 20000

theorem lits_len {H : Type} (k : IntKind) (zs : List Int) : Rows.uptoBulkAll (lits k zs : List (DataW H)) = zs.length := by
  induction zs with
  | nil => rfl
  | cons z r ih =>
    show Rows.uptoBulk (DataW.lit (.int k z)) + Rows.uptoBulkAll (lits k r : List (DataW H)) = _
    rw [ih, List.length_cons, show Rows.uptoBulk (DataW.lit (.int k z) : DataW H) = 1 by simp [Rows.uptoBulk]]; omega
theorem bulk_mem {H : Type} {l : List (DataW H)} {d : DataW H} (h : d ∈ l) : Rows.uptoBulk d ≤ Rows.uptoBulkAll l := by
  induction l with
  | nil => cases h
  | cons a r ih =>
    have e : Rows.uptoBulkAll (a :: r) = Rows.uptoBulk a + Rows.uptoBulkAll r := by simp [Rows.uptoBulkAll]
    rw [e]
    rcases List.mem_cons.1 h with rfl | h
    · omega
    · have := ih h; omega
theorem bulk_len {H : Type} (l : List (DataW H)) : l.length ≤ Rows.uptoBulkAll l := by
  induction l with
  | nil => exact Nat.zero_le _
  | cons a r ih =>
    have e : Rows.uptoBulkAll (a :: r) = Rows.uptoBulk a + Rows.uptoBulkAll r := by simp [Rows.uptoBulkAll]
    have : 1 ≤ Rows.uptoBulk a := by
      cases a <;> try simp [Rows.uptoBulk]
      rename_i x; cases x <;> simp [Rows.uptoBulk]
    rw [e, List.length_cons]; omega
set_option maxRecDepth 100000 in
/-- a cell that reads as a slice of numbers -/
theorem ints_of_cell {H : Type} {enc : TypeId × Value → H} {W : World} {n : Nat} {c : Value} {y : DataW H × List MemPlace}
    (hf : DataW.trod enc Try.prog W 0 (fun _ => true) true n 55 [c] = some y) (hk : Rows.uptoBulk y.1 ≤ 1048576) :
    ∃ zs, Ints W c zs ∧ zs.length ≤ Rows.uptoBulk y.1 ∧ ∀ x ∈ y.2, x.block < W.heap.size := by
  rcases open_ints Try.underlying55 Try.underlying3 (by kernel_rfl) hf with ⟨hcs, hx⟩ | ⟨a, len, cap, zs, hcs, _, hl, hm, hz, hx, hcell, hwz⟩
  · have e : c = .slice none 0 0 := by simpa using hcs
    subst e hx
    exact ⟨[], Ints.nil _, Nat.zero_le _, by simp⟩
  · have e : c = .slice (some a) len cap := by simpa using hcs
    subst e hx
    simp only [if_true] at hz
    have htl : (zs.take len).length = len := by rw [List.length_take]; omega
    have hblk : ∀ x ∈ MemPlace.row a zs.length, x.block < W.heap.size := by
      intro x hx
      obtain ⟨i, hi, rfl⟩ := MemPlace.mem_row.1 hx
      obtain ⟨b, off, rfl, hc⟩ := ints_at hcell (by omega)
      have hh := World.block_lt_of_cell? _ _ (hc i hi)
      simpa [MemPlace.block] using hh
    have hbulk : (zs.take len).length ≤ Rows.uptoBulk (DataW.slice (lits .i64 (zs.take len)) (lits .i64 (zs.drop len)) : DataW H) := by
      have : Rows.uptoBulk (DataW.slice (lits .i64 (zs.take len)) (lits .i64 (zs.drop len)) : DataW H) = Rows.uptoBulkAll (lits .i64 (zs.take len) : List (DataW H)) + Rows.uptoBulkAll (lits .i64 (zs.drop len) : List (DataW H)) + 1 := by simp [Rows.uptoBulk]
      rw [this, lits_len]; omega
    refine ⟨zs.take len, ⟨⟨some a, cap, by rw [htl], by rw [htl]; exact hl⟩, ?_, ?_, .inr ⟨a, cap, by rw [htl]⟩, ?_⟩, hbulk, hblk⟩
    · exact Nat.le_trans hbulk (Nat.le_trans hk (by omega))
    · intro z hz'
      exact bounds_i64 (hwz z (List.mem_of_mem_take hz'))
    · intro hne
      have hp : 0 < zs.length := by
        have := List.length_pos_iff.2 hne; rw [htl] at this; omega
      obtain ⟨b, off, rfl, hc⟩ := ints_at hcell hp
      refine ⟨b, off, cap, by rw [htl], World.block_lt_of_cell? _ _ (hc 0 hp), ?_⟩
      intro j z hj
      have hjl : j < len := by have := (List.getElem?_eq_some_iff.1 hj).1; rw [htl] at this; exact this
      rw [List.getElem?_take, if_pos hjl] at hj
      rw [hc j (by omega), List.getD, hj]; rfl

theorem cellsNode : Try.prog.cellsOf 57 = 4 := by kernel_rfl
set_option maxRecDepth 100000 in
theorem node_of_cells {H : Type} {enc : TypeId × Value → H} {W : World} {n : Nat} {cs : List Value} {y : DataW H × List MemPlace}
    (hf : DataW.trod enc Try.prog W 0 (fun _ => true) true n 57 cs = some y) (hk : Rows.uptoBulk y.1 ≤ 1048576) :
    ∃ x : Nd, ∃ e, cs = [.int .u8 x.c, .int .i64 x.up, .int .i64 x.fail, e] ∧ ((0 ≤ x.c ∧ x.c ≤ 255) ∧ (-9223372036854775808 ≤ x.up ∧ x.up ≤ 9223372036854775807) ∧ (-9223372036854775808 ≤ x.fail ∧ x.fail ≤ 9223372036854775807)) ∧
      Ints W e x.ends ∧ x.ends.length ≤ Rows.uptoBulk y.1 ∧ ∀ q ∈ y.2, q.block < W.heap.size := by
  obtain ⟨y0, y1, y2, y3, m, hx, hl, t0, t1, t2, t3⟩ := trod_struct4 Try.underlying57 hf
  rw [cellsNode] at hl
  match cs, hl with
  | [c0, c1, c2, c3], _ =>
    have k5 : Try.prog.cellsOf 5 = 1 := by kernel_rfl
    have k3 : Try.prog.cellsOf 3 = 1 := by kernel_rfl
    have ke : Try.prog.cellsOf 55 = 1 := by kernel_rfl
    simp only [k5, k3, ke, List.drop, List.take] at t0 t1 t2 t3
    obtain ⟨a0, e0, rfl, w0⟩ := DataW.trod_int Try.underlying5 t0
    obtain ⟨a1, e1, rfl, w1⟩ := DataW.trod_int Try.underlying3 t1
    obtain ⟨a2, e2, rfl, w2⟩ := DataW.trod_int Try.underlying3 t2
    simp at e0 e1 e2
    subst e0 e1 e2 hx
    have hbk : Rows.uptoBulk y3.1 + 1 ≤ Rows.uptoBulk (DataW.agg [DataW.lit (.int .u8 a0), .lit (.int .i64 a1), .lit (.int .i64 a2), y3.1]) := by
      have := bulk_mem (H := H) (l := [DataW.lit (.int .u8 a0), .lit (.int .i64 a1), .lit (.int .i64 a2), y3.1]) (d := y3.1) (by simp)
      have e : Rows.uptoBulk (DataW.agg [DataW.lit (.int .u8 a0), .lit (.int .i64 a1), .lit (.int .i64 a2), y3.1]) = Rows.uptoBulkAll [DataW.lit (.int .u8 a0), .lit (.int .i64 a1), .lit (.int .i64 a2), y3.1] + 1 := by simp [Rows.uptoBulk]
      omega
    have hk2 : Rows.uptoBulk (DataW.agg [DataW.lit (.int .u8 a0), .lit (.int .i64 a1), .lit (.int .i64 a2), y3.1]) ≤ 1048576 := hk
    obtain ⟨zs, hI, hz, hb⟩ := ints_of_cell t3 (by omega)
    have hu1 : IntKind.u8.min = 0 := by decide
    have hu2 : IntKind.u8.max = 255 := by decide
    refine ⟨⟨a0, a1, a2, zs⟩, c3, rfl, ⟨?_, bounds_i64 w1, bounds_i64 w2⟩, hI, ?_, ?_⟩
    · simp [Lit.wf, hu1, hu2] at w0; exact w0
    · show zs.length ≤ Rows.uptoBulk (DataW.agg [DataW.lit (.int .u8 a0), .lit (.int .i64 a1), .lit (.int .i64 a2), y3.1])
      omega
    · intro q hq
      exact hb q (by simpa using hq)

set_option maxRecDepth 100000 in
/-- a tree that came in -/
theorem open_tree_in {H : Type} {enc : TypeId × Value → H} {W : World} {base : Nat} {v : Value} {d : DataW H} {p : List MemPlace}
    (hval : Value.okWide Try.prog W .any base 23 v) (h : DataW.Trod enc Try.prog W 0 (fun _ => true) true 23 v d p) (hk : Rows.uptoBulk d ≤ 1048576) :
    ∃ T, Tree W v T ∧ (∀ i, i < T.length → (nd T i).ends.length ≤ 1048576) ∧ ∀ x ∈ p, x.block < W.heap.size := by
  obtain ⟨a0, len, cap, rfl⟩ := okWide_slice Try.underlying23 hval
  obtain ⟨fuel, hf⟩ := h
  rcases Deep.open_slice Try.underlying23 hf with ⟨hcs, hx⟩ | ⟨a, len', cap', m, n, D, Pl, hcs, _, hl, hm, hmm, hx, hall⟩
  · have e : Value.slice a0 len cap = .slice none 0 0 := by simpa [Value.cells] using hcs
    cases e
    cases hx
    exact ⟨[], ⟨⟨none, 0, rfl, Nat.le_refl _⟩, by show 0 ≤ _; omega, by simp, fun h => absurd rfl h⟩, fun i hi => absurd hi (Nat.not_lt_zero _), by simp⟩
  · have e : Value.slice a0 len cap = .slice (some a) len' cap' := by simpa [Value.cells] using hcs
    cases e
    simp only [if_true] at hmm
    subst hmm
    rw [cellsNode] at hx hall
    simp only [Prod.mk.injEq] at hx
    obtain ⟨hd, hp⟩ := hx
    have hsum : Rows.uptoBulkAll ((List.range len).map D) + Rows.uptoBulkAll ((List.range (m - len)).map fun j => D (len + j)) + 1 ≤ 1048576 := by
      rw [hd] at hk; simpa only [Rows.uptoBulk] using hk
    have hDk : ∀ i, i < m → Rows.uptoBulk (D i) ≤ 1048576 := by
      intro i hi
      by_cases h : i < len
      · have := bulk_mem (l := (List.range len).map D) (d := D i) (List.mem_map.2 ⟨i, List.mem_range.2 h, rfl⟩); omega
      · have := bulk_mem (l := (List.range (m - len)).map fun j => D (len + j)) (d := D i) (List.mem_map.2 ⟨i - len, List.mem_range.2 (by omega), by rw [show len + (i - len) = i by omega]⟩); omega
    have hlen48 : len ≤ 1048576 := by
      have := bulk_len ((List.range len).map D); rw [List.length_map, List.length_range] at this; omega
    have hnode : ∀ i, i < m → ∃ x : Nd, (∃ e, (W.cell? (a.add (i * 4)) = some (.int .u8 x.c) ∧ W.cell? ((a.add (i * 4)).add 1) = some (.int .i64 x.up) ∧ W.cell? ((a.add (i * 4)).add 2) = some (.int .i64 x.fail) ∧ W.cell? ((a.add (i * 4)).add 3) = some e) ∧ Ints W e x.ends) ∧
        ((0 ≤ x.c ∧ x.c ≤ 255) ∧ (-9223372036854775808 ≤ x.up ∧ x.up ≤ 9223372036854775807) ∧ (-9223372036854775808 ≤ x.fail ∧ x.fail ≤ 9223372036854775807)) ∧ x.ends.length ≤ Rows.uptoBulk (D i) ∧ ∀ q ∈ Pl i, q.block < W.heap.size := by
      intro i hi
      obtain ⟨cs', h1, h2⟩ := hall i hi
      obtain ⟨x, e, rfl, hfit, hI, hlen, hbl⟩ := node_of_cells h2 (hDk i hi)
      obtain ⟨_, _, hc⟩ := World.cells?_some h1
      refine ⟨x, ⟨e, ⟨?_, hc 1 (by omega), hc 2 (by omega), hc 3 (by omega)⟩, hI⟩, hfit, hlen, hbl⟩
      have := hc 0 (by omega)
      simpa [Addr.add] using this
    obtain ⟨f, hfn⟩ := Deep.choose_lt (α := Nd) hnode
    have hplain : 0 < m → ∃ b off, a = ⟨b, off, none⟩ ∧ b < W.heap.size := by
      intro hc
      obtain ⟨⟨e, ⟨k0, _⟩, _⟩, _⟩ := hfn 0 hc
      obtain ⟨b, off, spot⟩ := a
      have hspot : spot = none := by simpa [Addr.add] using World.cell?_spot k0
      subst hspot
      exact ⟨b, off, rfl, by have := World.block_lt_of_cell? _ _ k0; simpa [Addr.add] using this⟩
    have hlenT : ((List.range len).map f).length = len := by simp
    have hget : ∀ i x, ((List.range len).map f)[i]? = some x → i < len ∧ x = f i := by
      intro i x hi
      have hil : i < len := by have := (List.getElem?_eq_some_iff.1 hi).1; rwa [hlenT] at this
      rw [List.getElem?_map, List.getElem?_range hil] at hi
      exact ⟨hil, by simpa using hi.symm⟩
    refine ⟨(List.range len).map f, ⟨⟨some a, m, by rw [hlenT], by rw [hlenT]; exact hl⟩, ?_, ?_, ?_⟩, ?_, ?_⟩
    · rw [hlenT]; omega
    · intro x hx
      obtain ⟨i, hi, rfl⟩ := List.mem_map.1 hx
      exact (hfn i (by have := List.mem_range.1 hi; omega)).2.1
    · intro hne
      have hlp : 0 < len := by have := List.length_pos_iff.2 hne; rwa [hlenT] at this
      obtain ⟨b, off, rfl, hb⟩ := hplain (by omega)
      refine ⟨b, off, m, by rw [hlenT], hb, ?_⟩
      intro i x hi
      obtain ⟨hil, rfl⟩ := hget i x hi
      obtain ⟨⟨e, ⟨k0, k1, k2, k3⟩, hI⟩, _⟩ := hfn i (by omega)
      simp only [add_plain] at k0 k1 k2 k3
      exact ⟨k0, k1, k2, e, k3, hI⟩
    · intro i hi
      rw [hlenT] at hi
      have hT : nd ((List.range len).map f) i = f i := nd_of (by rw [List.getElem?_map, List.getElem?_range hi]; rfl)
      rw [hT]
      have h1 := (hfn i (by omega)).2.2.1
      have h2 := hDk i (by omega)
      omega
    · intro q hq
      rw [hp] at hq
      rcases List.mem_append.1 hq with hq | hq
      · obtain ⟨i, hi, rfl⟩ := MemPlace.mem_row.1 hq
        obtain ⟨b, off, rfl, hb⟩ := hplain (by omega)
        simpa [MemPlace.block, add_plain] using hb
      · obtain ⟨i, hi, hq⟩ := List.mem_flatMap.1 hq
        exact (hfn i (List.mem_range.1 hi)).2.2.2 q hq
end Go.Proofs.Ytmmjcbfffcnfiaa
