/- A list of instructions that came in. -/
import Derived.Test.YtmgealcolofomaaEl
import Derived.Test.YtmgealcolofomaaHb
namespace Go.Proofs.Ytmgealcolofomaa
open Go.RowKit Kb Go.ChangeShapes Go.WideShapes Go.Joins
set_option linter.unusedVariables false
set_option maxRecDepth 20000
instance : Inhabited In := ⟨⟨0, 0, 0, ⟨0, 0, 0, 0⟩⟩⟩
def inAt (W : World) (a : Addr) (x : In) : Prop :=
  W.cell? a = some (.int .i64 x.k) ∧ W.cell? (a.add 1) = some (.int .i64 x.a) ∧ W.cell? (a.add 2) = some (.int .i64 x.b) ∧ W.cell? (a.add 3) = some (.int .u64 x.s.a) ∧ W.cell? (a.add 4) = some (.int .u64 x.s.b) ∧ W.cell? (a.add 5) = some (.int .u64 x.s.c) ∧ W.cell? (a.add 6) = some (.int .u64 x.s.d)
theorem insts_of {W : World} {a : Addr} {len cap m : Nat} {f : Nat → In} (hl : len ≤ cap) (hm : len ≤ m)
    (h : ∀ i, i < m → inAt W (a.add (i * 7)) (f i) ∧ FitS (f i).s) :
    Insts W (.slice (some a) len cap) ((List.range len).map f) := by
  have hlenT : ((List.range len).map f).length = len := by simp
  refine ⟨⟨some a, cap, by rw [hlenT], by rw [hlenT]; exact hl⟩, ?_, fun hne => ?_⟩
  · intro x hx
    obtain ⟨i, hi, rfl⟩ := List.mem_map.1 hx
    exact (h i (by have := List.mem_range.1 hi; omega)).2
  have hlp : 0 < len := by have := List.length_pos_iff.2 hne; rwa [hlenT] at this
  obtain ⟨⟨k0, _⟩, _⟩ := h 0 (by omega)
  obtain ⟨b, off, spot⟩ := a
  have hspot : spot = none := by simpa [Addr.add] using World.cell?_spot k0
  subst hspot
  have hb : b < W.heap.size := by have := World.block_lt_of_cell? _ _ k0; simpa [Addr.add] using this
  refine ⟨b, off, cap, by rw [hlenT], hb, fun i x hx => ?_⟩
  have hi : i < len := by have := (List.getElem?_eq_some_iff.1 hx).1; rwa [hlenT] at this
  obtain ⟨⟨k0, k1, k2, k3, k4, k5, k6⟩, _⟩ := h i (by omega)
  simp only [add_plain] at k0 k1 k2 k3 k4 k5 k6
  have e : x = f i := by
    rw [List.getElem?_map, List.getElem?_range hi] at hx
    exact (Option.some.inj hx).symm
  rw [e]
  exact ⟨k0, k1, k2, k3, k4, k5, k6⟩
theorem Insts.none (W : World) : Insts W (.slice none 0 0) [] := ⟨⟨_, 0, rfl, Nat.le_refl _⟩, by simp, fun h => absurd rfl h⟩
set_option maxRecDepth 100000 in
set_option maxHeartbeats 1000000 in
theorem insts_of_cells {H : Type} {enc : TypeId × Value → H} {W : World} {n : Nat} {c : Value} {y : DataW H × List MemPlace}
    (hf : DataW.trod enc Try.prog W 0 (fun _ => true) true n 22 [c] = some y) (hk : Rows.uptoBulk y.1 ≤ 1048576) :
    ∃ p, Insts W c p ∧ p.length ≤ 1048576 ∧ ∀ q ∈ y.2, q.block < W.heap.size := by
  rcases Deep.open_slice Try.underlying22 hf with ⟨hcs, h2⟩ | ⟨a, len, cap, mm, n', D, Pl, hcs, _, hl, hm, hmm, h2, hall⟩
  · have e : c = .slice none 0 0 := by simpa using hcs
    subst e h2
    exact ⟨[], Insts.none _, Nat.zero_le _, by simp⟩
  · have e : c = .slice (some a) len cap := by simpa using hcs
    subst e h2
    simp only [if_true] at hmm
    subst hmm
    have cellsIn : Try.prog.cellsOf 40 = 7 := by kernel_rfl
    rw [cellsIn] at hall
    have hsum : Rows.uptoBulkAll ((List.range len).map D) + Rows.uptoBulkAll ((List.range (mm - len)).map fun j => D (len + j)) + 1 ≤ 1048576 := by
      simpa only [Rows.uptoBulk] using hk
    have hlen48 : len ≤ 1048576 := by
      have := bulk_len ((List.range len).map D); rw [List.length_map, List.length_range] at this; omega
    have hnode : ∀ i, i < mm → ∃ x : In, (inAt W (a.add (i * 7)) x ∧ FitS x.s) ∧ Pl i = [] := by
      intro i hi
      obtain ⟨cs', h1, h2⟩ := hall i hi
      obtain ⟨y0, y1, y2, y3, m, hx, hl2, t0, t1, t2, t3⟩ := trod_struct4 Try.underlying40 h2
      rw [cellsIn] at hl2
      match cs', hl2 with
      | [c0, c1, c2, c3, c4, c5, c6], _ =>
        have k3 : Try.prog.cellsOf 3 = 1 := by kernel_rfl
        have ks : Try.prog.cellsOf 38 = 4 := by kernel_rfl
        have ku : Try.prog.cellsOf 36 = 1 := by kernel_rfl
        simp only [k3, ks, List.drop, List.take] at t0 t1 t2 t3
        obtain ⟨a0, e0, rfl, w0⟩ := DataW.trod_int Try.underlying3 t0
        obtain ⟨a1, e1, rfl, w1⟩ := DataW.trod_int Try.underlying3 t1
        obtain ⟨a2, e2, rfl, w2⟩ := DataW.trod_int Try.underlying3 t2
        obtain ⟨z0, z1, z2, z3, m2, hz, s0, s1, s2, s3⟩ := trod_array4 Try.underlying38 ku t3
        obtain ⟨b0, f0, rfl, v0⟩ := DataW.trod_int Try.underlying36 s0
        obtain ⟨b1, f1, rfl, v1⟩ := DataW.trod_int Try.underlying36 s1
        obtain ⟨b2, f2, rfl, v2⟩ := DataW.trod_int Try.underlying36 s2
        obtain ⟨b3, f3, rfl, v3⟩ := DataW.trod_int Try.underlying36 s3
        simp at e0 e1 e2 f0 f1 f2 f3
        subst e0 e1 e2 f0 f1 f2 f3 hz
        simp only [Prod.mk.injEq] at hx
        obtain ⟨_, _, hc⟩ := World.cells?_some h1
        refine ⟨⟨a0, a1, a2, ⟨b0, b1, b2, b3⟩⟩, ⟨⟨?_, hc 1 (by decide), hc 2 (by decide), hc 3 (by decide), hc 4 (by decide), hc 5 (by decide), hc 6 (by decide)⟩, bounds_u64 v0, bounds_u64 v1, bounds_u64 v2, bounds_u64 v3⟩, by rw [hx.2]; rfl⟩
        have := hc 0 (by decide)
        simpa [Addr.add] using this
    obtain ⟨f, hfn⟩ := Deep.choose_lt (α := In) hnode
    refine ⟨(List.range len).map f, insts_of hl hl (fun i hi => (hfn i (by omega)).1), by simpa using hlen48, ?_⟩
    intro q hq
    simp only [cellsIn] at hq
    rcases List.mem_append.1 hq with hq | hq
    · obtain ⟨i, hi, rfl⟩ := MemPlace.mem_row.1 hq
      obtain ⟨⟨⟨k0, _⟩, _⟩, _⟩ := hfn 0 (by omega)
      obtain ⟨b, off, spot⟩ := a
      have hspot : spot = none := by simpa [Addr.add] using World.cell?_spot k0
      subst hspot
      have hb : b < W.heap.size := by have := World.block_lt_of_cell? _ _ k0; simpa [Addr.add] using this
      simpa [MemPlace.block, add_plain] using hb
    · obtain ⟨i, hi, hq⟩ := List.mem_flatMap.1 hq
      rw [(hfn i (List.mem_range.1 hi)).2] at hq
      cases hq
/-- a list of instructions that came in -/
theorem open_insts_in {H : Type} {enc : TypeId × Value → H} {W : World} {base : Nat} {v : Value} {d : DataW H} {p : List MemPlace}
    (hval : Value.okWide Try.prog W .any base 22 v) (h : DataW.Trod enc Try.prog W 0 (fun _ => true) true 22 v d p) (hk : Rows.uptoBulk d ≤ 1048576) :
    ∃ l, Insts W v l ∧ l.length ≤ 1048576 ∧ ∀ x ∈ p, x.block < W.heap.size := by
  obtain ⟨a0, len, cap, rfl⟩ := okWide_slice Try.underlying22 hval
  obtain ⟨fuel, hf⟩ := h
  exact insts_of_cells (y := (d, p)) hf hk
end Go.Proofs.Ytmgealcolofomaa
