/- Regular expressions that came in. -/
import Derived.Test.YtmgealcolofomaaDoorHa
import Derived.Test.YtmgealcolofomaaDoorRows
import Derived.Lib.SmallJoins
import Derived.Deep.Slices
import Derived.Deep.Strs
import Derived.Laws.IdiomArrays
import Derived.OpenShut
import Derived.Carry
import Derived.WideShapes
namespace Go.Proofs.YtmgealcolofomaaDoor
open Go.RowKit Kb Go.ChangeShapes Go.WideShapes Go.Joins
set_option linter.unusedVariables false
set_option maxRecDepth 20000

theorem bulk_mem {H : Type} {l : List (DataW H)} {d : DataW H} (h : d ∈ l) : Rows.uptoBulk d ≤ Rows.uptoBulkAll l := by
  induction l with
  | nil => cases h
  | cons a r ih =>
    have e : Rows.uptoBulkAll (a :: r) = Rows.uptoBulk a + Rows.uptoBulkAll r := by simp [Rows.uptoBulkAll]
    rw [e]
    rcases List.mem_cons.1 h with rfl | h
    · omega
    · have := ih h; omega
theorem bulk_len {H : Type} (l : List (DataW H)) : l.length ≤ Rows.uptoBulkAll l := by
  induction l with
  | nil => exact Nat.zero_le _
  | cons a r ih =>
    have e : Rows.uptoBulkAll (a :: r) = Rows.uptoBulk a + Rows.uptoBulkAll r := by simp [Rows.uptoBulkAll]
    have : 1 ≤ Rows.uptoBulk a := by
      cases a <;> try simp [Rows.uptoBulk]
      rename_i x; cases x <;> simp [Rows.uptoBulk]
    rw [e, List.length_cons]; omega
theorem cellsRex : Tryd.prog.cellsOf 38 = 6 := by kernel_rfl
theorem bounds_u64 {a : Int} (h : (Lit.int .u64 a).wf = true) : 0 ≤ a ∧ a ≤ 18446744073709551615 := by
  have h1 : IntKind.u64.min = 0 := by decide
  have h2 : IntKind.u64.max = 18446744073709551615 := by decide
  simp [Lit.wf, h1, h2] at h; exact h
instance : Inhabited Rx := ⟨.mk 0 ⟨0, 0, 0, 0⟩ []⟩
theorem kd_of {W : World} {a : Addr} {len cap m : Nat} {f : Nat → Rx} (hl : len ≤ cap) (hlen : len ≤ 1048576) (hm : len ≤ m)
    (h : ∀ i, i < m → (∃ e, (W.cell? (a.add (i * 6)) = some (.int .i64 (f i).k) ∧ W.cell? ((a.add (i * 6)).add 1) = some (.int .u64 (f i).s.a) ∧ W.cell? ((a.add (i * 6)).add 2) = some (.int .u64 (f i).s.b) ∧ W.cell? ((a.add (i * 6)).add 3) = some (.int .u64 (f i).s.c) ∧ W.cell? ((a.add (i * 6)).add 4) = some (.int .u64 (f i).s.d) ∧ W.cell? ((a.add (i * 6)).add 5) = some e) ∧ Kd W (f i).ks e) ∧ Fit (f i)) :
    Kd W ((List.range len).map f) (.slice (some a) len cap) := by
  have hlenT : ((List.range len).map f).length = len := by simp
  rw [Kd]
  refine ⟨⟨some a, cap, by rw [hlenT], by rw [hlenT]; exact hl⟩, by rw [hlenT]; omega, fun hne => ?_⟩
  have hlp : 0 < len := by have := List.length_pos_iff.2 hne; rwa [hlenT] at this
  obtain ⟨⟨e, ⟨k0, _⟩, _⟩, _⟩ := h 0 (by omega)
  obtain ⟨b, off, spot⟩ := a
  have hspot : spot = none := by simpa [Addr.add] using World.cell?_spot k0
  subst hspot
  have hb : b < W.heap.size := by have := World.block_lt_of_cell? _ _ k0; simpa [Addr.add] using this
  refine ⟨b, off, cap, by rw [hlenT], hb, fun i hi => ?_⟩
  rw [hlenT] at hi
  obtain ⟨⟨e, ⟨k0, k1, k2, k3, k4, k5⟩, hk⟩, hf⟩ := h i (by omega)
  simp only [add_plain] at k0 k1 k2 k3 k4 k5
  have hx : ((List.range len).map f)[i]'(by rw [hlenT]; exact hi) = f i := by simp
  rw [hx]
  exact ⟨hf, k0, k1, k2, k3, k4, e, k5, hk⟩
set_option maxRecDepth 100000 in
theorem rex_of_cells {H : Type} {enc : TypeId × Value → H} {W : World} (N : Nat) : ∀ {n : Nat} {cs : List Value} {y : DataW H × List MemPlace},
    DataW.trod enc Tryd.prog W 0 (fun _ => true) true n 38 cs = some y → Rows.uptoBulk y.1 ≤ N → N ≤ 1048576 →
    ∃ r : Rx, ∃ e, cs = [.int .i64 r.k, .int .u64 r.s.a, .int .u64 r.s.b, .int .u64 r.s.c, .int .u64 r.s.d, e] ∧ Fit r ∧ Kd W r.ks e ∧ ∀ q ∈ y.2, q.block < W.heap.size := by
  induction N with
  | zero =>
    intro n cs y hf hk hN
    exfalso
    have : 1 ≤ Rows.uptoBulk y.1 := by
      have := bulk_len [y.1]
      have e : Rows.uptoBulkAll [y.1] = Rows.uptoBulk y.1 := by simp [Rows.uptoBulkAll]
      rw [e] at this; simpa using this
    omega
  | succ N ih =>
    intro n cs y hf hk hN
    obtain ⟨y0, y1, y2, m, hx, hl, t0, t1, t2⟩ := Deep.trod_struct3 Tryd.underlying38 hf
    rw [cellsRex] at hl
    match cs, hl with
    | [c0, c1, c2, c3, c4, c5], _ =>
      have k3 : Tryd.prog.cellsOf 3 = 1 := by kernel_rfl
      have ks : Tryd.prog.cellsOf 35 = 4 := by kernel_rfl
      have ku : Tryd.prog.cellsOf 33 = 1 := by kernel_rfl
      have ke : Tryd.prog.cellsOf 36 = 1 := by kernel_rfl
      simp only [k3, ks, ke, List.drop, List.take] at t0 t1 t2
      obtain ⟨a0, e0, rfl, w0⟩ := DataW.trod_int Tryd.underlying3 t0
      obtain ⟨z0, z1, z2, z3, m2, hz, s0, s1, s2, s3⟩ := trod_array4 Tryd.underlying35 ku t1
      obtain ⟨b0, f0, rfl, v0⟩ := DataW.trod_int Tryd.underlying33 s0
      obtain ⟨b1, f1, rfl, v1⟩ := DataW.trod_int Tryd.underlying33 s1
      obtain ⟨b2, f2, rfl, v2⟩ := DataW.trod_int Tryd.underlying33 s2
      obtain ⟨b3, f3, rfl, v3⟩ := DataW.trod_int Tryd.underlying33 s3
      simp at e0 f0 f1 f2 f3
      subst e0 f0 f1 f2 f3 hz hx
      have hb2 : Rows.uptoBulk y2.1 ≤ N := by
        simp only [Rows.uptoBulk, Rows.uptoBulkAll] at hk
        omega
      have hfit : ∀ l, Fit (.mk a0 ⟨b0, b1, b2, b3⟩ l) := fun l => ⟨bounds_i64 w0, bounds_u64 v0, bounds_u64 v1, bounds_u64 v2, bounds_u64 v3⟩
      rcases Deep.open_slice Tryd.underlying36 t2 with ⟨hcs, h2⟩ | ⟨a, len, cap, mm, n', D, Pl, hcs, _, hl, hm, hmm, h2, hall⟩
      · have e : c5 = .slice none 0 0 := by simpa using hcs
        subst e h2
        exact ⟨.mk a0 ⟨b0, b1, b2, b3⟩ [], _, rfl, hfit _, Kd.nil _, by simp⟩
      · have e : c5 = .slice (some a) len cap := by simpa using hcs
        subst e h2
        simp only [if_true] at hmm
        subst hmm
        rw [cellsRex] at hall
        have hsum : Rows.uptoBulkAll ((List.range len).map D) + Rows.uptoBulkAll ((List.range (mm - len)).map fun j => D (len + j)) + 1 ≤ N := by
          simpa only [Rows.uptoBulk] using hb2
        have hDk : ∀ i, i < mm → Rows.uptoBulk (D i) ≤ N := by
          intro i hi
          by_cases h : i < len
          · have := bulk_mem (l := (List.range len).map D) (d := D i) (List.mem_map.2 ⟨i, List.mem_range.2 h, rfl⟩); omega
          · have := bulk_mem (l := (List.range (mm - len)).map fun j => D (len + j)) (d := D i) (List.mem_map.2 ⟨i - len, List.mem_range.2 (by omega), by rw [show len + (i - len) = i by omega]⟩); omega
        have hlen48 : len ≤ 1048576 := by
          have := bulk_len ((List.range len).map D); rw [List.length_map, List.length_range] at this; omega
        have hnode : ∀ i, i < mm → ∃ x : Rx, ((∃ e, (W.cell? (a.add (i * 6)) = some (.int .i64 x.k) ∧ W.cell? ((a.add (i * 6)).add 1) = some (.int .u64 x.s.a) ∧ W.cell? ((a.add (i * 6)).add 2) = some (.int .u64 x.s.b) ∧ W.cell? ((a.add (i * 6)).add 3) = some (.int .u64 x.s.c) ∧ W.cell? ((a.add (i * 6)).add 4) = some (.int .u64 x.s.d) ∧ W.cell? ((a.add (i * 6)).add 5) = some e) ∧ Kd W x.ks e) ∧ Fit x) ∧ ∀ q ∈ Pl i, q.block < W.heap.size := by
          intro i hi
          obtain ⟨cs', h1, h2⟩ := hall i hi
          obtain ⟨x, e, rfl, hfx, hkx, hbl⟩ := ih h2 (hDk i hi) (by omega)
          obtain ⟨_, _, hc⟩ := World.cells?_some h1
          refine ⟨x, ⟨⟨e, ⟨?_, hc 1 (by omega), hc 2 (by omega), hc 3 (by omega), hc 4 (by omega), hc 5 (by omega)⟩, hkx⟩, hfx⟩, hbl⟩
          have := hc 0 (by omega)
          simpa [Addr.add] using this
        obtain ⟨f, hfn⟩ := Deep.choose_lt (α := Rx) hnode
        refine ⟨.mk a0 ⟨b0, b1, b2, b3⟩ ((List.range len).map f), _, rfl, hfit _, kd_of hl hlen48 hl (fun i hi => (hfn i hi).1), ?_⟩
        intro q hq
        simp only [List.append_nil, List.nil_append, cellsRex] at hq
        rcases List.mem_append.1 hq with hq | hq
        · obtain ⟨i, hi, rfl⟩ := MemPlace.mem_row.1 hq
          obtain ⟨⟨⟨e, ⟨k0, _⟩, _⟩, _⟩, _⟩ := hfn 0 (by omega)
          obtain ⟨b, off, spot⟩ := a
          have hspot : spot = none := by simpa [Addr.add] using World.cell?_spot k0
          subst hspot
          have hb : b < W.heap.size := by have := World.block_lt_of_cell? _ _ k0; simpa [Addr.add] using this
          simpa [MemPlace.block, add_plain] using hb
        · obtain ⟨i, hi, hq⟩ := List.mem_flatMap.1 hq
          exact (hfn i (List.mem_range.1 hi)).2 q hq
theorem laidOutAll : laidOutB Tryd.prog = true := by kernel_rfl
/-- an expression that came in -/
theorem open_rex_in {H : Type} {enc : TypeId × Value → H} {W : World} {base : Nat} {v : Value} {d : DataW H} {p : List MemPlace}
    (hval : Value.okWide Tryd.prog W .any base 38 v) (h : DataW.Trod enc Tryd.prog W 0 (fun _ => true) true 38 v d p) (hk : Rows.uptoBulk d ≤ 1048576) :
    ∃ r, RexV W v r ∧ ∀ x ∈ p, x.block < W.heap.size := by
  obtain ⟨cs, rfl, hcs⟩ := okWide_struct Tryd.underlying38 hval
  obtain ⟨fuel, hf⟩ := h
  obtain ⟨r, e, h1, h2, h3, h4⟩ := rex_of_cells 1048576 hf hk (Nat.le_refl _)
  refine ⟨r, ⟨⟨e, ?_, h3⟩, h2⟩, h4⟩
  have : cs.toList = _ := h1
  rw [rexV, ← this]
end Go.Proofs.YtmgealcolofomaaDoor
