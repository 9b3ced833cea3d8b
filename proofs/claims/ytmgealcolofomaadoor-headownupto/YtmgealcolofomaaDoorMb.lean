/- Rows of fields in memory; heads that came in. -/
import Derived.Test.YtmgealcolofomaaDoorKc
import Derived.Test.YtmgealcolofomaaDoorMa
import Derived.Test.YtmgealcolofomaaDoorRows
import Derived.Lib.SmallJoins
import Derived.Deep.Slices
import Derived.Deep.Strs
import Derived.OpenShut
import Derived.Carry
import Derived.WideShapes
import Derived.Laws.ResultCell
namespace Go.Proofs.YtmgealcolofomaaDoor
open Go.RowKit Kb Go.ChangeShapes Go.WideShapes Go.Joins
set_option linter.unusedVariables false
set_option maxRecDepth 20000
open Mh (Fl)

/-- fields as cells -/
def cellsF (l : List Fl) : List Value := l.flatMap fun x => [.string (mk x.1), .string (mk x.2)]
theorem cellsF_append (a b : List Fl) : cellsF (a ++ b) = cellsF a ++ cellsF b := by simp [cellsF]
theorem cellsF_cons (a : Fl) (r : List Fl) : cellsF (a :: r) = .string (mk a.1) :: .string (mk a.2) :: cellsF r := by simp [cellsF]
theorem cellsF_len (l : List Fl) : (cellsF l).length = l.length * 2 := by
  induction l with
  | nil => rfl
  | cons a r ih => rw [cellsF_cons, List.length_cons, List.length_cons, ih, List.length_cons]; omega
theorem cellsF_at {l : List Fl} {j : Nat} {h : Fl} (hj : l[j]? = some h) : (cellsF l)[j * 2]? = some (.string (mk h.1)) ∧ (cellsF l)[j * 2 + 1]? = some (.string (mk h.2)) := by
  induction l generalizing j with
  | nil => simp at hj
  | cons a r ih =>
    rw [cellsF_cons]
    cases j with
    | zero => simp at hj; subst hj; simp
    | succ j =>
      have := ih (j := j) (by simpa using hj)
      rw [show (j + 1) * 2 = j * 2 + 1 + 1 by omega]
      simpa using this
theorem infoF : (Tryd.prog.info? 57).map (fun i => (i.zero, i.size, i.bytes)) = some (some (.agg #[.string ByteArray.empty, .string ByteArray.empty]), 2, 32) := by kernel_rfl
/-- a slice that holds these fields -/
structure Flds (w : World) (v : Value) (fs : List Fl) : Prop where
  form : ∃ o c, v = .slice o fs.length c ∧ fs.length ≤ c
  room : fs.length ≤ 4398046511104
  sort_ : v = .slice none 0 0 ∨ ∃ a c, v = .slice (some a) fs.length c
  at_ : fs ≠ [] → ∃ g off c, v = .slice (some ⟨g, off, none⟩) fs.length c ∧ g < w.heap.size ∧ ∀ j f, fs[j]? = some f → w.cell? ⟨g, off + j * 2, none⟩ = some (.string (mk f.1)) ∧ w.cell? ⟨g, off + j * 2 + 1, none⟩ = some (.string (mk f.2))
theorem Flds.below {w w' : World} {v : Value} {fs : List Fl} (h : Flds w v fs) (b : Below w.heap.size w w') : Flds w' v fs := by
  refine ⟨h.form, h.room, h.sort_, fun hne => ?_⟩
  obtain ⟨g, off, c, h1, h2, h3⟩ := h.at_ hne
  exact ⟨g, off, c, h1, Nat.lt_of_lt_of_le h2 b.size, fun j f hj => ⟨cell_below (h3 j f hj).1 h2 b, cell_below (h3 j f hj).2 h2 b⟩⟩
theorem Flds.nil (w : World) : Flds w (.slice none 0 0) [] := ⟨⟨none, 0, rfl, Nat.le_refl _⟩, by decide, .inl rfl, fun h => absurd rfl h⟩
theorem Flds.own {w : World} {B : Nat} {v : Value} {fs : List Fl} (h : w.ownsRow B 57 2 v fs.length (cellsF fs)) (hr : fs.length ≤ 4398046511104) : Flds w v fs := by
  refine ⟨?_, hr, ?_, ?_⟩
  · rcases h.2 with ⟨h1, h2⟩ | ⟨g, cap, cur, h1, _, _, h2, _⟩
    · exact ⟨none, 0, by rw [h1, h2], by omega⟩
    · exact ⟨_, _, h1, h2⟩
  · rcases h.2 with ⟨h1, h2⟩ | ⟨g, cap, cur, h1, _, _, h2, _⟩
    · exact .inl h1
    · exact .inr ⟨_, _, h1⟩
  · intro hne
    obtain ⟨g, c, hv, hc⟩ := own_form h (List.length_pos_iff.2 hne)
    subst hv
    have hlt : g < w.heap.size := (h.lt g rfl).2
    refine ⟨g, 0, c, rfl, hlt, fun j z hj => ?_⟩
    have hj2 : j < fs.length := (List.getElem?_eq_some_iff.1 hj).1
    have := cellsF_at hj
    rw [Nat.zero_add, h.cellAt (j * 2) (by omega), h.cellAt (j * 2 + 1) (by omega)]
    exact this
/-- a head's value -/
def headV (m t : List UInt8) (v : Value) : Value := .agg #[.string (mk m), .string (mk t), v]
theorem bulk_mem {H : Type} {l : List (DataW H)} {d : DataW H} (h : d ∈ l) : Rows.uptoBulk d ≤ Rows.uptoBulkAll l := by
  induction l with
  | nil => cases h
  | cons a r ih =>
    have e : Rows.uptoBulkAll (a :: r) = Rows.uptoBulk a + Rows.uptoBulkAll r := by simp [Rows.uptoBulkAll]
    rw [e]
    rcases List.mem_cons.1 h with rfl | h
    · omega
    · have := ih h; omega
theorem bulk_len {H : Type} (l : List (DataW H)) : l.length ≤ Rows.uptoBulkAll l := by
  induction l with
  | nil => exact Nat.zero_le _
  | cons a r ih =>
    have e : Rows.uptoBulkAll (a :: r) = Rows.uptoBulk a + Rows.uptoBulkAll r := by simp [Rows.uptoBulkAll]
    have : 1 ≤ Rows.uptoBulk a := by
      cases a <;> try simp [Rows.uptoBulk]
      rename_i x; cases x <;> simp [Rows.uptoBulk]
    rw [e, List.length_cons]; omega
theorem bulk_str {H : Type} (s : ByteArray) : Rows.uptoBulk (DataW.lit (.string s.data.toList) : DataW H) = s.size + 1 := by simp [Rows.uptoBulk]
theorem flds_of {W : World} {a : Addr} {len cap m : Nat} {f : Nat → Fl} (hl : len ≤ cap) (hlen : len ≤ 1048576) (hm : len ≤ m)
    (h : ∀ i, i < m → W.cell? (a.add (i * 2)) = some (.string (mk (f i).1)) ∧ W.cell? ((a.add (i * 2)).add 1) = some (.string (mk (f i).2))) :
    Flds W (.slice (some a) len cap) ((List.range len).map f) := by
  have hlenT : ((List.range len).map f).length = len := by simp
  refine ⟨⟨some a, cap, by rw [hlenT], by rw [hlenT]; exact hl⟩, by rw [hlenT]; omega, .inr ⟨a, cap, by rw [hlenT]⟩, fun hne => ?_⟩
  have hlp : 0 < len := by have := List.length_pos_iff.2 hne; rwa [hlenT] at this
  obtain ⟨k0, _⟩ := h 0 (by omega)
  obtain ⟨b, off, spot⟩ := a
  have hspot : spot = none := by simpa [Addr.add] using World.cell?_spot k0
  subst hspot
  have hb : b < W.heap.size := by have := World.block_lt_of_cell? _ _ k0; simpa [Addr.add] using this
  refine ⟨b, off, cap, by rw [hlenT], hb, fun i x hx => ?_⟩
  have hi : i < len := by have := (List.getElem?_eq_some_iff.1 hx).1; rwa [hlenT] at this
  obtain ⟨k0, k1⟩ := h i (by omega)
  simp only [add_plain] at k0 k1
  have e : x = f i := by
    rw [List.getElem?_map, List.getElem?_range hi] at hx
    exact (Option.some.inj hx).symm
  rw [e]
  exact ⟨k0, k1⟩
set_option maxRecDepth 100000 in
/-- a slice of fields that came in -/
theorem flds_of_cells {H : Type} {enc : TypeId × Value → H} {W : World} {n : Nat} {c : Value} {y : DataW H × List MemPlace}
    (hf : DataW.trod enc Tryd.prog W 0 (fun _ => true) true n 22 [c] = some y) (hk : Rows.uptoBulk y.1 ≤ 1048576) :
    ∃ fs, Flds W c fs ∧ (fs.length ≤ 1048576 ∧ ∀ f ∈ fs, f.1.length + f.2.length ≤ 1048576) ∧ ∀ q ∈ y.2, q.block < W.heap.size := by
  rcases Deep.open_slice Tryd.underlying22 hf with ⟨hcs, h2⟩ | ⟨a, len, cap, mm, n', D, Pl, hcs, _, hl, hm, hmm, h2, hall⟩
  · have e : c = .slice none 0 0 := by simpa using hcs
    subst e h2
    exact ⟨[], Flds.nil _, ⟨Nat.zero_le _, by simp⟩, by simp⟩
  · have e : c = .slice (some a) len cap := by simpa using hcs
    subst e h2
    simp only [if_true] at hmm
    subst hmm
    have cellsFd : Tryd.prog.cellsOf 57 = 2 := by kernel_rfl
    rw [cellsFd] at hall
    have hsum : Rows.uptoBulkAll ((List.range len).map D) + Rows.uptoBulkAll ((List.range (mm - len)).map fun j => D (len + j)) + 1 ≤ 1048576 := by
      simpa only [Rows.uptoBulk] using hk
    have hlen48 : len ≤ 1048576 := by
      have := bulk_len ((List.range len).map D); rw [List.length_map, List.length_range] at this; omega
    have hnode : ∀ i, i < mm → ∃ x : Fl, ((W.cell? (a.add (i * 2)) = some (.string (mk x.1)) ∧ W.cell? ((a.add (i * 2)).add 1) = some (.string (mk x.2))) ∧ x.1.length + x.2.length ≤ Rows.uptoBulk (D i)) ∧ Pl i = [] := by
      intro i hi
      obtain ⟨cs', h1, h2⟩ := hall i hi
      obtain ⟨y0, y1, m, hx, hl2, t0, t1⟩ := trod_struct2 Tryd.underlying57 h2
      rw [cellsFd] at hl2
      match cs', hl2 with
      | [c0, c1], _ =>
        have ks : Tryd.prog.cellsOf 9 = 1 := by kernel_rfl
        simp only [ks, List.drop, List.take] at t0 t1
        obtain ⟨s0, e0, rfl, w0⟩ := DataW.trod_string Tryd.underlying9 t0
        obtain ⟨s1, e1, rfl, w1⟩ := DataW.trod_string Tryd.underlying9 t1
        simp at e0 e1
        subst e0 e1
        simp only [Prod.mk.injEq] at hx
        obtain ⟨_, _, hc⟩ := World.cells?_some h1
        refine ⟨(s0.data.toList, s1.data.toList), ⟨⟨?_, ?_⟩, ?_⟩, by rw [hx.2]; rfl⟩
        · have := hc 0 (by decide)
          rw [mk_data]
          simpa [Addr.add] using this
        · rw [mk_data]
          exact hc 1 (by decide)
        · rw [hx.1]
          simp [Rows.uptoBulk, Rows.uptoBulkAll]
          omega
    obtain ⟨f, hfn⟩ := Deep.choose_lt (α := Fl) hnode
    refine ⟨(List.range len).map f, flds_of hl hlen48 hl (fun i hi => (hfn i hi).1.1), ⟨by simpa using hlen48, ?_⟩, ?_⟩
    · intro x hx
      obtain ⟨i, hi, rfl⟩ := List.mem_map.1 hx
      have h1 := (hfn i (by have := List.mem_range.1 hi; omega)).1.2
      have h2 := bulk_mem (l := (List.range len).map D) (d := D i) (List.mem_map.2 ⟨i, hi, rfl⟩)
      omega
    · intro q hq
      simp only [cellsFd] at hq
      rcases List.mem_append.1 hq with hq | hq
      · obtain ⟨i, hi, rfl⟩ := MemPlace.mem_row.1 hq
        obtain ⟨⟨⟨k0, _⟩, _⟩, _⟩ := hfn 0 (by omega)
        obtain ⟨b, off, spot⟩ := a
        have hspot : spot = none := by simpa [Addr.add] using World.cell?_spot k0
        subst hspot
        have hb : b < W.heap.size := by have := World.block_lt_of_cell? _ _ k0; simpa [Addr.add] using this
        simpa [MemPlace.block, add_plain] using hb
      · obtain ⟨i, hi, hq⟩ := List.mem_flatMap.1 hq
        rw [(hfn i (List.mem_range.1 hi)).2] at hq
        cases hq
theorem laidOutAll : laidOutB Tryd.prog = true := by kernel_rfl
set_option maxRecDepth 100000 in
/-- a head that came in -/
theorem open_head_in {H : Type} {enc : TypeId × Value → H} {W : World} {base : Nat} {v : Value} {d : DataW H} {p : List MemPlace}
    (hval : Value.okWide Tryd.prog W .any base 24 v) (h : DataW.Trod enc Tryd.prog W 0 (fun _ => true) true 24 v d p) (hk : Rows.uptoBulk d ≤ 1048576) :
    ∃ m t u fs, v = headV m t u ∧ Flds W u fs ∧ (m.length + t.length ≤ 1048576 ∧ fs.length ≤ 1048576 ∧ ∀ f ∈ fs, f.1.length + f.2.length ≤ 1048576) ∧ ∀ x ∈ p, x.block < W.heap.size := by
  obtain ⟨cs, rfl, hcs⟩ := okWide_struct Tryd.underlying24 hval
  obtain ⟨fuel, hf⟩ := h
  obtain ⟨y0, y1, y2, m, hx, hl, t0, t1, t2⟩ := Deep.trod_struct3 Tryd.underlying24 hf
  have ch : Tryd.prog.cellsOf 24 = 3 := by kernel_rfl
  rw [ch] at hl
  obtain ⟨cs⟩ := cs
  simp only [Value.cells] at hl t0 t1 t2
  match cs, hl with
  | [c0, c1, c2], _ =>
    have ks : Tryd.prog.cellsOf 9 = 1 := by kernel_rfl
    have kf : Tryd.prog.cellsOf 22 = 1 := by kernel_rfl
    simp only [ks, kf, List.drop, List.take] at t0 t1 t2
    obtain ⟨s0, e0, rfl, w0⟩ := DataW.trod_string Tryd.underlying9 t0
    obtain ⟨s1, e1, rfl, w1⟩ := DataW.trod_string Tryd.underlying9 t1
    simp at e0 e1
    subst e0 e1
    simp only [Prod.mk.injEq] at hx
    obtain ⟨hx1, hx2⟩ := hx
    subst hx1 hx2
    simp only [Rows.uptoBulk, Rows.uptoBulkAll] at hk
    obtain ⟨fs, hF, hb, hp⟩ := flds_of_cells t2 (by omega)
    refine ⟨s0.data.toList, s1.data.toList, c2, fs, by rw [headV, mk_data, mk_data], hF, ⟨?_, hb.1, hb.2⟩, ?_⟩
    · have : s0.data.toList.length + s1.data.toList.length ≤ 1048576 := by
        simp at hk ⊢; omega
      exact this
    · intro q hq
      simp at hq
      exact hp q hq
end Go.Proofs.YtmgealcolofomaaDoor
