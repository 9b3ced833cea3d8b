/- The program's reader: each node is given a list of its own (apart): what lies in memory. -/
import Derived.Test.YtmhjfiaohbioeaaKv
import Derived.Maps.AppendAt
namespace Go.Proofs.Ytmhjfiaohbioeaa
open Go.RowKit Kb
set_option linter.unusedVariables false
set_option maxRecDepth 20000

def cellsL (ps : List (Rx × Value)) : List Value := ps.flatMap fun p => cellsX p.1.k p.1.s p.2
theorem cellsL_cons (p : Rx × Value) (r : List (Rx × Value)) : cellsL (p :: r) = .int .i64 p.1.k :: .int .u64 p.1.s.a :: .int .u64 p.1.s.b :: .int .u64 p.1.s.c :: .int .u64 p.1.s.d :: p.2 :: cellsL r := by simp [cellsL, cellsX]
theorem cellsL_length (ps : List (Rx × Value)) : (cellsL ps).length = ps.length * 6 := by
  induction ps with
  | nil => rfl
  | cons p r ih => rw [cellsL_cons]; simp only [List.length_cons, ih]; omega
theorem cellsL_at {ps : List (Rx × Value)} {j : Nat} {p : Rx × Value} (h : ps[j]? = some p) : (cellsL ps)[j * 6]? = some (.int .i64 p.1.k) ∧ (cellsL ps)[j * 6 + 1]? = some (.int .u64 p.1.s.a) ∧ (cellsL ps)[j * 6 + 2]? = some (.int .u64 p.1.s.b) ∧ (cellsL ps)[j * 6 + 3]? = some (.int .u64 p.1.s.c) ∧ (cellsL ps)[j * 6 + 4]? = some (.int .u64 p.1.s.d) ∧ (cellsL ps)[j * 6 + 5]? = some p.2 := by
  induction ps generalizing j with
  | nil => simp at h
  | cons a r ih =>
    rw [cellsL_cons]
    cases j with
    | zero => simp at h; subst h; simp
    | succ j =>
      have := ih (j := j) (by simpa using h)
      rw [show (j + 1) * 6 = j * 6 + 1 + 1 + 1 + 1 + 1 + 1 by omega]
      simpa using this
theorem cellsL_set {ps : List (Rx × Value)} {j : Nat} (h : j < ps.length) (k s1 s2 s3 s4 : Int) (e : Value) (x : Rx) (hx : x.k = k ∧ x.s = ⟨s1, s2, s3, s4⟩) : ((((((cellsL ps).set (j * 6) (.int .i64 k)).set (j * 6 + 1) (.int .u64 s1)).set (j * 6 + 2) (.int .u64 s2)).set (j * 6 + 3) (.int .u64 s3)).set (j * 6 + 4) (.int .u64 s4)).set (j * 6 + 5) e = cellsL (ps.set j (x, e)) := by
  induction ps generalizing j with
  | nil => simp at h
  | cons a r ih =>
    cases j with
    | zero => rw [List.set_cons_zero, cellsL_cons, cellsL_cons, hx.1, hx.2]; simp
    | succ j =>
      rw [List.set_cons_succ, cellsL_cons, cellsL_cons, show (j + 1) * 6 = j * 6 + 1 + 1 + 1 + 1 + 1 + 1 by omega]
      have := ih (j := j) (by simpa using h)
      rw [← this]
      simp only [List.set_cons_succ, show j * 6 + 1 + 1 + 1 + 1 + 1 + 1 + 1 = j * 6 + 1 + 1 + 1 + 1 + 1 + 1 + 1 from rfl, show j * 6 + 1 + 1 + 1 + 1 + 1 + 1 + 2 = (j * 6 + 2) + 1 + 1 + 1 + 1 + 1 + 1 by omega, show j * 6 + 1 + 1 + 1 + 1 + 1 + 1 + 3 = (j * 6 + 3) + 1 + 1 + 1 + 1 + 1 + 1 by omega, show j * 6 + 1 + 1 + 1 + 1 + 1 + 1 + 4 = (j * 6 + 4) + 1 + 1 + 1 + 1 + 1 + 1 by omega, show j * 6 + 1 + 1 + 1 + 1 + 1 + 1 + 5 = (j * 6 + 5) + 1 + 1 + 1 + 1 + 1 + 1 by omega]
theorem cellsL_one {ps : List (Rx × Value)} (h : ∀ p ∈ ps, ∃ o n c, p.2 = .slice o n c) : ∀ u ∈ cellsL ps, u.oneCell' = true := by
  induction ps with
  | nil => simp [cellsL]
  | cons p r ih =>
    intro u hu
    rw [cellsL_cons] at hu
    simp only [List.mem_cons] at hu
    rcases hu with rfl | rfl | rfl | rfl | rfl | rfl | hu
    · rfl
    · rfl
    · rfl
    · rfl
    · rfl
    · obtain ⟨o, n, c, hp⟩ := h p List.mem_cons_self
      rw [hp]; rfl
    · exact ih (fun q hq => h q (List.mem_cons_of_mem _ hq)) u hu
/-- the kids as a list of expressions and values -/
theorem Kd.list {w : World} {l : List Rx} {v : Value} (h : Kd w l v) : ∃ ps : List (Rx × Value), ps.map Prod.fst = l ∧ (∀ p ∈ ps, Fit p.1 ∧ Kd w p.1.ks p.2) ∧
    (l ≠ [] → ∃ g off c, v = .slice (some ⟨g, off, none⟩) l.length c ∧ g < w.heap.size ∧ ∀ j u, (cellsL ps)[j]? = some u → w.cell? ⟨g, off + j, none⟩ = some u) := by
  have hk := h
  rw [Kd] at h
  by_cases hne : l = []
  · subst hne
    exact ⟨[], rfl, fun p hp => by simp at hp, fun hn => absurd rfl hn⟩
  obtain ⟨g, off, c, h1, h2, h3⟩ := h.2.2 hne
  have h4 : ∀ i : Fin l.length, ∃ e, w.cell? ⟨g, off + i.val * 6 + 5, none⟩ = some e ∧ Kd w l[i.val].ks e := fun i => by
    obtain ⟨_, _, _, _, _, _, e, k5, h5⟩ := h3 i.val i.isLt
    exact ⟨e, k5, h5⟩
  obtain ⟨f, hf⟩ := Classical.axiomOfChoice h4
  refine ⟨(List.finRange l.length).map fun i => (l[i.val], f i), ?_, ?_, fun _ => ⟨g, off, c, h1, h2, ?_⟩⟩
  · rw [List.map_map]
    apply List.ext_getElem?
    intro i
    by_cases hi : i < l.length
    · simp [hi]
    · rw [List.getElem?_eq_none (by simp; omega), List.getElem?_eq_none (by omega)]
  · intro p hp
    obtain ⟨i, _, rfl⟩ := List.mem_map.1 hp
    exact ⟨(h3 i.val i.isLt).1, (hf i).2⟩
  · intro j u hu
    have hjl : j < l.length * 6 := by
      have := (List.getElem?_eq_some_iff.1 hu).1
      rw [cellsL_length] at this
      simpa using this
    obtain ⟨q, r, hqr, hr⟩ : ∃ q r, j = q * 6 + r ∧ r < 6 := ⟨j / 6, j % 6, by omega, by omega⟩
    subst hqr
    have hq : q < l.length := by omega
    have hps : ((List.finRange l.length).map fun i => (l[i.val], f i))[q]? = some (l[q], f ⟨q, hq⟩) := by simp [hq]
    obtain ⟨k0, k1, k2, k3, k4, k5⟩ := cellsL_at hps
    obtain ⟨_, c0, c1, c2, c3, c4, e, c5, _⟩ := h3 q hq
    have c5' := (hf ⟨q, hq⟩).1
    dsimp only at k0 k1 k2 k3 k4 k5 c5'
    rw [← Nat.add_assoc]
    have hr6 : r = 0 ∨ r = 1 ∨ r = 2 ∨ r = 3 ∨ r = 4 ∨ r = 5 := by omega
    rcases hr6 with rfl | rfl | rfl | rfl | rfl | rfl
    · rw [Nat.add_zero, k0] at hu; rw [← hu]; exact c0
    · rw [k1] at hu; rw [← hu]; exact c1
    · rw [k2] at hu; rw [← hu]; exact c2
    · rw [k3] at hu; rw [← hu]; exact c3
    · rw [k4] at hu; rw [← hu]; exact c4
    · rw [k5] at hu; rw [← hu]; exact c5'
theorem infoR : (Try.prog.info? 27).map (fun i => (i.zero, i.size, i.bytes)) = some (some (.agg #[.int .i64 0, .int .u64 0, .int .u64 0, .int .u64 0, .int .u64 0, .slice none 0 0]), 6, 64) := by kernel_rfl
end Go.Proofs.Ytmhjfiaohbioeaa
