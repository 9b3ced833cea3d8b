/- Rows of steps sorted by the library; none twice. -/
import Derived.Test.YtmmjcbfffcnfiaaFl
import Derived.Sort.OwnSortedInts
namespace Go.Proofs.Ytmmjcbfffcnfiaa
open Go.Shelf Go.RowKit Go.Lib Go.Sort Kb Ph
set_option linter.unusedVariables false
set_option maxRecDepth 20000

def encT (x : St) : List Value := [.int .i64 x.1, .int .u8 x.2]
theorem flat_list (L : List St) : (flatK encT 2 L.toArray).toList = cellsT L := by
  apply List.ext_getElem?
  intro t
  by_cases ht : t < L.length * 2
  · have h1 := get_flatK encT 2 L.toArray t (by simpa using ht)
    have hq : t / 2 < L.length := by omega
    obtain ⟨k0, k1⟩ := cellsT_at (l := L) (j := t / 2) (h := L[t / 2]) (List.getElem?_eq_getElem hq)
    have hs : t < (flatK encT 2 L.toArray).size := by simpa using ht
    rw [getElem!_pos _ t hs] at h1
    rw [Array.getElem?_toList, Array.getElem?_eq_getElem hs, h1]
    have e0 : (L.toArray)[t / 2]! = L[t / 2] := by rw [getElem!_pos _ _ (by simpa using hq)]; simp
    rw [e0]
    have hm : t % 2 = 0 ∨ t % 2 = 1 := by omega
    rcases hm with hm | hm
    · rw [hm]
      rw [show t / 2 * 2 = t by omega] at k0
      rw [k0]; rfl
    · rw [hm]
      rw [show t / 2 * 2 + 1 = t by omega] at k1
      rw [k1]; rfl
  · rw [List.getElem?_eq_none (by simp; omega), List.getElem?_eq_none (by rw [cellsT_length]; omega)]

theorem heap_sortedK {w : World} {g n : Nat} {os : Array Obj} {cur : Array Value} {e : TypeId} {fr : Nat × Nat} (d : Array St) (hb : w.heap[g]? = some (.cells cur e fr)) :
    (sortWorldK encT 2 w g 0 n d os).heap[g]? = some (.cells (putCells id 0 (flatK encT 2 d) cur) e fr) := by
  have hg : g < w.heap.size := (Array.getElem?_eq_some_iff.1 hb).1
  unfold sortWorldK putRowK
  rw [heap_grow_old _ _ (by simpa [putRow, mapBlock, Sort.ahead] using hg)]
  simp [putRow, mapBlock, Sort.ahead, Array.getElem?_modify, hb, onCells]
theorem grownBy_sortedK {w : World} {g n : Nat} {os : Array Obj} (d : Array St) : w.grownBy (sortWorldK encT 2 w g 0 n d os) (some g) := by
  refine ⟨rfl, rfl, rfl, by simp [sortWorldK, putRowK, putRow, mapBlock, Sort.ahead, grow], fun k hk hne => ?_⟩
  unfold sortWorldK putRowK
  rw [heap_grow_old _ _ (by simpa [putRow, mapBlock, Sort.ahead] using hk)]
  have : g ≠ k := fun e => hne (by rw [e])
  simp [putRow, mapBlock, Sort.ahead, Array.getElem?_modify, this]
theorem take_putCellsV (cur : Array Value) (ts : List Value) (h : ts.length ≤ cur.size) : (putCells id 0 ts.toArray cur).toList.take ts.length = ts := by
  apply List.ext_getElem?
  intro j
  by_cases hj : j < ts.length
  · rw [List.getElem?_take_of_lt hj, Array.getElem?_toList]
    simp [putCells, hj, show j < cur.size by omega]
  · rw [List.getElem?_take_eq_none (by omega), List.getElem?_eq_none (by omega)]

theorem aggStep (w : World) : (isAgg 74).run Try.prog w = .ok true w := by kernel_rfl
theorem sizeStep (w : World) : (Go.sizeOf 74).run Try.prog w = .ok 2 w := by kernel_rfl
theorem sort_steps (w : World) (B g cap : Nat) (L : List St) (h : w.ownsRow B 74 2 (.slice (some ⟨g, 0, none⟩) L.length cap) L.length (cellsT L)) (hn : L.length ≤ 1000) :
    Calls Try.prog 44 #[.slice (some ⟨g, 0, none⟩) L.length cap, .func (.func 45) #[] #[]] w fun e w' =>
      e = .returned (.tuple #[]) ∧ ∃ L', L'.Perm L ∧ L'.Pairwise (fun a b => ¬ slt b a) ∧ w.grownBy w' (some g) ∧ w'.ownsRow B 74 2 (.slice (some ⟨g, 0, none⟩) L'.length cap) L'.length (cellsT L') := by
  have eg : ∀ args w, (callFunc 45 args).run Try.prog w = .ok (.enter 45 args) w := enters_of Try.func45 (by kernel_rfl) rfl
  have hlt := (h.lt g rfl).2
  have hH : HoldsK encT 2 w g 0 L.toArray := by
    intro j hj
    have hj2 : j < L.length * 2 := by simpa using hj
    rw [Nat.zero_add, h.cellAt j hj2, h.frozenAt]
    refine ⟨?_, rfl⟩
    have e := flat_list L
    rw [← e, Array.getElem?_toList, Array.getElem?_eq_getElem hj, getElem!_pos _ j hj]; rfl
  have hcon := AnyQ.slices_SortFunc Try.sort44 2 aggStep sizeStep encT (fun _ => rfl) (fun x v hv => by simp [encT] at hv; rcases hv with rfl | rfl <;> rfl) cf cf_swo 45 #[] g 0 cap L.toArray w eg
    (fun _ _ _ _ x y => compareSteps_any x y _) hH hlt (by simp; omega)
  have hcon : Calls Try.prog 44 #[.slice (some ⟨g, 0, none⟩) L.length cap, .func (.func 45) #[] #[]] w _ := hcon
  refine hcon.mono ?_
  rintro e w' ⟨rfl, d', n, os, hperm, hsort, rfl⟩
  obtain ⟨hp1, _, hp3⟩ := hperm
  have hsz : d'.size = L.length := by simpa using hp1
  have hpl : d'.toList.Perm L := by
    have e1 : d'.extract 0 L.toArray.size = d' := by rw [List.size_toArray, ← hsz]; exact Array.extract_size
    rw [e1, Array.extract_size] at hp3
    simpa using hp3
  have hll : d'.toList.length = L.length := by simpa using hsz
  refine ⟨rfl, d'.toList, hpl, ?_, grownBy_sortedK d', ?_⟩
  · rw [List.pairwise_iff_getElem]
    intro i j hi hj hij hs
    have := hsort i j (Nat.zero_le _) hij (by simp; simp at hj; omega)
    rw [getElem!_pos _ j (by simpa using hj), getElem!_pos _ i (by simpa using hi)] at this
    have hs2 := (cf_lt _ _).2 hs
    simp only [Array.getElem_toList] at hs2
    rw [this] at hs2; cases hs2
  · rw [hll]
    rcases h.2 with ⟨h0, _⟩ | ⟨g', cap', cur, h0, h1, h2, h3, h4, h5, h6⟩
    · cases h0
    · cases h0
      have hcl : (cellsT d'.toList).length = L.length * 2 := by rw [cellsT_length, hll]
      refine ⟨hcl, .inr ⟨g, cap, _, rfl, h1, heap_sortedK d' h2, h3, h4, by simp [putCells, h5], ?_⟩⟩
      have e := flat_list d'.toList
      have e2 : flatK encT 2 d' = (cellsT d'.toList).toArray := by rw [← e]
      rw [e2, ← hcl]
      exact take_putCellsV cur _ (by rw [hcl, h5]; exact Nat.mul_le_mul_right _ h3)

theorem ddt_mem (L : List St) (p : Nat) (hp : p ≤ L.length) (x : St) : x ∈ ddt L p ↔ x ∈ L.take p := by
  induction p with
  | zero => simp [ddt]
  | succ p ih =>
    have ih := ih (by omega)
    obtain ⟨y, hy⟩ : ∃ y, L[p]? = some y := ⟨L[p], List.getElem?_eq_getElem (by omega)⟩
    rw [ddt, List.take_add_one, hy]
    by_cases h : 1 ≤ p ∧ some y = L[p - 1]?
    · rw [if_pos h, ih]
      simp only [Option.toList, List.mem_append, List.mem_singleton]
      refine ⟨.inl, fun g => g.elim id fun e => ?_⟩
      subst e
      exact List.mem_of_getElem? (i := p - 1) (by rw [List.getElem?_take, if_pos (by omega)]; exact h.2.symm)
    · rw [if_neg h]; simp [ih]
theorem slt_trans {a b c : St} (h : ¬ slt b a) (g : slt b c) : slt a c := by unfold slt at *; omega
theorem slt_total {a b : St} (h : a ≠ b) (g : ¬ slt b a) : slt a b := by
  obtain ⟨a1, a2⟩ := a
  obtain ⟨b1, b2⟩ := b
  unfold slt at *
  simp only at *
  by_cases e : a1 = b1
  · subst e; have : a2 ≠ b2 := fun e => h (by rw [e]); omega
  · omega
theorem ddt_sorted {L : List St} (hL : L.Pairwise (fun a b => ¬ slt b a)) (p : Nat) (hp : p ≤ L.length) : (ddt L p).Pairwise slt := by
  induction p with
  | zero => simp [ddt]
  | succ p ih =>
    have ih := ih (by omega)
    obtain ⟨y, hy⟩ : ∃ y, L[p]? = some y := ⟨L[p], List.getElem?_eq_getElem (by omega)⟩
    rw [ddt, hy]
    by_cases h : 1 ≤ p ∧ some y = L[p - 1]?
    · rw [if_pos h]; exact ih
    · rw [if_neg h]
      simp only [Option.toList]
      rw [List.pairwise_append]
      refine ⟨ih, by simp, fun a ha b hb => ?_⟩
      rw [List.mem_singleton] at hb
      subst hb
      rw [ddt_mem L p (by omega)] at ha
      obtain ⟨i, hi, rfl⟩ := List.mem_iff_getElem.1 ha
      rw [List.length_take] at hi
      have hy' : L[p] = b := by rw [List.getElem?_eq_getElem (by omega)] at hy; exact Option.some.inj hy
      have hpw := List.pairwise_iff_getElem.1 hL
      rw [List.getElem_take]
      have hne : L[p - 1] ≠ b := fun e => h ⟨by omega, by rw [List.getElem?_eq_getElem (by omega), e]⟩
      have h1 : slt L[p - 1] b := slt_total hne (by rw [← hy']; exact hpw (p - 1) p (by omega) (by omega) (by omega))
      by_cases hip : i = p - 1
      · subst hip; exact h1
      · exact slt_trans (hpw i (p - 1) (by omega) (by omega) (by omega)) h1
end Go.Proofs.Ytmmjcbfffcnfiaa
