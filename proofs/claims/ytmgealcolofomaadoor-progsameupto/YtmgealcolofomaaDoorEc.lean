/- A machine that goes through instructions, plain: what is found is the first span. No program is read here. -/
import Derived.Test.YtmgealcolofomaaDoorEb
namespace Go.Proofs.YtmgealcolofomaaDoor
set_option linter.unusedVariables false
set_option maxRecDepth 20000
namespace Pm
theorem step_inv {p : List In} {s : L8} (g : Good p) {a : Nat} {st : St} (h : Inv p s a st) (ha : a ≤ s.length) : Inv p s (a + 1) (step p s a st) := by
  have hl : p.length ≤ ({ st with next := [] } : St).seen.length := h.size
  have h0 : ∀ q, ({ st with next := [] } : St).found = some q → q.2 < a := fun q hq => (h.fsome q.1 q.2 hq).1
  have hFa : ∀ q, st.found = some q → q.1 < a := fun q hq => by
    obtain ⟨h1, h2, _⟩ := h.fsome q.1 q.2 hq
    obtain ⟨k, hk, _⟩ := h2
    have := hk.le; omega
  have nomk : ∀ k, ¬ Mk { st with next := [] } a k := fun k hk => by
    have := h.old k _ hk; omega
  have P0 : Pre p s a [] { st with next := [] } { st with next := [] } (fun _ => 0) :=
    ⟨rfl, fun _ => .inl rfl, fun k hk => absurd hk (nomk k), by simp, fun k hk => absurd hk (nomk k), by simp, fun k hk => absurd hk (nomk k), by simp, .inl ⟨rfl, fun k hk => absurd hk (nomk k)⟩⟩
  obtain ⟨V1, V2, own, hW, hP, hE⟩ := proc_pre g hl h0 st.next [] { st with next := [] } (fun _ => 0) P0 (fun w hw => (h.nsound w hw).2) (by simpa using h.sorted)
  rw [List.nil_append] at hP
  -- all in all: the ways gone, and what stands
  have fin : ∃ W' own', Pre p s a W' { st with next := [] } (step p s a st) own' ∧ (∀ w ∈ W', w ∈ st.next ∨ (w = (0, a) ∧ (st.found = none)))
      ∧ (∀ w ∈ st.next, w ∈ W' ∨ ∃ q, (step p s a st).found = some q ∧ q.1 < w.2) ∧ ((0, a) ∈ W' ∨ ∃ q, (step p s a st).found = some q ∧ q.1 < a) := by
    unfold step
    by_cases hn : (proc p s a st.next { st with next := [] }).found = none
    · rw [if_pos hn]
      have hV2 : V2 = [] := by
        rcases hE with h | ⟨w, r, q, _, hq, _⟩
        · exact h
        · rw [hn] at hq; cases hq
      subst hV2
      rw [List.append_nil] at hW
      have hst : st.found = none := by
        rcases hP.found with ⟨e, _⟩ | ⟨f, e, _⟩
        · rw [hn] at e; exact e.symm
        · rw [hn] at e; cases e
      have hc : Come p s a a 0 := .start ha
      have h2 := pre_step g hP hl h0 (0, a) hc (fun v hv => by
        rw [← hW] at hv
        exact Nat.le_of_lt (h.nsound v hv).1) (by unfold stop; rw [hn])
      refine ⟨V1 ++ [(0, a)], _, h2, fun w hw => ?_, fun w hw => ?_, ?_⟩
      · rcases List.mem_append.1 hw with hw | hw
        · left; rw [hW]; exact hw
        · right; exact ⟨by simpa using hw, hst⟩
      · left; rw [hW] at hw; exact List.mem_append_left _ hw
      · left; simp
    · rw [if_neg hn]
      refine ⟨V1, own, hP, fun w hw => .inl (by rw [hW]; exact List.mem_append_left _ hw), fun w hw => ?_, ?_⟩
      · rw [hW] at hw
        rcases List.mem_append.1 hw with hw | hw
        · exact .inl hw
        · right
          rcases hE with e | ⟨v, r, q, e, hq, hlt⟩
          · rw [e] at hw; cases hw
          · refine ⟨q, hq, ?_⟩
            have hs := h.sorted
            rw [hW, e] at hs
            have hs2 := (List.pairwise_append.1 hs).2.1
            rw [e] at hw
            rcases List.mem_cons.1 hw with hw | hw
            · rw [hw]; exact hlt
            · have := (List.pairwise_cons.1 hs2).1 w hw; omega
      · right
        cases hf : (proc p s a st.next { st with next := [] }).found with
        | none => exact absurd hf hn
        | some q =>
          refine ⟨q, rfl, ?_⟩
          rcases hP.found with ⟨e, _⟩ | ⟨f, e, _, ⟨w, hw, hw2⟩, _⟩
          · exact hFa q (by rw [hf] at e; exact e.symm)
          · rw [hf] at e
            cases e
            have : w ∈ st.next := by rw [hW]; exact List.mem_append_left _ hw
            have := (h.nsound w this).1
            dsimp only; omega
  obtain ⟨W', own', hP', hin, hout, hst⟩ := fin
  obtain ⟨st2, hst2⟩ : ∃ st2, step p s a st = st2 := ⟨_, rfl⟩
  rw [hst2] at hP' hout hst ⊢
  -- within the limit all is covered
  have lim : ∀ f, (∀ q, st2.found = some q → f ≤ q.1) → ∀ k, Come p s f a k → Mk st2 a k ∧ own' k ≤ f := by
    intro f hf
    have hold : ∀ q, st.found = some q → f ≤ q.1 := by
      intro q hq
      rcases hP'.found with ⟨e, _⟩ | ⟨f', e, _, ⟨w, hw, hw2⟩, _⟩
      · exact hf q (e.trans hq)
      · have h1 := hf _ e
        dsimp only at h1
        rcases hin w hw with hw3 | ⟨_, hn⟩
        · have := h.nlim q hq w hw3; omega
        · rw [hn] at hq; cases hq
    refine covered hP' (fun i hi => ?_) (fun e => ?_)
    · obtain ⟨e, he, h1, h2⟩ := h.ncomp f i hi hold
      rcases hout e he with h3 | ⟨q, hq, h3⟩
      · exact ⟨e, h3, h1, h2⟩
      · have := hf q hq; omega
    · rcases hst with h1 | ⟨q, hq, h1⟩
      · exact ⟨_, h1, rfl, by dsimp only; omega⟩
      · have := hf q hq; omega
  have wlt : ∀ w ∈ W', w.2 ≤ a := fun w hw => by
    rcases hin w hw with h1 | ⟨h1, _⟩
    · exact Nat.le_of_lt (h.nsound w h1).1
    · rw [h1]; exact Nat.le_refl _
  refine ⟨by rw [hP'.size]; exact hl, fun k v hv => ?_, hP'.sorted, fun e he => ?_, ?_, ?_, ?_, ?_⟩
  · rcases hP'.keep k with e | e
    · have := h.old k v (by rw [e] at hv; exact hv); omega
    · unfold Mk at e; rw [e] at hv; cases hv; omega
  · obtain ⟨⟨w, hw, hw2⟩, k, hk, hb⟩ := hP'.nsound e he
    have := wlt w hw
    exact ⟨by omega, .byt hk hb⟩
  · rintro f i ⟨a0, k, e, hk, hb⟩ hf
    obtain rfl : a = a0 := by omega
    obtain ⟨h1, h2⟩ := lim f hf k hk
    exact ⟨_, hP'.ncomp k h1 i hb, rfl, h2⟩
  · intro q hq e he
    obtain ⟨⟨w, hw, hw2⟩, _⟩ := hP'.nsound e he
    rcases hP'.found with ⟨e1, _⟩ | ⟨f, e1, _, _, h4, _⟩
    · have hq0 : st.found = some q := by rw [hq] at e1; exact e1.symm
      rcases hin w hw with h1 | ⟨_, hn⟩
      · rw [← hw2]; exact h.nlim q hq0 w h1
      · rw [hn] at hq0; cases hq0
    · rw [hq] at e1
      cases e1
      rw [← hw2]; exact h4 w hw
  · intro hn f t ht hsp
    rcases hP'.found with ⟨e1, f1⟩ | ⟨f', e1, _⟩
    · have hst0 : st.found = none := by rw [hn] at e1; exact e1.symm
      by_cases h1 : t < a
      · exact h.fnone hst0 f t h1 hsp
      · obtain rfl : t = a := by omega
        obtain ⟨k, hk, h6⟩ := hsp
        exact f1 k (lim f (fun q hq => by rw [hn] at hq; cases hq) k hk).1 h6
    · rw [hn] at e1; cases e1
  · intro F T hf
    rcases hP'.found with ⟨e1, f1⟩ | ⟨f', e1, f2, ⟨w, hw, hw2⟩, f4, f5⟩
    · have hst0 : st.found = some (F, T) := by rw [hf] at e1; exact e1.symm
      obtain ⟨h1, h2, h3⟩ := h.fsome F T hst0
      refine ⟨by omega, h2, fun f t ht hsp => ?_⟩
      by_cases h4 : t < a
      · exact h3 f t h4 hsp
      · obtain rfl : t = a := by omega
        left
        refine Nat.lt_of_not_le fun hle => ?_
        obtain ⟨k, hk, h6⟩ := hsp
        exact f1 k (lim f (fun q hq => by rw [hf] at hq; cases hq; exact hle) k hk).1 h6
    · rw [hf] at e1
      cases e1
      refine ⟨by omega, f2, fun f t ht hsp => ?_⟩
      by_cases h4 : t < a
      · cases hs0 : st.found with
        | none => exact absurd hsp (h.fnone hs0 f t h4)
        | some q =>
          obtain ⟨F0, T0⟩ := q
          obtain ⟨h1, h2, h3⟩ := h.fsome F0 T0 hs0
          have hF : F ≤ F0 := by
            rcases hin w hw with h5 | ⟨_, hn⟩
            · have := h.nlim _ hs0 w h5; dsimp only at this; omega
            · rw [hn] at hs0; cases hs0
          have := h3 f t h4 hsp
          omega
      · obtain rfl : t = a := by omega
        by_cases hle : f ≤ F
        · right
          obtain ⟨k, hk, h6⟩ := hsp
          obtain ⟨h7, h8⟩ := lim f (fun q hq => by rw [hf] at hq; cases hq; exact hle) k hk
          have := f5 k h7 h6
          exact ⟨by omega, Nat.le_refl _⟩
        · left; omega
/-- what is come to behind a place was come to there over a byte -/
theorem passes {p : List In} {s : L8} {f t k : Nat} (h : Come p s f t k) {a : Nat} (h1 : f < a) (h2 : a ≤ t) : ∃ i, ComeB p s f a i := by
  induction h with
  | start _ => omega
  | eps _ _ ih => exact ih h2
  | byt hc hb ih =>
    rename_i b j k'
    by_cases e : a = b + 1
    · exact ⟨_, b, _, e, hc, hb⟩
    · exact ih (by omega)
theorem span_le {p : List In} {s : L8} {f t : Nat} (h : Span p s f t) : f ≤ t ∧ t ≤ s.length := by
  obtain ⟨k, hk, _⟩ := h
  exact hk.le
open Classical in
noncomputable def spanB (p : List In) (s : L8) (f t : Nat) : Bool := decide (Span p s f t)
theorem spanB_iff (p : List In) (s : L8) (f t : Nat) : spanB p s f t = true ↔ Span p s f t := by unfold spanB; simp
theorem spanB_no (p : List In) (s : L8) (f t : Nat) : spanB p s f t = false ↔ ¬ Span p s f t := by unfold spanB; simp
/-- behind the text's end, or with a span found and no way left, the span found is the first one -/
theorem first_of_inv {p : List In} {s : L8} {a : Nat} {st : St} (h : Inv p s a st) (he : s.length < a ∨ (st.found ≠ none ∧ st.next = [])) : Sp.First (spanB p s) st.found := by
  cases hf : st.found with
  | none =>
    rcases he with he | ⟨he, _⟩
    · intro i j
      rw [spanB_no]
      intro hs
      have := span_le hs
      exact h.fnone hf i j (by omega) hs
    · exact absurd hf he
  | some q =>
    obtain ⟨F, T⟩ := q
    obtain ⟨h1, h2, h3⟩ := h.fsome F T hf
    have far : ∀ f t, Span p s f t → a ≤ t → F < f := by
      intro f t hs ht
      rcases he with he | ⟨_, he⟩
      · have := span_le hs; omega
      · refine Nat.lt_of_not_le fun hle => ?_
        obtain ⟨k, hk, _⟩ := hs
        have hFT := span_le h2
        obtain ⟨i, hi⟩ := passes hk (a := a) (by omega) ht
        obtain ⟨e, hm, _⟩ := h.ncomp f i hi (fun q hq => by rw [hf] at hq; cases hq; exact hle)
        rw [he] at hm; cases hm
    refine ⟨(spanB_iff _ _ _ _).2 h2, fun k hk => ?_, fun i k hi => ?_⟩
    · have hs := (spanB_iff _ _ _ _).1 hk
      by_cases hka : k < a
      · have := h3 F k hka hs; omega
      · have := far F k hs (by omega); omega
    · rw [spanB_no]
      intro hs
      by_cases hka : k < a
      · have := h3 i k hka hs; omega
      · have := far i k hs (by omega); omega
/-- whether there is one: known when one is found, or behind the text's end -/
theorem some_of_inv {p : List In} {s : L8} {a : Nat} {st : St} (h : Inv p s a st) (he : s.length < a ∨ st.found ≠ none) : st.found.isSome = true ↔ ∃ i j, Span p s i j := by
  cases hf : st.found with
  | none =>
    rcases he with he | he
    · constructor
      · intro h; cases h
      · rintro ⟨i, j, hs⟩
        have := span_le hs
        exact absurd hs (h.fnone hf i j (by omega))
    · exact absurd hf he
  | some q => exact ⟨fun _ => ⟨q.1, q.2, (h.fsome q.1 q.2 hf).2.1⟩, fun _ => rfl⟩
end Pm
end Go.Proofs.YtmgealcolofomaaDoor
