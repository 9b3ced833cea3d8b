/- A machine that goes through instructions, plain: place after place. No program is read here. -/
import Derived.Test.YtmgealcolofomaaDoorEa
import Derived.Test.YtmgealcolofomaaDoorZa
namespace Go.Proofs.YtmgealcolofomaaDoor
set_option linter.unusedVariables false
set_option maxRecDepth 20000
namespace Pm
def stop (st : St) (f : Nat) : Bool := match st.found with | some q => decide (q.1 < f) | none => false
def proc (p : List In) (s : L8) (a : Nat) : List (Nat × Nat) → St → St
  | [], st => st
  | w :: r, st => if stop st w.2 = true then st else proc p s a r (fol p s (p.length + 1) w.1 w.2 a st)
def step (p : List In) (s : L8) (a : Nat) (st : St) : St :=
  if (proc p s a st.next { st with next := [] }).found = none then fol p s (p.length + 1) 0 a a (proc p s a st.next { st with next := [] }) else proc p s a st.next { st with next := [] }
/-- what stands when the ways W1 have been gone -/
structure Pre (p : List In) (s : L8) (a : Nat) (W1 : List (Nat × Nat)) (st0 st : St) (own : Nat → Nat) : Prop where
  size : st.seen.length = st0.seen.length
  keep : ∀ k, st.seen[k]? = st0.seen[k]? ∨ Mk st a k
  sound : ∀ k, Mk st a k → Come p s (own k) a k ∧ ∃ w ∈ W1, w.2 = own k
  marks : ∀ w ∈ W1, Mk st a w.1 ∧ own w.1 ≤ w.2
  closed : ∀ k, Mk st a k → ∀ k', Eps p s.length a k k' → Mk st a k' ∧ own k' ≤ own k
  nsound : ∀ e ∈ st.next, (∃ w ∈ W1, w.2 = e.2) ∧ ∃ k, Come p s e.2 a k ∧ Byt p s a k e.1
  ncomp : ∀ k, Mk st a k → ∀ k', Byt p s a k k' → (k', own k) ∈ st.next
  sorted : st.next.Pairwise (fun x y => x.2 ≤ y.2)
  found : (st.found = st0.found ∧ ∀ k, Mk st a k → ¬ Fin6 p k) ∨ ∃ f, st.found = some (f, a) ∧ Span p s f a ∧ (∃ w ∈ W1, w.2 = f) ∧ (∀ w ∈ W1, w.2 ≤ f) ∧ ∀ k, Mk st a k → Fin6 p k → own k = f
theorem un_le (p : List In) (st : St) (a : Nat) : un p st a ≤ p.length := by
  unfold un
  exact Nat.le_trans (List.length_filter_le _ _) (by simp)
open Classical in
theorem pre_step {p : List In} {s : L8} (g : Good p) {a : Nat} {W1 : List (Nat × Nat)} {st0 st : St} {own : Nat → Nat} (h : Pre p s a W1 st0 st own) (hl : p.length ≤ st0.seen.length) (h0 : ∀ q, st0.found = some q → q.2 < a)
    (w : Nat × Nat) (hw : Come p s w.2 a w.1) (hasc : ∀ v ∈ W1, v.2 ≤ w.2) (hs : stop st w.2 = false) :
    Pre p s a (W1 ++ [w]) st0 (fol p s (p.length + 1) w.1 w.2 a st) (fun k => if Mk st a k then own k else w.2) := by
  obtain ⟨G, M⟩ := fol_go g (p.length + 1) w.1 w.2 a st (by rw [h.size]; exact hl) (Nat.lt_succ_of_le (un_le p st a)) hw
  obtain ⟨st2, hst2⟩ : ∃ st2, fol p s (p.length + 1) w.1 w.2 a st = st2 := ⟨_, rfl⟩
  rw [hst2] at G M ⊢
  obtain ⟨l, n1, m1, c1⟩ := G.next
  have nof : ∀ {q : Prop}, ¬ False := fun h => h
  refine ⟨by rw [G.size, h.size], fun k => ?_, fun k hk => ?_, fun v hv => ?_, fun k hk k' he => ?_, fun e he => ?_, fun k hk k' hb => ?_, ?_, ?_⟩
  · rcases G.keep k with e | ⟨_, e⟩
    · rcases h.keep k with e1 | e1
      · exact .inl (e.trans e1)
      · exact .inr (G.mono e1)
    · exact .inr e
  · by_cases hm : Mk st a k
    · simp only [if_pos hm]
      obtain ⟨h1, v, hv, hv2⟩ := h.sound k hm
      exact ⟨h1, v, List.mem_append_left _ hv, hv2⟩
    · simp only [if_neg hm]
      rcases G.sound k hk with h1 | h1
      · exact absurd h1 hm
      · exact ⟨h1, w, by simp, rfl⟩
  · rcases List.mem_append.1 hv with hv | hv
    · obtain ⟨h1, h2⟩ := h.marks v hv
      refine ⟨G.mono h1, ?_⟩
      simp only [if_pos h1]; exact h2
    · have : v = w := by simpa using hv
      subst this
      refine ⟨M, ?_⟩
      split
      · rename_i hm
        obtain ⟨_, u, hu, hu2⟩ := h.sound _ hm
        rw [← hu2]; exact hasc u hu
      · exact Nat.le_refl _
  · by_cases hm : Mk st a k
    · obtain ⟨h1, h2⟩ := h.closed k hm k' he
      refine ⟨G.mono h1, ?_⟩
      simp only [if_pos hm, if_pos h1]; exact h2
    · have h1 := G.closed k hk hm (fun h => h) k' he
      refine ⟨h1, ?_⟩
      simp only [if_neg hm]
      split
      · rename_i hm'
        obtain ⟨_, u, hu, hu2⟩ := h.sound _ hm'
        rw [← hu2]; exact hasc u hu
      · exact Nat.le_refl _
  · rw [n1] at he
    rcases List.mem_append.1 he with he | he
    · obtain ⟨⟨v, hv, hv2⟩, hk⟩ := h.nsound e he
      exact ⟨⟨v, List.mem_append_left _ hv, hv2⟩, hk⟩
    · obtain ⟨e2, k, hk1, hk2⟩ := m1 e he
      exact ⟨⟨w, by simp, e2.symm⟩, k, by rw [e2]; exact hk1, hk2⟩
  · rw [n1]
    by_cases hm : Mk st a k
    · simp only [if_pos hm]
      exact List.mem_append_left _ (h.ncomp k hm k' hb)
    · simp only [if_neg hm]
      exact List.mem_append_right _ (c1 k hk hm (fun h => h) k' hb)
  · rw [n1, List.pairwise_append]
    refine ⟨h.sorted, ?_, fun x hx y hy => ?_⟩
    · refine List.Pairwise.imp_of_mem (R := fun _ _ => True) ?_ (List.pairwise_of_forall (fun _ _ => trivial))
      intro x y hx hy _
      rw [(m1 x hx).1, (m1 y hy).1]; exact Nat.le_refl _
    · obtain ⟨⟨v, hv, hv2⟩, _⟩ := h.nsound x hx
      rw [(m1 y hy).1, ← hv2]; exact hasc v hv
  · rcases G.found with ⟨e1, f1⟩ | ⟨e1, f1⟩
    · rcases h.found with ⟨e0, f0⟩ | ⟨f, e0, f2, f3, f4, f5⟩
      · refine .inl ⟨e1.trans e0, fun k hk => ?_⟩
        by_cases hm : Mk st a k
        · exact f0 k hm
        · exact f1 k hk hm (fun h => h)
      · have hsf : w.2 ≤ f := by
          unfold stop at hs; rw [e0] at hs; simpa using hs
        refine .inr ⟨f, e1.trans e0, f2, ?_, fun v hv => ?_, fun k hk h6 => ?_⟩
        · obtain ⟨v, hv, hv2⟩ := f3
          exact ⟨v, List.mem_append_left _ hv, hv2⟩
        · rcases List.mem_append.1 hv with hv | hv
          · exact f4 v hv
          · have : v = w := by simpa using hv
            subst this; exact hsf
        · by_cases hm : Mk st a k
          · simp only [if_pos hm]; exact f5 k hm h6
          · exact absurd h6 (f1 k hk hm (fun h => h))
    · have hold : ∀ k, Mk st a k → Fin6 p k → own k = w.2 := by
        intro k hk h6
        rcases h.found with ⟨e0, f0⟩ | ⟨f, e0, f2, ⟨v, hv, hv2⟩, f4, f5⟩
        · exact absurd h6 (f0 k hk)
        · have hsf : w.2 ≤ f := by
            unfold stop at hs; rw [e0] at hs; simpa using hs
          have h1 := hasc v hv
          rw [f5 k hk h6]; omega
      refine .inr ⟨w.2, e1, f1, ⟨w, by simp, rfl⟩, fun v hv => ?_, fun k hk h6 => ?_⟩
      · rcases List.mem_append.1 hv with hv | hv
        · exact hasc v hv
        · have : v = w := by simpa using hv
          subst this; exact Nat.le_refl _
      · by_cases hm : Mk st a k
        · simp only [if_pos hm]; exact hold k hm h6
        · simp only [if_neg hm]
theorem proc_pre {p : List In} {s : L8} (g : Good p) {a : Nat} {st0 : St} (hl : p.length ≤ st0.seen.length) (h0 : ∀ q, st0.found = some q → q.2 < a) :
    ∀ (W W1 : List (Nat × Nat)) (st : St) (own : Nat → Nat), Pre p s a W1 st0 st own → (∀ w ∈ W, Come p s w.2 a w.1) → (W1 ++ W).Pairwise (fun x y => x.2 ≤ y.2) →
    ∃ V1 V2 own', W = V1 ++ V2 ∧ Pre p s a (W1 ++ V1) st0 (proc p s a W st) own' ∧ (V2 = [] ∨ ∃ w r q, V2 = w :: r ∧ (proc p s a W st).found = some q ∧ q.1 < w.2) := by
  intro W
  induction W with
  | nil => intro W1 st own h _ _; exact ⟨[], [], own, rfl, by rw [proc]; simpa using h, .inl rfl⟩
  | cons w r ih =>
    intro W1 st own h hc hp
    rw [proc]
    by_cases hs : stop st w.2 = true
    · rw [if_pos hs]
      refine ⟨[], w :: r, own, rfl, by simpa using h, .inr ?_⟩
      unfold stop at hs
      cases hf : st.found with
      | none => rw [hf] at hs; cases hs
      | some q => rw [hf] at hs; exact ⟨w, r, q, rfl, rfl, by simpa using hs⟩
    · rw [if_neg hs]
      have hasc : ∀ v ∈ W1, v.2 ≤ w.2 := fun v hv => (List.pairwise_append.1 hp).2.2 v hv w (by simp)
      have h2 := pre_step g h hl h0 w (hc w (by simp)) hasc (by simpa using hs)
      obtain ⟨V1, V2, own', e, hP, hE⟩ := ih (W1 ++ [w]) _ _ h2 (fun v hv => hc v (List.mem_cons_of_mem _ hv)) (by simpa using hp)
      exact ⟨w :: V1, V2, own', by rw [e]; rfl, by simpa using hP, hE⟩
/-- come to over a byte -/
def ComeB (p : List In) (s : L8) (f a i : Nat) : Prop := ∃ a0 k, a = a0 + 1 ∧ Come p s f a0 k ∧ Byt p s a0 k i
structure Inv (p : List In) (s : L8) (a : Nat) (st : St) : Prop where
  size : p.length ≤ st.seen.length
  old : ∀ (k : Nat) (v : Int), st.seen[k]? = some v → v ≤ a
  sorted : st.next.Pairwise (fun x y => x.2 ≤ y.2)
  nsound : ∀ e ∈ st.next, e.2 < a ∧ Come p s e.2 a e.1
  ncomp : ∀ f i, ComeB p s f a i → (∀ q, st.found = some q → f ≤ q.1) → ∃ e ∈ st.next, e.1 = i ∧ e.2 ≤ f
  nlim : ∀ q, st.found = some q → ∀ e ∈ st.next, e.2 ≤ q.1
  fnone : st.found = none → ∀ f t, t < a → ¬ Span p s f t
  fsome : ∀ F T, st.found = some (F, T) → T < a ∧ Span p s F T ∧ ∀ f t, t < a → Span p s f t → F < f ∨ (F = f ∧ t ≤ T)
theorem inv_zero (p : List In) (s : L8) (n : Nat) (h : p.length ≤ n) : Inv p s 0 ⟨List.replicate n 0, [], none⟩ := by
  refine ⟨by simpa using h, fun k v hv => ?_, by simp, by simp, ?_, by simp, fun _ f t h => by omega, fun F T h => by cases h⟩
  · dsimp only at hv
    rw [List.getElem?_replicate] at hv
    split at hv
    · cases hv; exact Int.le_refl _
    · cases hv
  · rintro f i ⟨a0, k, h, _⟩; omega
/-- where all that is come to over a byte is covered, all that is come to is marked -/
theorem covered {p : List In} {s : L8} {a : Nat} {W : List (Nat × Nat)} {st0 st : St} {own : Nat → Nat} (h : Pre p s a W st0 st own) {f : Nat} (hB : ∀ i, ComeB p s f a i → ∃ w ∈ W, w.1 = i ∧ w.2 ≤ f) (hS : f = a → ∃ w ∈ W, w.1 = 0 ∧ w.2 ≤ f) :
    ∀ k, Come p s f a k → Mk st a k ∧ own k ≤ f := by
  intro k hk
  have key : ∀ b k, Come p s f b k → b = a → Mk st a k ∧ own k ≤ f := by
    intro b k hc
    induction hc with
    | start hf =>
      intro e
      obtain ⟨w, hw, h1, h2⟩ := hS e
      have := h.marks w hw
      rw [h1] at this
      exact ⟨this.1, Nat.le_trans this.2 h2⟩
    | eps hc he ih =>
      intro e
      obtain ⟨h1, h2⟩ := ih e
      rw [e] at he
      obtain ⟨h3, h4⟩ := h.closed _ h1 _ he
      exact ⟨h3, Nat.le_trans h4 h2⟩
    | byt hc hb ih =>
      intro e
      obtain ⟨w, hw, h1, h2⟩ := hB _ ⟨_, _, e.symm, hc, hb⟩
      have := h.marks w hw
      rw [h1] at this
      exact ⟨this.1, Nat.le_trans this.2 h2⟩
  exact key a k hk rfl
end Pm
end Go.Proofs.YtmgealcolofomaaDoor
