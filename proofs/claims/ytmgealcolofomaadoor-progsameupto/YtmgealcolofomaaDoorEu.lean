/- Thompson, plain: the code of an expression is come through just where the expression matches. No program is read here. -/
import Derived.Test.YtmgealcolofomaaDoorEc
import Derived.Test.YtmgealcolofomaaDoorZa
namespace Go.Proofs.YtmgealcolofomaaDoor
set_option linter.unusedVariables false
set_option maxRecDepth 20000
namespace Pm
/-- t steps, from an instruction at a place to one at a place -/
inductive Steps (p : List In) (s : L8) : Nat → Nat → Nat → Nat → Nat → Prop
  | refl (i a : Nat) : Steps p s 0 i a i a
  | eps {t i a j k b : Nat} : Eps p s.length a i j → Steps p s t j a k b → Steps p s (t + 1) i a k b
  | byt {t i a j k b : Nat} : Byt p s a i j → Steps p s t j (a + 1) k b → Steps p s (t + 1) i a k b
theorem Steps.trans {p : List In} {s : L8} {t u i a j b k c : Nat} (h : Steps p s t i a j b) (h' : Steps p s u j b k c) : ∃ v, Steps p s v i a k c := by
  induction h with
  | refl => exact ⟨u, h'⟩
  | eps e _ ih => obtain ⟨v, hv⟩ := ih h'; exact ⟨v + 1, .eps e hv⟩
  | byt e _ ih => obtain ⟨v, hv⟩ := ih h'; exact ⟨v + 1, .byt e hv⟩
theorem Steps.come {p : List In} {s : L8} {f t i a k b : Nat} (h : Steps p s t i a k b) (hc : Come p s f a i) : Come p s f b k := by
  induction h with
  | refl => exact hc
  | eps e _ ih => exact ih (.eps hc e)
  | byt e _ ih => exact ih (.byt hc e)
theorem Come.steps {p : List In} {s : L8} {f a i : Nat} (h : Come p s f a i) : ∃ t, Steps p s t 0 f i a := by
  induction h with
  | start _ => exact ⟨0, .refl _ _⟩
  | eps _ e ih => obtain ⟨t, h⟩ := ih; exact h.trans (.eps e (.refl _ _))
  | byt _ e ih => obtain ⟨t, h⟩ := ih; exact h.trans (.byt e (.refl _ _))
/-- the code l stands at n -/
def Lies (p : List In) (n : Nat) (l : List In) : Prop := ∀ k x, l[k]? = some x → p[n + k]? = some x
theorem Lies.left {p : List In} {n : Nat} {l m : List In} (h : Lies p n (l ++ m)) : Lies p n l := fun k x hk => h k x (by
  rw [List.getElem?_append_left (List.getElem?_eq_some_iff.1 hk).1]; exact hk)
theorem Lies.right {p : List In} {n : Nat} {l m : List In} (h : Lies p n (l ++ m)) : Lies p (n + l.length) m := fun k x hk => by
  rw [Nat.add_assoc]
  exact h (l.length + k) x (by rw [List.getElem?_append_right (by omega), Nat.add_sub_cancel_left]; exact hk)
theorem Lies.head {p : List In} {n : Nat} {x : In} {l : List In} (h : Lies p n (x :: l)) : p[n]? = some x := h 0 x rfl
theorem Lies.tail {p : List In} {n : Nat} {x : In} {l : List In} (h : Lies p n (x :: l)) : Lies p (n + 1) l := fun k y hk => by
  rw [show n + 1 + k = n + (k + 1) by omega]; exact h (k + 1) y (by simpa using hk)
theorem eps_of {p : List In} {n a i j : Nat} {x : In} (hx : p[i]? = some x) : Eps p n a i j ↔ ((x.k = 2 ∧ (j = x.a.toNat ∨ j = x.b.toNat)) ∨ (x.k = 3 ∧ j = x.a.toNat) ∨ (x.k = 4 ∧ a = 0 ∧ j = i + 1) ∨ (x.k = 5 ∧ a = n ∧ j = i + 1)) := by
  constructor
  · rintro ⟨y, hy, h⟩; rw [hx] at hy; cases hy; exact h
  · intro h; exact ⟨x, hx, h⟩
theorem byt_of {p : List In} {s : L8} {a i j : Nat} {x : In} (hx : p[i]? = some x) : Byt p s a i j ↔ x.k = 1 ∧ ∃ c, s[a]? = some c ∧ bit x.s c.toNat = true ∧ j = i + 1 := by
  constructor
  · rintro ⟨y, c, hy, h1, h2, h3, h4⟩; rw [hx] at hy; cases hy; exact ⟨h1, c, h2, h3, h4⟩
  · rintro ⟨h1, c, h2, h3, h4⟩; exact ⟨x, c, hx, h1, h2, h3, h4⟩
theorem bit_none (c : UInt8) : bit noSet c.toNat = false := by
  have h : wordS noSet (c.toNat / 64) = 0 := by unfold wordS noSet; repeat' (first | rfl | split)
  unfold bit
  rw [h]
  simp
/-- what is matched is come through -/
theorem through (p : List In) (s : L8) (e : Ex) : ∀ n i j, Lies p n (cdx e n) → Sp.M s e i j = true → ∃ t, Steps p s t n i (n + (cdx e n).length) j := by
  induction e with
  | none => intro n i j _ h; cases h
  | emp =>
    intro n i j _ h
    simp only [Sp.M, decide_eq_true_eq] at h
    obtain ⟨rfl, _⟩ := h
    exact ⟨0, .refl _ _⟩
  | byte u =>
    intro n i j hl h
    obtain ⟨c, hc, hb, rfl⟩ := (Sp.M_byte s u i j).1 h
    exact ⟨1, .byt ((byt_of hl.head).2 ⟨rfl, c, hc, hb, rfl⟩) (.refl _ _)⟩
  | cat a b iha ihb =>
    intro n i j hl h
    obtain ⟨m, _, h1, h2⟩ := (Sp.M_cat s a b i j).1 h
    simp only [cdx] at hl ⊢
    obtain ⟨t, ht⟩ := iha n i m hl.left h1
    obtain ⟨u, hu⟩ := ihb (n + (cdx a n).length) m j hl.right h2
    rw [List.length_append, ← Nat.add_assoc]
    exact ht.trans hu
  | alt a b iha ihb =>
    intro n i j hl h
    simp only [cdx] at hl ⊢
    have hx := hl.head
    have hl1 := hl.tail
    have hla := hl1.left
    have hl2 := hl1.right
    have hy := hl2.head
    have hl3 := hl2.tail
    rw [show n + 1 + (cdx a (n + 1)).length + 1 = n + 2 + (cdx a (n + 1)).length by omega] at hl3
    simp only [List.length_cons, List.length_append]
    rw [show n + ((cdx a (n + 1)).length + ((cdx b (n + 2 + (cdx a (n + 1)).length)).length + 1) + 1) = n + 2 + (cdx a (n + 1)).length + (cdx b (n + 2 + (cdx a (n + 1)).length)).length by omega]
    rw [Sp.M, Bool.or_eq_true] at h
    rcases h with h | h
    · obtain ⟨t, ht⟩ := iha (n + 1) i j hla h
      obtain ⟨v, hv⟩ := ht.trans (.eps ((eps_of hy).2 (.inr (.inl ⟨rfl, rfl⟩))) (.refl _ _))
      refine ⟨v + 1, .eps ((eps_of (j := n + 1) hx).2 (.inl ⟨rfl, .inl ?_⟩)) ?_⟩
      · show n + 1 = ((n : Int) + 1).toNat; omega
      · rw [show n + 2 + (cdx a (n + 1)).length + (cdx b (n + 2 + (cdx a (n + 1)).length)).length = ((n : Int) + 2 + ((cdx a (n + 1)).length : Int) + ((cdx b (n + 2 + (cdx a (n + 1)).length)).length : Int)).toNat by omega]
        exact hv
    · obtain ⟨t, ht⟩ := ihb (n + 2 + (cdx a (n + 1)).length) i j hl3 h
      refine ⟨t + 1, .eps ((eps_of (j := n + 2 + (cdx a (n + 1)).length) hx).2 (.inl ⟨rfl, .inr ?_⟩)) ht⟩
      show n + 2 + (cdx a (n + 1)).length = ((n : Int) + 2 + ((cdx a (n + 1)).length : Int)).toNat
      omega
  | star a iha =>
    intro n i j hl h
    simp only [cdx] at hl ⊢
    have hx := hl.head
    have hl1 := hl.tail
    have hla := hl1.left
    have hy := hl1.right.head
    simp only [List.length_cons, List.length_append, List.length_nil]
    rw [show n + ((cdx a (n + 1)).length + (0 + 1) + 1) = n + 2 + (cdx a (n + 1)).length by omega]
    rw [Sp.M_star] at h
    have out : ∀ c, ∃ t, Steps p s t n c (n + 2 + (cdx a (n + 1)).length) c := fun c => ⟨1, .eps ((eps_of hx).2 (.inl ⟨rfl, .inr (by show n + 2 + (cdx a (n + 1)).length = ((n : Int) + 2 + ((cdx a (n + 1)).length : Int)).toNat; omega)⟩)) (.refl _ _)⟩
    have key : ∀ d i, s.length - i ≤ d → Sp.star s.length (Sp.M s a) i j = true → ∃ t, Steps p s t n i (n + 2 + (cdx a (n + 1)).length) j := by
      intro d
      induction d with
      | zero =>
        intro i hd hs
        obtain ⟨hi, rfl | ⟨m, h1, h2, _⟩⟩ := (Sp.star_iff _ _ _ _).1 hs
        · exact out i
        · omega
      | succ d ih =>
        intro i hd hs
        obtain ⟨hi, rfl | ⟨m, h1, h2, h3, h4⟩⟩ := (Sp.star_iff _ _ _ _).1 hs
        · exact out i
        · obtain ⟨t, ht⟩ := iha (n + 1) i m hla h3
          obtain ⟨u, hu⟩ := ih m (by omega) h4
          obtain ⟨v, hv⟩ := ht.trans (.eps ((eps_of (j := n) hy).2 (.inr (.inl ⟨rfl, (by show n = ((n : Int)).toNat; omega)⟩))) hu)
          exact ⟨v + 1, .eps ((eps_of (j := n + 1) hx).2 (.inl ⟨rfl, .inl (by show n + 1 = ((n : Int) + 1).toNat; omega)⟩)) hv⟩
    exact key s.length i (by omega) h
  | beg =>
    intro n i j hl h
    simp only [Sp.M, decide_eq_true_eq] at h
    obtain ⟨rfl, rfl⟩ := h
    exact ⟨1, .eps ((eps_of hl.head).2 (.inr (.inr (.inl ⟨rfl, rfl, rfl⟩)))) (.refl _ _)⟩
  | en =>
    intro n i j hl h
    simp only [Sp.M, decide_eq_true_eq] at h
    obtain ⟨rfl, rfl⟩ := h
    exact ⟨1, .eps ((eps_of hl.head).2 (.inr (.inr (.inr ⟨rfl, rfl, rfl⟩)))) (.refl _ _)⟩
/-- a way that leaves the code has gone through it -/
theorem leaves (p : List In) (s : L8) (e : Ex) : ∀ n t i k b, Lies p n (cdx e n) → i ≤ s.length → (k < n ∨ n + (cdx e n).length ≤ k) → Steps p s t n i k b →
    ∃ m u, u ≤ t ∧ Sp.M s e i m = true ∧ Steps p s u (n + (cdx e n).length) m k b := by
  induction e with
  | none =>
    intro n t i k b hl hi hk h
    simp only [cdx, List.length_cons, List.length_nil] at hk
    cases h with
    | refl => omega
    | eps e _ => rw [eps_of hl.head] at e; dsimp only at e; omega
    | byt e _ =>
      rw [byt_of hl.head] at e
      obtain ⟨_, c, _, h, _⟩ := e
      dsimp only at h; rw [bit_none] at h; cases h
  | emp =>
    intro n t i k b hl hi hk h
    exact ⟨i, t, Nat.le_refl _, by simp [Sp.M, hi], h⟩
  | byte u =>
    intro n t i k b hl hi hk h
    simp only [cdx, List.length_cons, List.length_nil] at hk
    cases h with
    | refl => omega
    | eps e _ => rw [eps_of hl.head] at e; dsimp only at e; omega
    | byt e h =>
      rw [byt_of hl.head] at e
      obtain ⟨_, c, h1, h2, rfl⟩ := e
      exact ⟨i + 1, _, Nat.le_succ _, (Sp.M_byte _ _ _ _).2 ⟨c, h1, h2, rfl⟩, h⟩
  | cat a b iha ihb =>
    intro n t i k c hl hi hk h
    simp only [cdx] at hl hk ⊢
    rw [List.length_append] at hk ⊢
    obtain ⟨m, u, hu, h1, h2⟩ := iha n t i k c hl.left hi (by omega) h
    have hm := (Sp.M_ok s a i m h1).2
    obtain ⟨q, v, hv, h3, h4⟩ := ihb _ u m k c hl.right hm (by omega) h2
    exact ⟨q, v, by omega, (Sp.M_cat _ _ _ _ _).2 ⟨m, hm, h1, h3⟩, by rw [← Nat.add_assoc]; exact h4⟩
  | alt a b iha ihb =>
    intro n t i k c hl hi hk h
    simp only [cdx] at hl hk ⊢
    have hx := hl.head
    have hl1 := hl.tail
    have hla := hl1.left
    have hl2 := hl1.right
    have hy := hl2.head
    have hl3 := hl2.tail
    rw [show n + 1 + (cdx a (n + 1)).length + 1 = n + 2 + (cdx a (n + 1)).length by omega] at hl3
    simp only [List.length_cons, List.length_append] at hk ⊢
    have hL : n + ((cdx a (n + 1)).length + ((cdx b (n + 2 + (cdx a (n + 1)).length)).length + 1) + 1) = n + 2 + (cdx a (n + 1)).length + (cdx b (n + 2 + (cdx a (n + 1)).length)).length := by omega
    rw [hL] at hk ⊢
    cases h with
    | refl => omega
    | byt e _ => rw [byt_of hx] at e; exact absurd e.1 (by dsimp only; omega)
    | @eps t' _ _ g _ _ e h =>
      rw [eps_of hx] at e
      dsimp only at e
      have hg : g = n + 1 ∨ g = n + 2 + (cdx a (n + 1)).length := by omega
      rcases hg with rfl | rfl
      · obtain ⟨m, u, hu, h1, h2⟩ := iha (n + 1) t' i k c hla hi (by omega) h
        cases h2 with
        | refl => omega
        | byt e2 _ => rw [byt_of hy] at e2; exact absurd e2.1 (by dsimp only; omega)
        | @eps u' _ _ g2 _ _ e2 h2 =>
          rw [eps_of hy] at e2
          dsimp only at e2
          obtain rfl : g2 = n + 2 + (cdx a (n + 1)).length + (cdx b (n + 2 + (cdx a (n + 1)).length)).length := by omega
          exact ⟨m, u', by omega, by rw [Sp.M, h1, Bool.true_or], h2⟩
      · obtain ⟨m, u, hu, h1, h2⟩ := ihb _ t' i k c hl3 hi (by omega) h
        exact ⟨m, u, by omega, by rw [Sp.M, h1, Bool.or_true], h2⟩
  | star a iha =>
    intro n t i k c hl hi hk h
    simp only [cdx] at hl hk ⊢
    have hx := hl.head
    have hl1 := hl.tail
    have hla := hl1.left
    have hy := hl1.right.head
    simp only [List.length_cons, List.length_append, List.length_nil] at hk ⊢
    have hL : n + ((cdx a (n + 1)).length + (0 + 1) + 1) = n + 2 + (cdx a (n + 1)).length := by omega
    rw [hL] at hk ⊢
    have key : ∀ d t i, t ≤ d → i ≤ s.length → Steps p s t n i k c → ∃ m u, u ≤ t ∧ Sp.star s.length (Sp.M s a) i m = true ∧ Steps p s u (n + 2 + (cdx a (n + 1)).length) m k c := by
      intro d
      induction d with
      | zero =>
        intro t i ht hi h
        cases h with
        | refl => omega
        | eps _ _ => omega
        | byt _ _ => omega
      | succ d ih =>
        intro t i ht hi h
        cases h with
        | refl => omega
        | byt e _ => rw [byt_of hx] at e; exact absurd e.1 (by dsimp only; omega)
        | @eps t' _ _ g _ _ e h =>
          rw [eps_of hx] at e
          dsimp only at e
          have hg : g = n + 1 ∨ g = n + 2 + (cdx a (n + 1)).length := by omega
          rcases hg with rfl | rfl
          · obtain ⟨m, u, hu, h1, h2⟩ := iha (n + 1) t' i k c hla hi (by omega) h
            have hm := Sp.M_ok s a i m h1
            cases h2 with
            | refl => omega
            | byt e2 _ => rw [byt_of hy] at e2; exact absurd e2.1 (by dsimp only; omega)
            | @eps u' _ _ g2 _ _ e2 h2 =>
              rw [eps_of hy] at e2
              dsimp only at e2
              obtain rfl : g2 = n := by omega
              obtain ⟨q, v, hv, h3, h4⟩ := ih u' m (by omega) hm.2 h2
              refine ⟨q, v, by omega, ?_, h4⟩
              by_cases hmi : i < m
              · exact (Sp.star_iff _ _ _ _).2 ⟨hi, .inr ⟨m, hmi, hm.2, h1, h3⟩⟩
              · obtain rfl : i = m := by omega
                exact h3
          · exact ⟨i, t', by omega, (Sp.star_iff _ _ _ _).2 ⟨hi, .inl rfl⟩, h⟩
    obtain ⟨m, u, h1, h2, h3⟩ := key t t i (Nat.le_refl _) hi h
    exact ⟨m, u, h1, by rw [Sp.M_star]; exact h2, h3⟩
  | beg =>
    intro n t i k b hl hi hk h
    simp only [cdx, List.length_cons, List.length_nil] at hk
    cases h with
    | refl => omega
    | byt e _ => rw [byt_of hl.head] at e; exact absurd e.1 (by dsimp only; omega)
    | @eps t' _ _ g _ _ e h =>
      rw [eps_of hl.head] at e
      dsimp only at e
      obtain ⟨rfl, rfl⟩ : i = 0 ∧ g = n + 1 := by omega
      exact ⟨0, t', Nat.le_succ _, by simp [Sp.M], h⟩
  | en =>
    intro n t i k b hl hi hk h
    simp only [cdx, List.length_cons, List.length_nil] at hk
    cases h with
    | refl => omega
    | byt e _ => rw [byt_of hl.head] at e; exact absurd e.1 (by dsimp only; omega)
    | @eps t' _ _ g _ _ e h =>
      rw [eps_of hl.head] at e
      dsimp only at e
      obtain ⟨rfl, rfl⟩ : i = s.length ∧ g = n + 1 := by omega
      exact ⟨s.length, t', Nat.le_succ _, by simp [Sp.M], h⟩
/-- what stands in the code -/
theorem cdx_in (e : Ex) : ∀ n k x, (cdx e n)[k]? = some x → (x.k = 1 ∧ n + k < n + (cdx e n).length) ∨ (x.k = 2 ∧ (0 ≤ x.a ∧ x.a ≤ ((n + (cdx e n).length : Nat) : Int)) ∧ (0 ≤ x.b ∧ x.b ≤ ((n + (cdx e n).length : Nat) : Int))) ∨ (x.k = 3 ∧ 0 ≤ x.a ∧ x.a ≤ ((n + (cdx e n).length : Nat) : Int)) ∨ ((x.k = 4 ∨ x.k = 5) ∧ n + k < n + (cdx e n).length) := by
  induction e with
  | none => intro n k x h; have hk := (List.getElem?_eq_some_iff.1 h).1; simp only [cdx, List.length_cons, List.length_nil] at h hk ⊢; obtain rfl : k = 0 := by omega
            simp at h; subst h; left; exact ⟨rfl, by omega⟩
  | emp => intro n k x h; simp [cdx] at h
  | byte u => intro n k x h; have hk := (List.getElem?_eq_some_iff.1 h).1; simp only [cdx, List.length_cons, List.length_nil] at h hk ⊢; obtain rfl : k = 0 := by omega
              simp at h; subst h; left; exact ⟨rfl, by omega⟩
  | cat a b iha ihb =>
    intro n k x h
    simp only [cdx] at h ⊢
    rw [List.length_append]
    rw [List.getElem?_append] at h
    split at h
    · have := iha n k x h; omega
    · have := ihb _ _ x h; omega
  | alt a b iha ihb =>
    intro n k x h
    simp only [cdx] at h ⊢
    simp only [List.length_cons, List.length_append]
    cases k with
    | zero => simp at h; subst h; right; left; dsimp only; omega
    | succ k =>
      simp only [List.getElem?_cons_succ] at h
      rw [List.getElem?_append] at h
      split at h
      · have := iha (n + 1) k x h; omega
      · rename_i hk
        cases hj : k - (cdx a (n + 1)).length with
        | zero => rw [hj] at h; simp at h; subst h; right; right; left; dsimp only; omega
        | succ j =>
          rw [hj, List.getElem?_cons_succ] at h
          have := ihb _ _ x h
          omega
  | star a iha =>
    intro n k x h
    simp only [cdx] at h ⊢
    simp only [List.length_cons, List.length_append, List.length_nil]
    cases k with
    | zero => simp at h; subst h; right; left; dsimp only; omega
    | succ k =>
      simp only [List.getElem?_cons_succ] at h
      rw [List.getElem?_append] at h
      split at h
      · have := iha (n + 1) k x h; omega
      · rename_i hk
        have hk2 := (List.getElem?_eq_some_iff.1 h).1
        simp only [List.length_cons, List.length_nil] at hk2
        obtain hj : k - (cdx a (n + 1)).length = 0 := by omega
        rw [hj] at h; simp at h; subst h; right; right; left; dsimp only; omega
  | beg => intro n k x h; have hk := (List.getElem?_eq_some_iff.1 h).1; simp only [cdx, List.length_cons, List.length_nil] at h hk ⊢; obtain rfl : k = 0 := by omega
           simp at h; subst h; right; right; right; exact ⟨.inl rfl, by omega⟩
  | en => intro n k x h; have hk := (List.getElem?_eq_some_iff.1 h).1; simp only [cdx, List.length_cons, List.length_nil] at h hk ⊢; obtain rfl : k = 0 := by omega
          simp at h; subst h; right; right; right; exact ⟨.inr rfl, by omega⟩
/-- THOMPSON -/
theorem thompson (s : L8) (e : Ex) (z : Se) (i j : Nat) : Span (cdx e 0 ++ [⟨6, 0, 0, z⟩]) s i j ↔ Sp.M s e i j = true := by
  have hl : Lies (cdx e 0 ++ [⟨6, 0, 0, z⟩]) 0 (cdx e 0) := fun k x hk => by
    rw [Nat.zero_add, List.getElem?_append_left (List.getElem?_eq_some_iff.1 hk).1]; exact hk
  have h6 : (cdx e 0 ++ [(⟨6, 0, 0, z⟩ : In)])[(cdx e 0).length]? = some ⟨6, 0, 0, z⟩ := by
    rw [List.getElem?_append_right (Nat.le_refl _), Nat.sub_self]; rfl
  constructor
  · rintro ⟨k, hc, x, hx, hk⟩
    have hi : i ≤ s.length := by have := hc.le; omega
    obtain ⟨t, ht⟩ := hc.steps
    have hkL : (cdx e 0).length ≤ k := by
      by_cases h : k < (cdx e 0).length
      · rw [List.getElem?_append_left h] at hx
        have := cdx_in e 0 k x hx
        omega
      · omega
    obtain ⟨m, u, _, h1, h2⟩ := leaves _ s e 0 t i k j hl hi (by omega) ht
    rw [Nat.zero_add] at h2
    cases h2 with
    | refl => exact h1
    | eps e _ => rw [eps_of h6] at e; dsimp only at e; omega
    | byt e _ => rw [byt_of h6] at e; exact absurd e.1 (by dsimp only; omega)
  · intro h
    obtain ⟨t, ht⟩ := through _ s e 0 i j hl h
    rw [Nat.zero_add] at ht
    have := Sp.M_ok s e i j h
    exact ⟨_, ht.come (.start (by omega)), _, h6, rfl⟩
end Pm
end Go.Proofs.YtmgealcolofomaaDoor
