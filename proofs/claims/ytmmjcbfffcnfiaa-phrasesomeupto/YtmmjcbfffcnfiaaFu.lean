/- Aho and Corasick: nodes, their longest ends, and where a byte leads. -/
import Derived.Test.YtmmjcbfffcnfiaaFt
namespace Go.Proofs.Ytmmjcbfffcnfiaa
open Kb Ph
set_option linter.unusedVariables false
set_option maxRecDepth 20000

structure Tx (T : List Nd) (X : List (List UInt8)) : Prop where
  pos : 0 < T.length
  up0 : (nd T 0).up = 0
  c0 : (nd T 0).c = 0
  x0 : xt X 0 = []
  node : ∀ j, 1 ≤ j → j < T.length → ∃ (p : Nat) (b : UInt8), p < j ∧ (nd T j).c = (b.toNat : Int) ∧ (nd T j).up = (p : Int) ∧ xt X j = xt X p ++ [b]
  ord : ∀ j k, 1 ≤ j → j < k → k < T.length → slt ((nd T j).up, (nd T j).c) ((nd T k).up, (nd T k).c)
theorem GI.tx {ws : List ByteArray} {d : Nat} {T : List Nd} {at_ : List Nat} {X : List (List UInt8)} {lev : Nat} (h : GI ws d T at_ X lev) : Tx T X := by
  refine ⟨h.pos, by rw [h.root], by rw [h.root], h.xroot, ?_, h.ord⟩
  intro j h1 h2
  obtain ⟨p, b, hp, hn, hx⟩ := h.node j h1 h2
  exact ⟨p, b, hp, by rw [hn], by rw [hn], hx⟩
theorem Tx.withFE {T : List Nd} {X : List (List UInt8)} (h : Tx T X) (F : Nat → Nat) (E : Nat → List Int) : Tx (withFE T F E) X := by
  refine ⟨by rw [withFE_len]; exact h.pos, by rw [withFE_nd h.pos]; exact h.up0, by rw [withFE_nd h.pos]; exact h.c0, h.x0, ?_, ?_⟩
  · intro j h1 h2
    rw [withFE_len] at h2
    rw [withFE_nd h2]; exact h.node j h1 h2
  · intro j k h1 h2 h3
    rw [withFE_len] at h3
    rw [withFE_nd h3, withFE_nd (by omega)]; exact h.ord j k h1 h2 h3
namespace Tx
variable {T : List Nd} {X : List (List UInt8)}
theorem mono (h : Tx T X) (k : Nat) : k < T.length → ∀ j, j ≤ k → (xt X j).length ≤ (xt X k).length := by
  induction k using Nat.strongRecOn with
  | _ k ih =>
    intro hk j hj
    by_cases hjk : j = k
    · subst hjk; exact Nat.le_refl _
    by_cases hj0 : j = 0
    · subst hj0; rw [h.x0]; simp
    obtain ⟨p, b, hp, hc, hu, hx⟩ := h.node j (by omega) (by omega)
    obtain ⟨p', b', hp', hc', hu', hx'⟩ := h.node k (by omega) hk
    have ho := h.ord j k (by omega) (by omega) hk
    rw [hu, hu', hc, hc'] at ho
    have hle : p ≤ p' := by rcases ho with g | ⟨g, _⟩ <;> dsimp only at g <;> omega
    have := ih p' hp' (by omega) p hle
    rw [hx, hx']; simp; omega
theorem inj (h : Tx T X) (k : Nat) : k < T.length → ∀ j, j < k → xt X j ≠ xt X k := by
  induction k using Nat.strongRecOn with
  | _ k ih =>
    intro hk j hj e
    obtain ⟨p', b', hp', hc', hu', hx'⟩ := h.node k (by omega) hk
    by_cases hj0 : j = 0
    · subst hj0; rw [h.x0, hx'] at e; simp at e
    obtain ⟨p, b, hp, hc, hu, hx⟩ := h.node j (by omega) (by omega)
    have ho := h.ord j k (by omega) (by omega) hk
    rw [hu, hu', hc, hc'] at ho
    rw [hx, hx'] at e
    obtain ⟨e1, e2⟩ := List.append_inj' e rfl
    obtain rfl := (List.cons.inj e2).1
    rcases Nat.lt_trichotomy p p' with g | g | g
    · exact ih p' hp' (by omega) p g e1
    · subst g
      rcases ho with g | ⟨_, g⟩ <;> dsimp only at g <;> omega
    · exact ih p (by omega) (by omega) p' g e1.symm
theorem uniq (h : Tx T X) {j k : Nat} (hj : j < T.length) (hk : k < T.length) (e : xt X j = xt X k) : j = k := by
  rcases Nat.lt_trichotomy j k with g | g | g
  · exact absurd e (h.inj k hk j g)
  · exact g
  · exact absurd e.symm (h.inj j hj k g)
theorem ltlen (h : Tx T X) {j k : Nat} (hj : j < T.length) (hl : (xt X j).length < (xt X k).length) : j < k := by
  rcases Nat.lt_or_ge j k with g | g
  · exact g
  · have := h.mono j hj k g; omega
theorem pre (h : Tx T X) (k : Nat) : k < T.length → ∀ t, t <+: xt X k → ∃ j, j < T.length ∧ xt X j = t := by
  induction k using Nat.strongRecOn with
  | _ k ih =>
    intro hk t ht
    by_cases hk0 : k = 0
    · subst hk0; rw [h.x0] at ht; exact ⟨0, hk, by rw [h.x0]; exact (List.prefix_nil.1 ht).symm⟩
    obtain ⟨p, b, hp, hc, hu, hx⟩ := h.node k (by omega) hk
    rw [hx] at ht
    rcases List.prefix_concat_iff.1 ht with g | g
    · exact ⟨k, hk, by rw [hx, g]⟩
    · exact ih p hp (by omega) t g
/-- a node whose text ends with b: its parent -/
theorem parent (h : Tx T X) {k : Nat} (hk : k < T.length) {t : List UInt8} {b : UInt8} (e : xt X k <:+ t ++ [b]) : xt X k = [] ∨ ∃ p, p < k ∧ xt X k = xt X p ++ [b] ∧ xt X p <:+ t ∧ (nd T k).up = (p : Int) ∧ (nd T k).c = (b.toNat : Int) := by
  by_cases hk0 : k = 0
  · subst hk0; exact .inl h.x0
  obtain ⟨p, b', hp, hc, hu, hx⟩ := h.node k (by omega) hk
  rw [hx] at e
  obtain ⟨u, hu'⟩ := e
  rw [← List.append_assoc] at hu'
  obtain ⟨e1, e2⟩ := List.append_inj' hu' rfl
  obtain rfl := (List.cons.inj e2).1
  exact .inr ⟨p, hp, hx, ⟨u, e1⟩, hu, hc⟩
theorem kid_text (h : Tx T X) {p : Nat} (hp : p < T.length) {b : UInt8} (g : KidL T (p : Int) (b.toNat : Int) ≠ 0) : KidL T (p : Int) (b.toNat : Int) < T.length ∧ xt X (KidL T (p : Int) (b.toNat : Int)) = xt X p ++ [b] := by
  obtain ⟨m, hm⟩ : ∃ m, KidL T (p : Int) (b.toNat : Int) = m := ⟨_, rfl⟩
  have hs := kidL_some (T := T) (i := T.length) (n := (p : Int)) (c := (b.toNat : Int)) g
  have hl := kidL_lt T T.length (p : Int) (b.toNat : Int)
  rw [show kidL T T.length (p : Int) (b.toNat : Int) = m from hm] at hs hl
  rw [hm] at g ⊢
  have hl : m < T.length := by omega
  obtain ⟨p', b', hp', hc', hu', hx'⟩ := h.node m (by omega) hl
  rw [hc', hu'] at hs
  have e1 : p = p' := by omega
  have e2 : b = b' := UInt8.toNat_inj.1 (by omega)
  exact ⟨hl, by rw [hx', e1, e2]⟩
theorem kid_of (h : Tx T X) {p m : Nat} (hp : p < T.length) (hm : m < T.length) {b : UInt8} (e : xt X m = xt X p ++ [b]) : KidL T (p : Int) (b.toNat : Int) = m := by
  have hm0 : m ≠ 0 := by intro g; subst g; rw [h.x0] at e; simp at e
  by_cases g : KidL T (p : Int) (b.toNat : Int) = 0
  · obtain ⟨p', b', hp', hc', hu', hx'⟩ := h.node m (by omega) hm
    rw [hx'] at e
    obtain ⟨e1, e2⟩ := List.append_inj' e rfl
    obtain rfl := (List.cons.inj e2).1
    have := h.uniq (by omega) hp e1
    subst this
    exact absurd ⟨hu'.symm, hc'.symm⟩ (kidL_none g m (by omega) hm)
  · obtain ⟨hl, hx⟩ := h.kid_text hp g
    exact h.uniq hl hm (by rw [hx, e])
/-- the node of the longest end of a text -/
def Long (T : List Nd) (X : List (List UInt8)) (t : List UInt8) (j : Nat) : Prop := j < T.length ∧ xt X j <:+ t ∧ ∀ k, k < T.length → xt X k <:+ t → (xt X k).length ≤ (xt X j).length
/-- the node of the longest end of node j's text that is shorter -/
def Fails (T : List Nd) (X : List (List UInt8)) (j f : Nat) : Prop := f < T.length ∧ xt X f <:+ xt X j ∧ (xt X f).length < (xt X j).length ∧
  ∀ k, k < T.length → xt X k <:+ xt X j → (xt X k).length < (xt X j).length → (xt X k).length ≤ (xt X f).length
theorem Long.uniq (h : Tx T X) {t : List UInt8} {j k : Nat} (a : Long T X t j) (b : Long T X t k) : j = k := by
  have h1 := a.2.2 k b.1 b.2.1
  have h2 := b.2.2 j a.1 a.2.1
  have h3 := List.suffix_of_suffix_length_le a.2.1 b.2.1 h2
  exact h.uniq a.1 b.1 (h3.eq_of_length (by omega))
theorem Fails.lt (h : Tx T X) {j f : Nat} (a : Fails T X j f) : f < j := h.ltlen a.1 a.2.2.1
theorem Fails.uniq (h : Tx T X) {j f g : Nat} (a : Fails T X j f) (b : Fails T X j g) : f = g := by
  have h1 := a.2.2.2 g b.1 b.2.1 b.2.2.1
  have h2 := b.2.2.2 f a.1 a.2.1 a.2.2.1
  have h3 := List.suffix_of_suffix_length_le a.2.1 b.2.1 h2
  exact h.uniq a.1 b.1 (h3.eq_of_length (by omega))
theorem suf_snoc {a b : List UInt8} (c : UInt8) (h : a <:+ b) : a ++ [c] <:+ b ++ [c] := by
  obtain ⟨u, rfl⟩ := h; exact ⟨u, by simp⟩
theorem next (h : Tx T X) (F : Nat → Nat) (b : UInt8) (j : Nat) : j < T.length → (∀ i, i ≤ j → i ≠ 0 → Fails T X i (F i)) → Long T X (xt X j ++ [b]) (nxg (KidL T) F (b.toNat : Int) j) := by
  induction j using Nat.strongRecOn with
  | _ j ih =>
    intro hj hF
    by_cases g : KidL T (j : Int) (b.toNat : Int) = 0
    · by_cases hj0 : j = 0
      · subst hj0
        rw [nxg_stop (.inl rfl), g]
        refine ⟨hj, by rw [h.x0]; exact List.nil_suffix, ?_⟩
        intro k hk hs
        rcases h.parent hk hs with e | ⟨p, hp, e, hsp, _⟩
        · rw [e]; simp
        · rw [h.x0] at hsp
          have := h.kid_of (p := 0) (m := k) hj hk (b := b) (by rw [h.x0, e, List.suffix_nil.1 hsp])
          exfalso
          rw [g] at this
          rw [← this, h.x0] at e; simp at e
      · have hf := hF j (Nat.le_refl _) hj0
        have hlt := hf.lt h
        rw [nxg_go hj0 g hlt]
        have hr := ih (F j) hlt (by omega) (fun i hi => hF i (by omega))
        refine ⟨hr.1, hr.2.1.trans (suf_snoc b hf.2.1), ?_⟩
        intro k hk hs
        rcases h.parent hk hs with e | ⟨p, hp, e, hsp, _⟩
        · rw [e]; simp
        · have hl := hsp.length_le
          have hl2 : (xt X p).length < (xt X j).length := by
            rcases Nat.lt_or_ge (xt X p).length (xt X j).length with g2 | g2
            · exact g2
            · have e2 := hsp.eq_of_length (by omega)
              have := h.kid_of hj hk (b := b) (by rw [e, e2])
              exfalso
              rw [g] at this
              rw [← this, h.x0] at e; simp at e
          have h3 := hf.2.2.2 p (by omega) hsp hl2
          have h4 := List.suffix_of_suffix_length_le hsp hf.2.1 h3
          refine hr.2.2 k hk ?_
          rw [e]; exact suf_snoc b h4
    · rw [nxg_stop (.inr g)]
      obtain ⟨hl, hx⟩ := h.kid_text hj g
      refine ⟨hl, by rw [hx]; exact List.suffix_rfl, ?_⟩
      intro k hk hs
      rw [hx]; exact hs.length_le
theorem fails (h : Tx T X) (i : Nat) : i ≤ T.length → ∀ j, j < i → j ≠ 0 → Fails T X j (ff T i j) := by
  induction i with
  | zero => intro _ j hj; omega
  | succ i ih =>
    intro hi j hj hj0
    have ih := ih (by omega)
    rw [ff]
    dsimp only
    by_cases hji : j = i
    · rw [if_pos hji]; subst hji
      obtain ⟨p, b, hp, hc, hu, hx⟩ := h.node j (by omega) (by omega)
      by_cases hp0 : p = 0
      · rw [if_pos (by rw [hu, hp0]; rfl)]
        subst hp0
        rw [h.x0] at hx
        refine ⟨h.pos, by rw [h.x0]; exact List.nil_suffix, by rw [h.x0, hx]; simp, ?_⟩
        intro k hk hs hl
        rw [hx] at hl; simp at hl
        rw [hl]; simp
      · rw [if_neg (by rw [hu]; omega), hu, hc, Int.toNat_natCast]
        have hf := ih p hp hp0
        have hflt := hf.lt h
        have hr := h.next (ff T j) b (ff T j p) hf.1 (fun k hk hk0 => ih k (by omega) hk0)
        have hrl := hr.2.1.length_le
        simp only [List.length_append, List.length_singleton] at hrl
        have hfl := hf.2.2.1
        refine ⟨hr.1, ?_, ?_, ?_⟩
        · rw [hx]; exact hr.2.1.trans (suf_snoc b hf.2.1)
        · rw [hx]; simp only [List.length_append, List.length_singleton]; omega
        · intro k hk hs hl
          rw [hx] at hs hl
          rcases h.parent hk hs with e | ⟨q, hq, e, hsq, _⟩
          · rw [e]; simp
          · rw [e] at hl
            simp only [List.length_append, List.length_singleton] at hl
            have h3 := hf.2.2.2 q (by omega) hsq (by omega)
            refine hr.2.2 k hk ?_
            rw [e]; exact suf_snoc b (List.suffix_of_suffix_length_le hsq hf.2.1 h3)
    · rw [if_neg hji]; exact ih j (by omega) hj0
theorem ff_zero (h : Tx T X) (i : Nat) : ff T i 0 = 0 := by
  induction i with
  | zero => rfl
  | succ i ih =>
    rw [ff]; dsimp only
    by_cases h0 : 0 = i
    · subst h0; rw [if_pos rfl, if_pos h.up0]
    · rw [if_neg h0]; exact ih
theorem wf (h : Tx T X) (few : T.length ≤ 1201) : Wf T := by
  refine ⟨h.pos, few, ?_, ?_, fun i j hi hj hj0 => (h.fails i hi j hj hj0).lt h, h.ff_zero⟩
  · intro j hj
    by_cases hj0 : j = 0
    · subst hj0; rw [h.up0]; omega
    · obtain ⟨p, b, hp, hc, hu, hx⟩ := h.node j (by omega) hj
      rw [hu]; omega
  · intro j hj
    by_cases hj0 : j = 0
    · subst hj0; rw [h.c0]; unfold U8; omega
    · obtain ⟨p, b, hp, hc, hu, hx⟩ := h.node j (by omega) hj
      rw [hc]; have := b.toNat_lt; unfold U8; omega
/-- first and last child are the same -/
theorem kid_kidL (h : Tx T X) {p : Nat} (hp : p < T.length) (b : UInt8) : Kid T (p : Int) (b.toNat : Int) = KidL T (p : Int) (b.toNat : Int) := by
  by_cases g : Kid T (p : Int) (b.toNat : Int) = 0
  · rw [g]
    by_cases g2 : KidL T (p : Int) (b.toNat : Int) = 0
    · exact g2.symm
    · have hs := kidL_some (T := T) (i := T.length) (n := (p : Int)) (c := (b.toNat : Int)) g2
      exact absurd ⟨hs.1.symm, hs.2.symm⟩ ((kid_none T T.length (p : Int) (b.toNat : Int)).1 g (KidL T (p : Int) (b.toNat : Int)) (by omega) (h.kid_text hp g2).1)
  · have hs := kid_some (T := T) (i := T.length) (n := (p : Int)) (c := (b.toNat : Int)) g
    have hl := Kid_lt T (p : Int) (b.toNat : Int) h.pos
    obtain ⟨m, hm⟩ : ∃ m, Kid T (p : Int) (b.toNat : Int) = m := ⟨_, rfl⟩
    rw [show kid T T.length (p : Int) (b.toNat : Int) = m from hm] at hs
    rw [hm] at hl g ⊢
    obtain ⟨p', b', hp', hc', hu', hx'⟩ := h.node m (by omega) hl
    rw [hc', hu'] at hs
    have e1 : p' = p := by omega
    have e2 : b' = b := UInt8.toNat_inj.1 (by omega)
    exact (h.kid_of hp hl (by rw [hx', e1, e2])).symm
theorem next_first (h : Tx T X) (F : Nat → Nat) (b : UInt8) (j : Nat) : j < T.length → (∀ i, i ≤ j → i ≠ 0 → F i < i) → nxg (Kid T) F (b.toNat : Int) j = nxg (KidL T) F (b.toNat : Int) j := by
  induction j using Nat.strongRecOn with
  | _ j ih =>
    intro hj hF
    have hk := h.kid_kidL hj b
    by_cases g : j ≠ 0 ∧ KidL T (j : Int) (b.toNat : Int) = 0
    · rw [nxg_go g.1 (by rw [hk]; exact g.2) (hF j (Nat.le_refl _) g.1), nxg_go g.1 g.2 (hF j (Nat.le_refl _) g.1)]
      have := hF j (Nat.le_refl _) g.1
      exact ih (F j) this (by omega) (fun i hi => hF i (by omega))
    · have g' : j = 0 ∨ KidL T (j : Int) (b.toNat : Int) ≠ 0 := by
        by_cases h0 : j = 0
        · exact .inl h0
        · exact .inr (fun e => g ⟨h0, e⟩)
      rw [nxg_stop (by rw [hk]; exact g'), nxg_stop g', hk]
end Tx
end Go.Proofs.Ytmmjcbfffcnfiaa
