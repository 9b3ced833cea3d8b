/- What is printed is read as it was: a set: plain. -/
import Derived.Test.YtmhjfiaohbioeaaQa
namespace Go.Proofs.Ytmhjfiaohbioeaa
open Go.RowKit Kb Pop
set_option linter.unusedVariables false
set_option maxRecDepth 20000

theorem setOf_congr {p q : Nat → Bool} (h : ∀ j, j < 256 → p j = q j) : setOf p = setOf q := setOf_of (setOf_fit p) fun j hj => (setOf_bit p j hj).trans (h j hj)
theorem filter_one (b n : Nat) (h : b < n) : (List.range n).filter (fun x => decide (x = b)) = [b] := by
  induction n with
  | zero => omega
  | succ n ih =>
    rw [List.range_succ, List.filter_append]
    by_cases e : b = n
    · subst e
      have : (List.range b).filter (fun x => decide (x = b)) = [] := by
        rw [List.filter_eq_nil_iff]
        intro x hx
        have := List.mem_range.1 hx
        simp; omega
      rw [this]; simp
    · rw [ih (by omega)]
      have : ¬ n = b := fun h => e h.symm
      simp [this]
theorem heads_one {p : Nat → Bool} {b : Nat} (hb : b < 256) (h : ∀ j, j < 256 → p j = decide (j = b)) : headsL p 256 = [b] := by
  unfold headsL
  rw [← filter_one b 256 hb]
  apply List.filter_congr
  intro x hx
  have hx := List.mem_range.1 hx
  unfold heads
  rw [h x hx]
  by_cases e : x = b
  · subst e
    by_cases e0 : 0 < x
    · rw [h (x - 1) (by omega)]; simp; omega
    · simp [e0]
  · simp [e]
theorem heads_some {p : Nat → Bool} {j : Nat} (hj : j < 256) (h : p j = true) : headsL p 256 ≠ [] := by
  obtain ⟨b, h1, h2, _⟩ := run_head p j h
  intro e
  have : b ∈ headsL p 256 := List.mem_filter.2 ⟨List.mem_range.2 (by omega), h2⟩
  rw [e] at this
  cases this
theorem cnt_some {p : Nat → Bool} {n : Nat} (h : cntN p n ≠ 0) : ∃ j, j < n ∧ p j = true := by
  refine Classical.byContradiction fun hn => h ?_
  have : cntN p n = cntN (fun _ => false) n := cntN_congr fun j hj => by
    cases hp : p j
    · rfl
    · exact absurd ⟨j, hj, hp⟩ hn
  rw [this]
  clear this hn h
  induction n with
  | zero => rfl
  | succ n ih => rw [cntN, ih]; rfl
/-- a set that is printed is read as it was -/
theorem set_back (s : ByteArray) (grp : Nat → Rs) (t : Se) (ht : FitS t) (hne : cntN (bit t) 256 ≠ 0) (a : Nat) (ha : a ≤ s.size) (h : St s a (setT (bit t) 256)) : atomR s grp a = .ok (.byte t) (a + (setT (bit t) 256).length) ∧ Fb s a := by
  have hself : setOf (bit t) = t := (setOf_of ht fun j _ => rfl).symm
  obtain ⟨p, hp⟩ : ∃ p, bit t = p := ⟨_, rfl⟩
  rw [hp] at h hne hself ⊢
  unfold setT at h ⊢
  by_cases c1 : cntN p 256 = 1
  · rw [if_pos c1] at h ⊢
    obtain ⟨b, hb, hpb⟩ := cnt_some hne
    have hone := cntN_one hb hpb c1
    have ei : itemsP p 256 = charT (UInt8.ofNat b) := by
      rw [itemsP_list, heads_one hb hone]
      have hl : lastR p b = b := lastR_stop (by
        rintro ⟨h1, h2⟩
        rw [hone (b + 1) (by omega)] at h2
        have := of_decide_eq_true h2
        omega)
      simp only [List.flatMap_cons, List.flatMap_nil, List.append_nil]
      unfold item1
      rw [hl, if_neg (by omega), if_neg (by omega)]; simp
    rw [ei] at h ⊢
    obtain ⟨k1, k2, k3, k4, k5, k6, k7, k8, k9, k10⟩ := char_back h
    refine ⟨?_, k10⟩
    rw [atomR, if_neg k6, if_neg k7, if_neg k8, if_neg k4, if_neg k9, k2, k1]
    dsimp only
    rw [← hself, setOf_congr (p := fun j => decide (j = (UInt8.ofNat b).toNat)) (q := p) fun j hj => by rw [hone j hj, ofNat_nat hb]]
  rw [if_neg c1] at h ⊢
  by_cases c2 : cntN p 256 = 255 ∧ p 10 = false
  · rw [if_pos c2] at h ⊢
    obtain ⟨k1, _, _⟩ := h.cons
    have hn1 : cntN (fun j => !p j) 256 = 1 := by have := cntN_not p 256; omega
    have hone := cntN_one (p := fun j => !p j) (a := 10) (by omega) (by simp [c2.2]) hn1
    refine ⟨?_, fb_of k1 (by decide)⟩
    rw [atomR, if_neg (by rw [k1]; decide), if_neg (by rw [k1]; decide), if_pos k1, ← hself, setOf_congr (p := fun j => decide (j ≠ 10)) (q := p) fun j hj => by
      have := hone j hj
      by_cases e : j = 10
      · subst e; rw [c2.2]; rfl
      · rw [decide_eq_false e] at this
        have : p j = true := by simpa using this
        rw [this]; simp [e]]
    rfl
  rw [if_neg c2] at h ⊢
  by_cases c3 : 128 < cntN p 256 ∧ cntN p 256 < 256
  · rw [if_pos c3] at h ⊢
    obtain ⟨k1, l1, h⟩ := h.cons
    obtain ⟨k2, l2, h⟩ := h.cons
    have hn := cntN_not p 256
    obtain ⟨b, hb, hpb⟩ := cnt_some (p := fun j => !p j) (n := 256) (by omega)
    obtain ⟨q', e1, e2⟩ := items_back s (fun j => !p j) (a + 1 + 1) (by omega) (heads_some hb hpb) h
    have hit : itemsR s (a + 1) = (some (fun j => q' j != true), a + 1 + 1 + (itemsP (fun b => !p b) 256).length + 1) := by
      rw [itemsR, show tkA s (a + 1) 94 = a + 1 + 1 by unfold tkA; rw [if_pos k2], e1, decide_eq_true k2, shutR]
      rw [if_neg]
      rw [cntN_congr (q := p) (fun j hj => by rw [e2 j hj]; cases p j <;> rfl)]
      exact hne
    refine ⟨?_, fb_of k1 (by decide)⟩
    rw [atomR, if_neg (by rw [k1]; decide), if_pos k1, hit, ← hself]
    dsimp only
    rw [setOf_congr (q := p) fun j hj => by rw [e2 j hj]; cases p j <;> rfl]
    rw [show a + (91 :: 94 :: (itemsP (fun b => !p b) 256 ++ [93])).length = a + 1 + 1 + (itemsP (fun b => !p b) 256).length + 1 by simp only [List.length_cons, List.length_append, List.length_nil]; omega]
  · rw [if_neg c3] at h ⊢
    obtain ⟨k1, l1, h⟩ := h.cons
    obtain ⟨b, hb, hpb⟩ := cnt_some hne
    obtain ⟨q', e1, e2⟩ := items_back s p (a + 1) (by omega) (heads_some hb hpb) h
    have k2 : pkB s (a + 1) ≠ 94 := by
      rw [itemsP_list] at h
      cases hh : headsL p 256 with
      | nil => exact absurd hh (heads_some hb hpb)
      | cons b r => rw [hh, List.flatMap_cons, List.append_assoc] at h; exact (item1_ne h).2.2
    have hit : itemsR s (a + 1) = (some (fun j => q' j != false), a + 1 + (itemsP p 256).length + 1) := by
      rw [itemsR, show tkA s (a + 1) 94 = a + 1 by unfold tkA; rw [if_neg k2], e1, decide_eq_false k2, shutR]
      rw [if_neg]
      rw [cntN_congr (q := p) (fun j hj => by rw [e2 j hj]; cases p j <;> rfl)]
      exact hne
    refine ⟨?_, fb_of k1 (by decide)⟩
    rw [atomR, if_neg (by rw [k1]; decide), if_pos k1, hit, ← hself]
    dsimp only
    rw [setOf_congr (q := p) fun j hj => by rw [e2 j hj]; cases p j <;> rfl]
    rw [show a + (91 :: (itemsP p 256 ++ [93])).length = a + 1 + (itemsP p 256).length + 1 by simp only [List.length_cons, List.length_append, List.length_nil]; omega]
end Go.Proofs.Ytmhjfiaohbioeaa
