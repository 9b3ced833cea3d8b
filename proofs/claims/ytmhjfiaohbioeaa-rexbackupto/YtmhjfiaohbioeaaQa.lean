/- What is printed is read as it was: bytes and items: plain. -/
import Derived.Test.YtmhjfiaohbioeaaKo
namespace Go.Proofs.Ytmhjfiaohbioeaa
open Go.RowKit Kb
set_option linter.unusedVariables false
set_option maxRecDepth 20000

/-- at a stands l -/
def St (s : ByteArray) (a : Nat) (l : List UInt8) : Prop := ∃ r, s.data.toList.drop a = l ++ r
theorem St.cons {s : ByteArray} {a : Nat} {c : UInt8} {l : List UInt8} (h : St s a (c :: l)) : pkB s a = c ∧ a < s.size ∧ St s (a + 1) l := by
  obtain ⟨r, h⟩ := h
  have hl : a < s.size := by
    rcases Nat.lt_or_ge a s.size with h1 | h1
    · exact h1
    · rw [List.drop_eq_nil_of_le (by simpa using h1)] at h; cases h
  rw [pkB_drop s a hl] at h
  simp only [List.cons_append, List.cons.injEq] at h
  exact ⟨h.1, hl, r, h.2⟩
theorem St.app {s : ByteArray} {a : Nat} {l m : List UInt8} (h : St s a (l ++ m)) : St s a l ∧ St s (a + l.length) m := by
  obtain ⟨r, h⟩ := h
  refine ⟨⟨m ++ r, by rw [h, List.append_assoc]⟩, r, ?_⟩
  rw [← List.drop_drop, h, List.append_assoc, List.drop_left]
theorem St.le {s : ByteArray} {a : Nat} {l : List UInt8} (h : St s a l) (ha : a ≤ s.size) : a + l.length ≤ s.size := by
  obtain ⟨r, h⟩ := h
  have := congrArg List.length h
  simp at this
  omega
theorem hv_hex (c : UInt8) : hv (hexs.data.toList.getD (c.toNat / 16) 0) = ((c.toNat / 16 : Nat) : Int) ∧ hv (hexs.data.toList.getD (c.toNat % 16) 0) = ((c.toNat % 16 : Nat) : Int) := by
  have := u8_all (p := fun c => decide (hv (hexs.data.toList.getD (c.toNat / 16) 0) = ((c.toNat / 16 : Nat) : Int) ∧ hv (hexs.data.toList.getD (c.toNat % 16) 0) = ((c.toNat % 16 : Nat) : Int))) (by decide +kernel) c
  simpa using this
theorem spec_not (c : UInt8) (h : has specs c = true) : c ≠ 120 ∧ c ≠ 110 ∧ c ≠ 116 ∧ c ≠ 114 ∧ c ≠ 100 ∧ c ≠ 119 ∧ c ≠ 115 := by
  have := u8_all (p := fun c => !has specs c || decide (c ≠ 120 ∧ c ≠ 110 ∧ c ≠ 116 ∧ c ≠ 114 ∧ c ≠ 100 ∧ c ≠ 119 ∧ c ≠ 115)) (by decide +kernel) c
  rw [h] at this
  simpa using this
theorem plain_not (c : UInt8) (h1 : ¬ (c.toNat < 33 ∨ 126 < c.toNat)) (h2 : ¬ has specs c = true) : plR c = true ∧ c ≠ 92 ∧ c ≠ 45 ∧ c ≠ 93 ∧ c ≠ 94 := by
  have := u8_all (p := fun c => decide (c.toNat < 33 ∨ 126 < c.toNat) || (has specs c || (plR c && decide (c ≠ 92 ∧ c ≠ 45 ∧ c ≠ 93 ∧ c ≠ 94)))) (by decide +kernel) c
  rw [decide_eq_false h1, show has specs c = false by simpa using h2] at this
  simpa using this
/-- the first byte is none that ends a row or stands behind an atom -/
def Fb (s : ByteArray) (a : Nat) : Prop := pkB s a ≠ 124 ∧ pkB s a ≠ 41 ∧ pkB s a ≠ 42 ∧ pkB s a ≠ 43 ∧ pkB s a ≠ 63
theorem fb_of {s : ByteArray} {a : Nat} {c : UInt8} (h : pkB s a = c) (hc : c ≠ 124 ∧ c ≠ 41 ∧ c ≠ 42 ∧ c ≠ 43 ∧ c ≠ 63) : Fb s a := by unfold Fb; rw [h]; exact hc
/-- a byte that is printed is read as it was -/
theorem char_back {s : ByteArray} {a : Nat} {c : UInt8} (h : St s a (charT c)) : charR s a = (some c.toNat, a + (charT c).length) ∧ clsP s a = none ∧ pkB s a ≠ 93 ∧ pkB s a ≠ 94 ∧ pkB s a ≠ 45 ∧ pkB s a ≠ 40 ∧ pkB s a ≠ 91 ∧ pkB s a ≠ 46 ∧ pkB s a ≠ 36 ∧ Fb s a := by
  unfold charT at h ⊢
  by_cases h1 : c.toNat = 10
  · rw [if_pos h1] at h ⊢
    obtain ⟨k1, _, h⟩ := h.cons
    obtain ⟨k2, _, h⟩ := h.cons
    refine ⟨?_, ?_, by rw [k1]; decide, by rw [k1]; decide, by rw [k1]; decide, by rw [k1]; decide, by rw [k1]; decide, by rw [k1]; decide, by rw [k1]; decide, fb_of k1 (by decide)⟩
    · rw [charR, if_pos k1, escR, k2, h1]; rfl
    · rw [clsP, if_pos k1, k2]; rfl
  rw [if_neg h1] at h ⊢
  by_cases h2 : c.toNat = 9
  · rw [if_pos h2] at h ⊢
    obtain ⟨k1, _, h⟩ := h.cons
    obtain ⟨k2, _, h⟩ := h.cons
    refine ⟨?_, ?_, by rw [k1]; decide, by rw [k1]; decide, by rw [k1]; decide, by rw [k1]; decide, by rw [k1]; decide, by rw [k1]; decide, by rw [k1]; decide, fb_of k1 (by decide)⟩
    · rw [charR, if_pos k1, escR, k2, h2]; rfl
    · rw [clsP, if_pos k1, k2]; rfl
  rw [if_neg h2] at h ⊢
  by_cases h3 : c.toNat = 13
  · rw [if_pos h3] at h ⊢
    obtain ⟨k1, _, h⟩ := h.cons
    obtain ⟨k2, _, h⟩ := h.cons
    refine ⟨?_, ?_, by rw [k1]; decide, by rw [k1]; decide, by rw [k1]; decide, by rw [k1]; decide, by rw [k1]; decide, by rw [k1]; decide, by rw [k1]; decide, fb_of k1 (by decide)⟩
    · rw [charR, if_pos k1, escR, k2, h3]; rfl
    · rw [clsP, if_pos k1, k2]; rfl
  rw [if_neg h3] at h ⊢
  by_cases h4 : c.toNat < 33 ∨ 126 < c.toNat
  · rw [if_pos h4] at h ⊢
    unfold twoH at h ⊢
    obtain ⟨k1, _, h⟩ := h.cons
    obtain ⟨k2, _, h⟩ := St.cons (l := [_, _]) h
    obtain ⟨k3, _, h⟩ := h.cons
    obtain ⟨k4, _, h⟩ := h.cons
    obtain ⟨e1, e2⟩ := hv_hex c
    refine ⟨?_, ?_, by rw [k1]; decide, by rw [k1]; decide, by rw [k1]; decide, by rw [k1]; decide, by rw [k1]; decide, by rw [k1]; decide, by rw [k1]; decide, fb_of k1 (by decide)⟩
    · rw [charR, if_pos k1, escR, if_pos k2, hexR, k3, k4, e1, e2, if_neg (by omega), if_neg (by omega)]
      refine Prod.ext ?_ rfl
      simp only [Int.toNat_natCast]
      congr 1
      omega
    · rw [clsP, if_pos k1, k2]; rfl
  rw [if_neg h4] at h ⊢
  by_cases h5 : has specs c = true
  · rw [if_pos h5] at h ⊢
    obtain ⟨k1, _, h⟩ := h.cons
    obtain ⟨k2, _, h⟩ := h.cons
    obtain ⟨n1, n2, n3, n4, n5, n6, n7⟩ := spec_not c h5
    refine ⟨?_, ?_, by rw [k1]; decide, by rw [k1]; decide, by rw [k1]; decide, by rw [k1]; decide, by rw [k1]; decide, by rw [k1]; decide, by rw [k1]; decide, fb_of k1 (by decide)⟩
    · rw [charR, if_pos k1, escR, k2, if_neg n1, if_neg n2, if_neg n3, if_neg n4, if_pos h5]; rfl
    · rw [clsP, if_pos k1, k2, if_neg n5, if_neg n6, if_neg n7]
  rw [if_neg h5] at h ⊢
  obtain ⟨k1, _, h⟩ := h.cons
  obtain ⟨n1, n2, n3, n4, n5⟩ := plain_not c h4 h5
  have n7 : c ≠ 124 ∧ c ≠ 41 ∧ c ≠ 42 ∧ c ≠ 43 ∧ c ≠ 63 := by
    refine ⟨?_, ?_, ?_, ?_, ?_⟩ <;> (intro e; rw [e] at h5; exact h5 (by decide))
  have n6 : c ≠ 40 ∧ c ≠ 91 ∧ c ≠ 46 ∧ c ≠ 36 := by
    refine ⟨?_, ?_, ?_, ?_⟩ <;> (intro e; rw [e] at h5; exact h5 (by decide))
  refine ⟨?_, ?_, by rw [k1]; exact n4, by rw [k1]; exact n5, by rw [k1]; exact n3, by rw [k1]; exact n6.1, by rw [k1]; exact n6.2.1, by rw [k1]; exact n6.2.2.1, by rw [k1]; exact n6.2.2.2, fb_of k1 n7⟩
  · rw [charR, k1, if_neg n2, if_pos n1]; rfl
  · rw [clsP, k1, if_neg n2]
theorem item_one {s : ByteArray} {a : Nat} {c : UInt8} (h : St s a (charT c)) (hn : pkB s (a + (charT c).length) ≠ 45) : itemR s a = (some (fun j => decide (j = c.toNat)), a + (charT c).length) := by
  obtain ⟨h1, h2, _⟩ := char_back h
  rw [itemR, h2, h1]
  dsimp only
  rw [if_neg hn]
theorem item_two {s : ByteArray} {a : Nat} {c d : UInt8} (h : St s a (charT c ++ 45 :: charT d)) (hle : c.toNat ≤ d.toNat) : itemR s a = (some (betw c.toNat d.toNat), a + (charT c).length + 1 + (charT d).length) := by
  obtain ⟨g1, g2⟩ := h.app
  obtain ⟨k1, _, g3⟩ := g2.cons
  obtain ⟨h1, h2, _⟩ := char_back g1
  obtain ⟨h3, _⟩ := char_back g3
  rw [itemR, h2, h1]
  dsimp only
  rw [if_pos k1, h3]
  dsimp only
  rw [if_neg (by omega)]

def headsL (p : Nat → Bool) (n : Nat) : List Nat := (List.range n).filter (heads p)
theorem itemsP_list (p : Nat → Bool) (n : Nat) : itemsP p n = (headsL p n).flatMap (item1 p) := by
  induction n with
  | zero => rfl
  | succ n ih =>
    unfold headsL at *
    rw [itemsP, ih, List.range_succ, List.filter_append, List.flatMap_append]
    congr 1
    by_cases h : heads p n = true
    · rw [if_pos h]; simp [h]
    · rw [if_neg h]; simp [h]
theorem lastR_all (p : Nat → Bool) (n : Nat) : ∀ b, 255 - b ≤ n → p b = true → ∀ i, b ≤ i → i ≤ lastR p b → p i = true := by
  induction n with
  | zero =>
    intro b hn hb i h1 h2
    rw [lastR_stop (by omega)] at h2
    rw [show i = b by omega]; exact hb
  | succ n ih =>
    intro b hn hb i h1 h2
    by_cases h : b < 255 ∧ p (b + 1) = true
    · rw [lastR_go h.1 h.2] at h2
      by_cases e : i = b
      · rw [e]; exact hb
      · exact ih (b + 1) (by omega) h.2 i (by omega) h2
    · rw [lastR_stop h] at h2
      rw [show i = b by omega]; exact hb
theorem lastR_max (p : Nat → Bool) (n : Nat) : ∀ b j, j - b ≤ n → b ≤ j → j ≤ 255 → (∀ i, b ≤ i → i ≤ j → p i = true) → j ≤ lastR p b := by
  induction n with
  | zero => intro b j hn h1 h2 h3; have := (lastR_ge p 255 b (by omega)).1; omega
  | succ n ih =>
    intro b j hn h1 h2 h3
    by_cases e : b = j
    · have := (lastR_ge p 255 b (by omega)).1; omega
    · rw [lastR_go (by omega) (h3 (b + 1) (by omega) (by omega))]
      exact ih (b + 1) j (by omega) (by omega) h2 (fun i hi hj => h3 i (by omega) hj)
/-- where a run begins -/
theorem run_head (p : Nat → Bool) (j : Nat) (hj : p j = true) : ∃ b, b ≤ j ∧ heads p b = true ∧ ∀ i, b ≤ i → i ≤ j → p i = true := by
  induction j with
  | zero => exact ⟨0, Nat.le_refl _, by simp [heads, hj], fun i h1 h2 => by rw [show i = 0 by omega]; exact hj⟩
  | succ j ih =>
    cases hp : p j
    · refine ⟨j + 1, Nat.le_refl _, by simp [heads, hj, hp], fun i h1 h2 => ?_⟩
      rw [show i = j + 1 by omega]; exact hj
    · obtain ⟨b, h1, h2, h3⟩ := ih hp
      refine ⟨b, by omega, h2, fun i k1 k2 => ?_⟩
      by_cases e : i = j + 1
      · rw [e]; exact hj
      · exact h3 i k1 (by omega)
theorem runs_set (p : Nat → Bool) (j : Nat) (hj : j < 256) : (headsL p 256).any (fun b => betw b (lastR p b) j) = p j := by
  rw [Bool.eq_iff_iff, List.any_eq_true]
  constructor
  · rintro ⟨b, hb, h⟩
    obtain ⟨_, hh⟩ := List.mem_filter.1 hb
    have hpb : p b = true := by unfold heads at hh; simp at hh; exact hh.1
    unfold betw at h
    have h := of_decide_eq_true h
    exact lastR_all p 255 b (by omega) hpb j h.1 h.2
  · intro h
    obtain ⟨b, h1, h2, h3⟩ := run_head p j h
    refine ⟨b, List.mem_filter.2 ⟨List.mem_range.2 (by omega), h2⟩, ?_⟩
    unfold betw
    exact decide_eq_true ⟨h1, lastR_max p 255 b j (by omega) h1 (by omega) h3⟩
theorem ofNat_nat {b : Nat} (h : b < 256) : (UInt8.ofNat b).toNat = b := by simp; omega
theorem item1_ne {s : ByteArray} {p : Nat → Bool} {a b : Nat} {l : List UInt8} (h : St s a (item1 p b ++ l)) : pkB s a ≠ 93 ∧ pkB s a ≠ 45 ∧ pkB s a ≠ 94 := by
  unfold item1 at h
  rw [List.append_assoc] at h
  obtain ⟨_, _, h1, h2, h3, _⟩ := char_back h.app.1
  exact ⟨h1, h3, h2⟩
theorem next_ne {s : ByteArray} {p : Nat → Bool} {a : Nat} {hs : List Nat} (h : St s a (hs.flatMap (item1 p) ++ [93])) : pkB s a ≠ 45 := by
  cases hs with
  | nil => rw [(St.cons h).1]; decide
  | cons b r => rw [List.flatMap_cons, List.append_assoc] at h; exact (item1_ne h).2.1
theorem loop_list (s : ByteArray) (p : Nat → Bool) (hs : List Nat) : ∀ (q : Nat → Bool) (a : Nat), a ≤ s.size → (∀ b ∈ hs, b < 256) → St s a (hs.flatMap (item1 p) ++ [93]) →
    ∃ q', loopR s q a = (some q', a + (hs.flatMap (item1 p)).length) ∧ ∀ j, q' j = (q j || hs.any (fun b => betw b (lastR p b) j)) := by
  induction hs with
  | nil =>
    intro q a ha _ h
    exact ⟨q, loopR_end (St.cons h).1, fun j => by simp⟩
  | cons b r ih =>
    intro q a ha hb h
    have hb256 := hb b List.mem_cons_self
    have hl := lastR_ge p 255 b (by omega)
    have hl255 := hl.2 (by omega)
    rw [List.flatMap_cons, List.append_assoc] at h
    have hne := (item1_ne h).1
    have hle := St.le h ha
    have h0 := h
    obtain ⟨g1, g2⟩ := h.app
    have hn2 := next_ne g2
    have hr : ∀ b ∈ r, b < 256 := fun x hx => hb x (List.mem_cons_of_mem _ hx)
    by_cases e1 : lastR p b = b
    · have ei : item1 p b = charT (UInt8.ofNat b) := by unfold item1; rw [if_neg (by omega), if_neg (by omega)]; simp
      rw [ei] at g1 g2 hn2
      have hi := item_one g1 hn2
      rw [ofNat_nat hb256] at hi
      obtain ⟨q', k1, k2⟩ := ih (fun j => q j || decide (j = b)) _ (by rw [ei] at hle; simp at hle; omega) hr g2
      refine ⟨q', ?_, fun j => ?_⟩
      · rw [loopR_go ha hne hi, k1, List.flatMap_cons, List.length_append, ei, Nat.add_assoc]
      · rw [k2 j, List.any_cons, Bool.or_assoc, e1]
        congr 2
        unfold betw
        rw [Bool.eq_iff_iff]; simp; omega
    · by_cases e2 : lastR p b = b + 1
      · have ei : item1 p b = charT (UInt8.ofNat b) ++ charT (UInt8.ofNat (lastR p b)) := by unfold item1; rw [if_neg (by omega), if_pos (by omega)]; simp
        rw [ei] at g1 g2 hn2 hle
        obtain ⟨f1, f2⟩ := g1.app
        obtain ⟨_, _, n1, _, n3, _⟩ := char_back f2
        have hi := item_one f1 n3
        rw [ofNat_nat hb256] at hi
        rw [List.length_append, ← Nat.add_assoc] at g2 hn2
        have hi2 := item_one f2 hn2
        rw [ofNat_nat (by omega)] at hi2
        simp only [List.length_append] at hle
        obtain ⟨q', k1, k2⟩ := ih (fun j => (q j || decide (j = b)) || decide (j = lastR p b)) _ (by omega) hr g2
        refine ⟨q', ?_, fun j => ?_⟩
        · rw [loopR_go ha hne hi, loopR_go (by omega) n1 hi2, k1, List.flatMap_cons, List.length_append, ei, List.length_append, Nat.add_assoc, Nat.add_assoc, Nat.add_assoc]
        · rw [k2 j, List.any_cons, Bool.or_assoc (q j), Bool.or_assoc (q j)]
          congr 2
          unfold betw
          rw [Bool.eq_iff_iff]; simp; omega
      · have ei : item1 p b = charT (UInt8.ofNat b) ++ 45 :: charT (UInt8.ofNat (lastR p b)) := by unfold item1; rw [if_pos (by omega), if_pos (by omega)]; rfl
        rw [ei] at g1 g2
        have hi := item_two g1 (by rw [ofNat_nat hb256, ofNat_nat (by omega)]; omega)
        rw [ofNat_nat hb256, ofNat_nat (by omega)] at hi
        rw [ei] at hle
        simp only [List.length_append, List.length_cons] at hle g2
        rw [show a + ((charT (UInt8.ofNat b)).length + ((charT (UInt8.ofNat (lastR p b))).length + 1)) = a + (charT (UInt8.ofNat b)).length + 1 + (charT (UInt8.ofNat (lastR p b))).length by omega] at g2
        obtain ⟨q', k1, k2⟩ := ih (fun j => q j || betw b (lastR p b) j) _ (by omega) hr g2
        refine ⟨q', ?_, fun j => ?_⟩
        · rw [loopR_go ha hne hi, k1, List.flatMap_cons, List.length_append, ei, List.length_append, List.length_cons]
          refine Prod.ext rfl ?_
          dsimp only
          omega
        · rw [k2 j, List.any_cons, Bool.or_assoc]
/-- the items of a set that has a byte are read as they were -/
theorem items_back (s : ByteArray) (p : Nat → Bool) (a : Nat) (ha : a ≤ s.size) (hne : headsL p 256 ≠ []) (h : St s a (itemsP p 256 ++ [93])) :
    ∃ q', openR s (itemR s a) = (some q', a + (itemsP p 256).length) ∧ ∀ j, j < 256 → q' j = p j := by
  rw [itemsP_list] at h ⊢
  obtain ⟨q', k1, k2⟩ := loop_list s p (headsL p 256) (fun _ => false) a ha (fun b hb => List.mem_range.1 (List.mem_filter.1 hb).1) h
  refine ⟨q', ?_, fun j hj => by rw [k2 j, Bool.false_or]; exact runs_set p j hj⟩
  have h93 : pkB s a ≠ 93 := by
    cases hh : headsL p 256 with
    | nil => exact absurd hh hne
    | cons b r => rw [hh, List.flatMap_cons, List.append_assoc] at h; exact (item1_ne h).1
  obtain ⟨⟨o, c⟩, ho⟩ : ∃ z, itemR s a = z := ⟨_, rfl⟩
  cases o with
  | none => rw [loopR_err h93 ho] at k1; cases k1
  | some q =>
    rw [loopR_go ha h93 ho] at k1
    rw [ho, ← k1]
    show loopR s q c = _
    congr 1
end Go.Proofs.Ytmhjfiaohbioeaa
