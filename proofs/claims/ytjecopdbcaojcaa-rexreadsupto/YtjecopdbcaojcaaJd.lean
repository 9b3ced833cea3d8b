/- How the program writes sets: appendSet. -/
import Derived.Test.YtjecopdbcaojcaaJc
import Derived.Test.YtjecopdbcaojcaaHk
namespace Go.Proofs.Ytjecopdbcaojcaa
open Go.RowKit Kb Pop
set_option linter.unusedVariables false
set_option maxRecDepth 20000

theorem bits_ext {s t : Se} (hs : FitS s) (ht : FitS t) (h : ∀ j, j < 256 → bit s j = bit t j) : s = t := by
  have hw : ∀ i, i < 4 → wordS s i = wordS t i := by
    intro i hi
    have h1 := wordS_fit hs i hi
    have h2 := wordS_fit ht i hi
    have : (wordS s i).toNat = (wordS t i).toNat := by
      apply Nat.eq_of_testBit_eq
      intro j
      by_cases hj : j < 64
      · have := h (64 * i + j) (by omega)
        rw [bit_word s i hi j hj, bit_word t i hi j hj] at this
        exact this
      · have e : ∀ n : Nat, n < 18446744073709551616 → n.testBit j = false := fun n hn => Nat.testBit_lt_two_pow (Nat.lt_of_lt_of_le (by omega : n < 2 ^ 64) (Nat.pow_le_pow_right (by omega) (by omega)))
        rw [e _ (by omega), e _ (by omega)]
    omega
  have h0 := hw 0 (by omega)
  have h1 := hw 1 (by omega)
  have h2 := hw 2 (by omega)
  have h3 := hw 3 (by omega)
  obtain ⟨a, b, c, d⟩ := s
  obtain ⟨a', b', c', d'⟩ := t
  simp only [wordS] at h0 h1 h2 h3
  rw [h0, h1, h2, h3]
theorem abn_iff {s t : Se} (hs : FitS s) (ht : FitS t) (h : ∀ j, j < 256 → bit t j = decide (j ≠ 10)) : s = t ↔ (cntS s = 255 ∧ bit s 10 = false) := by
  have hc : cntN (fun j => decide (j ≠ 10)) 256 = 255 := by decide +kernel
  constructor
  · rintro rfl
    refine ⟨?_, by rw [h 10 (by omega)]; rfl⟩
    unfold cntS
    rw [cntN_congr h, hc]
  · rintro ⟨h1, h2⟩
    refine bits_ext hs ht fun j hj => ?_
    rw [h j hj]
    have hn := cntN_not (bit s) 256
    unfold cntS at h1
    have := cntN_one (p := fun j => !bit s j) (n := 256) (a := 10) (by omega) (by simp [h2]) (by omega) j hj
    by_cases e : j = 10
    · subst e; rw [h2]; rfl
    · rw [decide_eq_false e] at this
      rw [decide_eq_true e]
      simpa using this
theorem itemsP_congr {p q : Nat → Bool} (h : ∀ j, j < 256 → p j = q j) : itemsP p 256 = itemsP q 256 := by
  have hl : ∀ n l, 255 - l ≤ n → lastR p l = lastR q l := by
    intro n
    induction n with
    | zero => intro l hn; rw [lastR_stop (by omega), lastR_stop (by omega)]
    | succ n ih =>
      intro l hn
      by_cases hc : l < 255 ∧ p (l + 1) = true
      · rw [lastR_go hc.1 hc.2, lastR_go hc.1 (by rw [← h _ (by omega)]; exact hc.2), ih _ (by omega)]
      · rw [lastR_stop hc, lastR_stop (fun hq => hc ⟨hq.1, by rw [h _ (by omega)]; exact hq.2⟩)]
  have : ∀ b, b ≤ 256 → itemsP p b = itemsP q b := by
    intro b
    induction b with
    | zero => intro _; rfl
    | succ b ih =>
      intro hb
      rw [itemsP, itemsP, ih (by omega)]
      have e1 : heads p b = heads q b := by unfold heads; rw [h b (by omega), h (b - 1) (by omega)]
      have e2 : item1 p b = item1 q b := by unfold item1; rw [hl 255 b (by omega)]
      rw [e1, e2]
  exact this 256 (by omega)
theorem items_not {s : Se} (h : FitS s) : itemsP (bit (notS s)) 256 = itemsP (fun b => !bit s b) 256 := itemsP_congr fun j hj => notS_bit h j hj
end Go.Proofs.Ytjecopdbcaojcaa
