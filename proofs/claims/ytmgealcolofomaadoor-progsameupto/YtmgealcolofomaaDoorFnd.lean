/- Plain facts on the first place of a text: no program is read here. -/
import Derived.WalkKit
import Derived.Lib.IndexMore
import Derived.Lib.IndexBytes
namespace Go.Proofs.YtmgealcolofomaaDoor
namespace Fnd
open Go.Lib (index occAt NoOcc)

/-- the first place from 'frm' on at which t stands in s; -1: none -/
def find (s t : List UInt8) (frm : Int) : Int :=
  if (s.length : Int) < max frm 0 then -1 else if index (s.drop (max frm 0).toNat) t < 0 then -1 else max frm 0 + index (s.drop (max frm 0).toNat) t

theorem occ_drop (s t : List UInt8) (a j : Nat) : occAt (s.drop a) t j = occAt s t (a + j) := by
  unfold occAt; rw [List.drop_drop]

/-- either nothing stands from there on, or the place is told -/
theorem find_spec (s t : List UInt8) (frm : Int) :
    (find s t frm = -1 ∧ ∀ j : Nat, max frm 0 ≤ j → j ≤ s.length → occAt s t j = false) ∨
    (∃ k : Nat, find s t frm = k ∧ max frm 0 ≤ k ∧ k ≤ s.length ∧ occAt s t k = true ∧ ∀ j : Nat, max frm 0 ≤ j → j < k → occAt s t j = false) := by
  unfold find
  by_cases h : (s.length : Int) < max frm 0
  · rw [if_pos h]; left; refine ⟨rfl, fun j h1 h2 => ?_⟩; omega
  · rw [if_neg h]
    obtain ⟨a, ha⟩ : ∃ a : Nat, (a : Int) = max frm 0 := ⟨(max frm 0).toNat, by omega⟩
    rw [← ha, Int.toNat_natCast]
    have hal : a ≤ s.length := by omega
    rcases Lib.index_spec (s.drop a) t with ⟨h1, h2⟩ | ⟨i, h1, h2, h3, h4⟩
    · left
      rw [h1]
      refine ⟨by simp, fun j hj1 hj2 => ?_⟩
      have := h2 (j - a) (by rw [List.length_drop]; omega)
      rw [occ_drop] at this
      rwa [show a + (j - a) = j from by omega] at this
    · right
      rw [h1, if_neg (by omega)]
      rw [List.length_drop] at h2
      refine ⟨a + i, by omega, by omega, by omega, by rw [← occ_drop]; exact h3, fun j hj1 hj2 => ?_⟩
      have := h4 (j - a) (by omega)
      rw [occ_drop] at this
      rwa [show a + (j - a) = j from by omega] at this

theorem occ_take {s t : List UInt8} {k : Nat} (hk : k ≤ s.length) (h : occAt s t k = true) : k + t.length ≤ s.length ∧ (s.drop k).take t.length = t := by
  have hr : k + t.length ≤ s.length := by
    rcases Lib.occAt_room h with h | h
    · exact h
    · subst h; simpa using hk
  refine ⟨hr, ?_⟩
  rw [Lib.occAt_iff_take s t k hr] at h
  simpa using h

theorem occ_not {s t : List UInt8} {k : Nat} (hk : k + t.length ≤ s.length) (h : occAt s t k = false) : (s.drop k).take t.length ≠ t := by
  rw [Lib.occAt_iff_take s t k hk] at h
  simpa using h

theorem find_unique (s t : List UInt8) (frm : Int) (k : Nat) (h1 : max frm 0 ≤ k) (h2 : k ≤ s.length) (h3 : occAt s t k = true) (h4 : ∀ j : Nat, max frm 0 ≤ j → j < k → occAt s t j = false) : find s t frm = k := by
  rcases find_spec s t frm with ⟨_, g⟩ | ⟨i, g1, g2, g3, g4, g5⟩
  · have := g k h1 h2; rw [h3] at this; cases this
  · rw [g1]
    by_cases e1 : i < k
    · have := h4 i g2 e1; rw [g4] at this; cases this
    · by_cases e2 : k < i
      · have := g5 k h1 e2; rw [h3] at this; cases this
      · omega

theorem find_again (s t : List UInt8) (frm : Int) (k : Nat) (h : find s t frm = k) : find s t k = k := by
  rcases find_spec s t frm with ⟨g, _⟩ | ⟨i, g1, g2, g3, g4, g5⟩
  · omega
  · have : i = k := by omega
    subst this
    exact find_unique s t i i (by omega) g3 g4 (fun j a b => by omega)

theorem find_ge (s t : List UInt8) (frm : Int) : -1 ≤ find s t frm := by
  rcases find_spec s t frm with ⟨g, _⟩ | ⟨i, g1, _⟩ <;> omega

theorem find_le (s t : List UInt8) (frm : Int) : find s t frm ≤ s.length := by
  rcases find_spec s t frm with ⟨g, _⟩ | ⟨i, g1, g2, g3, _⟩ <;> omega

theorem find_mid (u t s : List UInt8) : 0 ≤ find (u ++ t ++ s) t 0 ∧ find (u ++ t ++ s) t 0 ≤ u.length := by
  have ho : occAt (u ++ t ++ s) t u.length = true := by
    unfold occAt
    rw [List.append_assoc, List.drop_left, List.isPrefixOf_iff_prefix]
    exact List.prefix_append _ _
  rcases find_spec (u ++ t ++ s) t 0 with ⟨_, g⟩ | ⟨i, g1, g2, g3, g4, g5⟩
  · have := g u.length (by omega) (by simp)
    rw [ho] at this; cases this
  · refine ⟨by omega, ?_⟩
    rw [g1]
    by_cases e : u.length < i
    · have := g5 u.length (by omega) e
      rw [ho] at this; cases this
    · omega
end Fnd
end Go.Proofs.YtmgealcolofomaaDoor
