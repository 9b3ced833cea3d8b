/- The code of an expression, as what Find of instructions is handed. -/
import Derived.Test.YtmgealcolofomaaDoorEi
import Derived.Test.YtmgealcolofomaaDoorEu
namespace Go.Proofs.YtmgealcolofomaaDoor
open Go.RowKit Kb
set_option linter.unusedVariables false
set_option maxRecDepth 20000
theorem Pm.allF_of (n : Nat) : ∀ (r : List In) (k : Nat), (∀ j x, r[j]? = some x → Pm.formed n (k + j) x = true) → Pm.allF n k r = true := by
  intro r
  induction r with
  | nil => intro k _; rfl
  | cons y r ih =>
    intro k h
    rw [Pm.allF, Bool.and_eq_true]
    refine ⟨h 0 y rfl, ih (k + 1) fun j x hj => ?_⟩
    rw [show k + 1 + j = k + (j + 1) by omega]
    exact h (j + 1) x (by simpa using hj)
/-- the code with what ends it -/
def codeM (e : Ex) : List In := cdx e 0 ++ [⟨6, 0, 0, ⟨0, 0, 0, 0⟩⟩]
theorem codeM_len (e : Ex) : (codeM e).length = (cdx e 0).length + 1 := by simp [codeM]
theorem chk_code (e : Ex) (h : e.nodes ≤ 80) : Pm.chk (codeM e) = 0 := by
  have hl := cdx_len e 0
  have hc := codeM_len e
  unfold Pm.chk
  rw [if_neg (by omega), if_neg (by omega), if_pos]
  refine Pm.allF_of _ _ 0 fun j x hj => ?_
  rw [Nat.zero_add]
  have hb := (List.getElem?_eq_some_iff.1 hj).1
  unfold codeM at hj
  rw [List.getElem?_append] at hj
  unfold Pm.formed
  split at hj
  · have := Pm.cdx_in e 0 j x hj
    rw [hc]
    by_cases a1 : x.k = 1 ∨ x.k = 4 ∨ x.k = 5
    · rw [if_pos a1, decide_eq_true_eq]; omega
    rw [if_neg a1]
    by_cases a2 : x.k = 2
    · rw [if_pos a2]; simp only [Bool.and_eq_true, decide_eq_true_eq]; omega
    rw [if_neg a2]
    by_cases a3 : x.k = 3
    · rw [if_pos a3]; simp only [Bool.and_eq_true, decide_eq_true_eq]; omega
    omega
  · rename_i hj0
    have : j - (cdx e 0).length = 0 := by omega
    rw [this] at hj
    simp at hj
    subst hj
    rw [if_neg (by decide), if_neg (by decide), if_neg (by decide)]
    decide
theorem fit_code (e : Ex) (h : e.Full) : ∀ n, ∀ x ∈ cdx e n, FitS x.s := by
  have h0 : FitS noSet := by unfold FitS noSet; decide
  induction e with
  | none => intro n x hx; simp [cdx] at hx; subst hx; exact h0
  | emp => intro n x hx; simp [cdx] at hx
  | byte u => intro n x hx; simp [cdx] at hx; subst hx; exact h.2
  | cat a b iha ihb =>
    intro n x hx
    simp only [cdx, List.mem_append] at hx
    rcases hx with hx | hx
    · exact iha h.1 n x hx
    · exact ihb h.2 _ x hx
  | alt a b iha ihb =>
    intro n x hx
    simp only [cdx, List.mem_cons, List.mem_append] at hx
    rcases hx with rfl | hx | rfl | hx
    · exact h0
    · exact iha h.1 _ x hx
    · exact h0
    · exact ihb h.2 _ x hx
  | star a iha =>
    intro n x hx
    simp only [cdx, List.mem_cons, List.mem_append, List.not_mem_nil, or_false] at hx
    rcases hx with rfl | hx | rfl
    · exact h0
    · exact iha h _ x hx
    · exact h0
  | beg => intro n x hx; simp [cdx] at hx; subst hx; exact h0
  | en => intro n x hx; simp [cdx] at hx; subst hx; exact h0
theorem insts_own {B : Nat} {w : World} {v : Value} {p : List In} (h : OwnJ B p w v) (hf : ∀ x ∈ p, FitS x.s) (hne : p ≠ []) : Insts w v p := by
  have hl : 0 < p.length := List.length_pos_iff.2 hne
  obtain ⟨x0, hx0⟩ : ∃ x, p[0]? = some x := ⟨p[0], List.getElem?_eq_getElem hl⟩
  obtain ⟨g, c, hv, hc, hg, _⟩ := h.at_ hx0
  refine ⟨⟨_, _, hv, hc⟩, hf, fun _ => ⟨g, 0, c, hv, hg, fun j x hj => ?_⟩⟩
  obtain ⟨g', c', hv', _, _, h0, h1, h2, h3, h4, h5, h6⟩ := h.at_ hj
  rw [hv] at hv'
  cases hv'
  simpa using ⟨h0, h1, h2, h3, h4, h5, h6⟩
theorem thompsonB (s : List UInt8) (e : Ex) : Pm.spanB (codeM e) s = Sp.M s e := by
  funext i j
  rw [Bool.eq_iff_iff, Pm.spanB_iff]
  exact Pm.thompson s e _ i j
end Go.Proofs.YtmgealcolofomaaDoor
