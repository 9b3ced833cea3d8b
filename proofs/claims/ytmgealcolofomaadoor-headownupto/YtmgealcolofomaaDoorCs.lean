/- Pieces of a text at a sign c, and texts joined with it: no program is read here. -/
import Derived.Test.YtmgealcolofomaaDoorCq
namespace Go.Proofs.YtmgealcolofomaaDoor
open Go.Lib
namespace Cs
open Cp (wt wt_cons wt_take len_wt occ_split)

/-- the pieces between the signs c -/
def cut (c : UInt8) : List UInt8 → List (List UInt8)
  | [] => [[]]
  | b :: l => if b = c then [] :: cut c l else (b :: (cut c l).head?.getD []) :: (cut c l).tail

theorem cut_ne (c : UInt8) (l : List UInt8) : cut c l ≠ [] := by
  cases l with
  | nil => simp [cut]
  | cons b l => unfold cut; split <;> simp
theorem cut_eta (c : UInt8) (l : List UInt8) : (cut c l).head?.getD [] :: (cut c l).tail = cut c l := by
  cases h : cut c l with
  | nil => exact absurd h (cut_ne c l)
  | cons a r => simp
theorem cut_no {c : UInt8} : ∀ {l : List UInt8}, c ∉ l → cut c l = [l]
  | [], _ => rfl
  | b :: l, h => by
    have h1 : ¬ b = c := fun e => h (by simp [e])
    have h2 : c ∉ l := fun e => h (by simp [e])
    unfold cut; rw [if_neg h1, cut_no h2]; rfl
theorem cut_hit {c : UInt8} : ∀ {a : List UInt8} (b : List UInt8), c ∉ a → cut c (a ++ c :: b) = a :: cut c b
  | [], b, _ => by show cut c (c :: b) = _; rw [cut, if_pos rfl]
  | d :: a, b, h => by
    have h1 : ¬ d = c := fun e => h (by simp [e])
    have h2 : c ∉ a := fun e => h (by simp [e])
    show cut c (d :: (a ++ c :: b)) = _
    rw [cut, if_neg h1, cut_hit b h2]; rfl
theorem cut_mem {c : UInt8} : ∀ (l : List UInt8), ∀ p ∈ cut c l, c ∉ p
  | [], p, h => by simp [cut] at h; subst h; simp
  | b :: l, p, h => by
    unfold cut at h
    have ih := cut_mem (c := c) l
    split at h
    · rcases List.mem_cons.1 h with rfl | h
      · simp
      · exact ih p h
    · rename_i hb
      have e := cut_eta c l
      rcases List.mem_cons.1 h with rfl | h
      · intro hm
        rcases List.mem_cons.1 hm with e1 | hm
        · exact hb e1.symm
        · exact ih _ (by rw [← e]; simp) hm
      · exact ih p (by rw [← e]; exact List.mem_cons_of_mem _ h)
theorem wt_cut (c : UInt8) : ∀ l : List UInt8, wt (cut c l) = l.length + 1
  | [] => rfl
  | b :: l => by
    have ih := wt_cut c l
    unfold cut
    split
    · rw [wt_cons, ih]; simp; omega
    · rw [← cut_eta c l, wt_cons] at ih
      rw [wt_cons]; simp; omega
theorem joinTail_len (c : UInt8) (r : List (List UInt8)) : (Lib.joinTail [c] r).length = wt r := by
  induction r with
  | nil => rfl
  | cons p r ih => rw [wt_cons, ← ih]; simp [Lib.joinTail]; omega
theorem join_len (c : UInt8) (r : List (List UInt8)) : (Lib.join r [c]).length ≤ wt r := by
  cases r with
  | nil => simp [Lib.join_nil]
  | cons p r => rw [Lib.join_cons, List.length_append, joinTail_len, wt_cons]; omega
/-- what was joined is cut again -/
theorem cut_join {c : UInt8} {L : List (List UInt8)} (hL : L ≠ []) (h : ∀ p ∈ L, c ∉ p) : cut c (Lib.join L [c]) = L := by
  cases L with
  | nil => exact absurd rfl hL
  | cons x r =>
    clear hL
    induction r generalizing x with
    | nil => rw [Lib.join_one]; exact cut_no (h x (by simp))
    | cons y r ih =>
      have e : Lib.join (x :: y :: r) [c] = x ++ c :: Lib.join (y :: r) [c] := by rw [Lib.join_cons, Lib.join_cons]; simp [Lib.joinTail]
      rw [e, cut_hit _ (h x (by simp)), ih y (fun q hq => h q (List.mem_cons_of_mem _ hq))]
/-- what was cut is joined again -/
theorem join_cut (c : UInt8) : ∀ l : List UInt8, Lib.join (cut c l) [c] = l
  | [] => by rw [cut]; exact Lib.join_one _ _
  | b :: l => by
    have ih := join_cut c l
    rw [← cut_eta c l, Lib.join_cons] at ih
    unfold cut
    split
    · rename_i hb
      subst hb
      rw [Lib.join_cons, ← cut_eta b l]
      simp only [Lib.joinTail, List.map_cons, List.flatten_cons, List.nil_append] at ih ⊢
      rw [List.append_assoc, ih]; rfl
    · rw [Lib.join_cons]
      simp only [List.cons_append, ih]
/-- the library's split at one byte -/
theorem split_cut (c : UInt8) : ∀ (n : Nat) (s : List UInt8), s.length ≤ n → Lib.splitK [c] 0 (Lib.count s [c]) s = cut c s := by
  intro n
  induction n with
  | zero =>
    intro s h
    have : s = [] := List.length_eq_zero_iff.1 (by omega)
    subst this
    have h1 : Lib.index [] [c] = -1 := by
      rcases Lib.index_spec [] [c] with ⟨h1, h2⟩ | ⟨i, h1, h2, h3, h4⟩
      · exact h1
      · rcases Lib.occAt_room h3 with h' | h'
        · simp at h'
        · cases h'
    rw [Lib.count_miss h1]; rfl
  | succ n ih =>
    intro s h
    rcases Lib.index_spec s [c] with ⟨h1, h2⟩ | ⟨i, h1, h2, h3, h4⟩
    · rw [Lib.count_miss h1, cut_no (Cq.occ_one_no h2)]; rfl
    · rw [Lib.count_hit (by simp) h1, Nat.add_comm]
      have hs := occ_split h3
      have hroom : i + 1 ≤ s.length := by
        rcases Lib.occAt_room h3 with h' | h'
        · exact h'
        · cases h'
      have hm : ¬ (Lib.index s [c] == -1) = true := fun e => by have := beq_iff_eq.1 e; omega
      have e : (Lib.index s [c]).toNat = i := by omega
      rw [Lib.splitK, if_neg hm, e]
      rw [show ([c] : List UInt8).length = 1 from rfl, Nat.add_zero]
      rw [ih (s.drop (i + 1)) (by rw [List.length_drop]; omega)]
      have e2 : s = s.take i ++ c :: s.drop (i + 1) := by
        rw [List.append_assoc] at hs; exact hs
      have := cut_hit (a := s.take i) (s.drop (i + 1)) (Cq.occ_one_take fun j hj => h4 j hj)
      rw [← e2] at this
      exact this.symm
/-- the library's count of one byte -/
theorem count_len (c : UInt8) : ∀ l : List UInt8, l.count c + 1 = (cut c l).length
  | [] => rfl
  | b :: l => by
    have ih := count_len c l
    unfold cut
    split
    · rename_i h; subst h; rw [List.count_cons_self, List.length_cons, ih]
    · rename_i h
      rw [List.count_cons_of_ne h, ih]
      have := congrArg List.length (cut_eta c l)
      rw [← this]; rfl
theorem find_miss {c : UInt8} {s : List UInt8} (h : c ∉ s) : Fnd.find s [c] 0 = -1 :=
  Cp.find_no fun a b e => h (by rw [e]; simp)
theorem find_cut (c : UInt8) (s : List UInt8) : (c ∉ s ∧ Fnd.find s [c] 0 = -1) ∨ ∃ i : Nat, Fnd.find s [c] 0 = i ∧ i + 1 ≤ s.length ∧ cut c s = s.take i :: cut c (s.drop (i + 1)) := by
  by_cases h : c ∈ s
  · refine .inr ?_
    rcases Fnd.find_spec s [c] 0 with h1 | ⟨k, h1, h2, h3, h4, h5⟩
    · obtain ⟨u, v, huv⟩ := List.append_of_mem h
      have := (Fnd.find_mid u [c] v).1
      rw [show u ++ [c] ++ v = s by rw [huv]; simp, h1.1] at this
      omega
    · refine ⟨k, h1, ?_, ?_⟩
      · rcases Lib.occAt_room h4 with h' | h'
        · exact h'
        · cases h'
      · have hs := occ_split h4
        have e2 : s = s.take k ++ c :: s.drop (k + 1) := by
          rw [List.append_assoc] at hs; exact hs
        have := cut_hit (a := s.take k) (s.drop (k + 1)) (Cq.occ_one_take fun j hj => h5 j (by omega) hj)
        rwa [← e2] at this
  · exact .inl ⟨h, find_miss h⟩

theorem join_snoc (c : UInt8) (L : List (List UInt8)) (hL : L ≠ []) (x : List UInt8) : Lib.join (L ++ [x]) [c] = Lib.join L [c] ++ [c] ++ x := by
  cases L with
  | nil => exact absurd rfl hL
  | cons a r => rw [List.cons_append, Lib.join_cons, Lib.join_cons]; simp [Lib.joinTail]
def Jn (c : UInt8) (L : List (List UInt8)) (k : Nat) : List UInt8 := Lib.join (L.take k) [c]
theorem Jn_one (c : UInt8) (L : List (List UInt8)) (x : List UInt8) (h : L[0]? = some x) : Jn c L 1 = x := by
  unfold Jn; rw [List.take_add_one, h]; exact Lib.join_one _ _
theorem Jn_succ (c : UInt8) (L : List (List UInt8)) (k : Nat) (hk : 0 < k) (x : List UInt8) (h : L[k]? = some x) : Jn c L (k + 1) = Jn c L k ++ [c] ++ x := by
  unfold Jn; rw [List.take_add_one, h]
  refine join_snoc c _ ?_ x
  intro e
  have := congrArg List.length e
  have h2 : k < L.length := (List.getElem?_eq_some_iff.1 h).1
  rw [List.length_take, List.length_nil] at this; omega
theorem Jn_len (c : UInt8) (L : List (List UInt8)) (k : Nat) : (Jn c L k).length ≤ wt L := Nat.le_trans (join_len c _) (wt_take L k)
theorem wt_mem : ∀ (L : List (List UInt8)) (x : List UInt8), x ∈ L → x.length ≤ wt L
  | p :: L, x, h => by
    rw [wt_cons]
    rcases List.mem_cons.1 h with rfl | h
    · omega
    · have := wt_mem L x h; omega
end Cs
end Go.Proofs.YtmgealcolofomaaDoor
