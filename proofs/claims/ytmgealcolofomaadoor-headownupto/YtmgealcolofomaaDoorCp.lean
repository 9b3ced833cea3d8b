/- Paths, as lists of bytes: no program is read here. -/
import Derived.Test.YtmgealcolofomaaDoorFnd
import Derived.Lib.Replace
import Derived.Lib.Join
namespace Go.Proofs.YtmgealcolofomaaDoor
set_option linter.unusedVariables false
set_option maxRecDepth 20000
namespace Cp
open Go.Lib (occAt)

theorem occ_split {s t : List UInt8} {i : Nat} (h : occAt s t i = true) : s = s.take i ++ t ++ s.drop (i + t.length) := by
  unfold occAt at h
  obtain ⟨r, hr⟩ := List.isPrefixOf_iff_prefix.1 h
  have h2 : s.drop (i + t.length) = r := by
    rw [← List.drop_drop, ← hr]; simp
  rw [h2, List.append_assoc, hr, List.take_append_drop]
theorem occ_succ (c : UInt8) (s t : List UInt8) (j : Nat) : occAt (c :: s) t (j + 1) = occAt s t j := rfl
theorem find_no {s t : List UInt8} (h : ∀ a b, s ≠ a ++ t ++ b) : Fnd.find s t 0 = -1 := by
  have hl := Fnd.find_le s t 0
  rcases Fnd.find_spec s t 0 with h1 | ⟨k, h1, h2, h3, h4, h5⟩
  · exact h1.1
  · exact absurd (occ_split h4) (h _ _)

/-- the pieces between the signs / -/
def cut : List UInt8 → List (List UInt8)
  | [] => [[]]
  | b :: l => if b = 47 then [] :: cut l else (b :: (cut l).head?.getD []) :: (cut l).tail

theorem cut_ne (l : List UInt8) : cut l ≠ [] := by
  cases l with
  | nil => simp [cut]
  | cons b l => unfold cut; split <;> simp
theorem cut_eta (l : List UInt8) : (cut l).head?.getD [] :: (cut l).tail = cut l := by
  cases h : cut l with
  | nil => exact absurd h (cut_ne l)
  | cons a r => simp
theorem cut_no : ∀ {l : List UInt8}, (47 : UInt8) ∉ l → cut l = [l]
  | [], _ => rfl
  | b :: l, h => by
    have h1 : ¬ b = 47 := fun e => h (by simp [e])
    have h2 : (47 : UInt8) ∉ l := fun e => h (by simp [e])
    unfold cut; rw [if_neg h1, cut_no h2]; rfl
theorem cut_hit : ∀ {a : List UInt8} (b : List UInt8), (47 : UInt8) ∉ a → cut (a ++ 47 :: b) = a :: cut b
  | [], b, _ => by show cut (47 :: b) = _; rw [cut, if_pos rfl]
  | c :: a, b, h => by
    have h1 : ¬ c = 47 := fun e => h (by simp [e])
    have h2 : (47 : UInt8) ∉ a := fun e => h (by simp [e])
    show cut (c :: (a ++ 47 :: b)) = _
    rw [cut, if_neg h1, cut_hit b h2]; rfl
theorem cut_app : ∀ (a b : List UInt8), cut (a ++ 47 :: b) = cut a ++ cut b
  | [], b => by show cut (47 :: b) = [] :: cut b; rw [cut, if_pos rfl]
  | c :: a, b => by
    show cut (c :: (a ++ 47 :: b)) = _
    rw [cut, cut_app a b]
    by_cases h : c = 47
    · rw [if_pos h, cut, if_pos h]; rfl
    · rw [if_neg h, cut, if_neg h]
      have := cut_eta a
      revert this
      cases h2 : cut a with
      | nil => exact absurd h2 (cut_ne a)
      | cons x r => intro _; simp
theorem cut_root (s : List UInt8) : cut (47 :: s) = [] :: cut s := by rw [cut, if_pos rfl]
theorem cut_mem : ∀ (l : List UInt8), ∀ p ∈ cut l, (47 : UInt8) ∉ p
  | [], p, h => by simp [cut] at h; subst h; simp
  | b :: l, p, h => by
    unfold cut at h
    have ih := cut_mem l
    split at h
    · rcases List.mem_cons.1 h with rfl | h
      · simp
      · exact ih p h
    · rename_i hb
      have e := cut_eta l
      rcases List.mem_cons.1 h with rfl | h
      · intro hm
        rcases List.mem_cons.1 hm with e1 | hm
        · exact hb e1.symm
        · exact ih _ (by rw [← e]; simp) hm
      · exact ih p (by rw [← e]; exact List.mem_cons_of_mem _ h)

/-- how much pieces weigh -/
def wt (ps : List (List UInt8)) : Nat := (ps.map fun p => p.length + 1).sum
theorem wt_cons (p : List UInt8) (r : List (List UInt8)) : wt (p :: r) = p.length + 1 + wt r := by simp [wt]
theorem wt_rev (r : List (List UInt8)) : wt r.reverse = wt r := by
  induction r with
  | nil => rfl
  | cons p r ih => rw [wt_cons, ← ih]; simp [wt]; omega
theorem wt_cut : ∀ l : List UInt8, wt (cut l) = l.length + 1
  | [] => rfl
  | b :: l => by
    have ih := wt_cut l
    unfold cut
    split
    · rw [wt_cons, ih]; simp; omega
    · rw [← cut_eta l, wt_cons] at ih
      rw [wt_cons]; simp; omega
theorem len_wt (r : List (List UInt8)) : r.length ≤ wt r := by
  induction r with
  | nil => exact Nat.le_refl _
  | cons p r ih => rw [wt_cons]; simp; omega
theorem joinTail_len (r : List (List UInt8)) : (Lib.joinTail [47] r).length = wt r := by
  induction r with
  | nil => rfl
  | cons p r ih => rw [wt_cons, ← ih]; simp [Lib.joinTail]; omega
theorem join_len (r : List (List UInt8)) : (Lib.join r [47]).length ≤ wt r := by
  cases r with
  | nil => simp [Lib.join_nil]
  | cons p r => rw [Lib.join_cons, List.length_append, joinTail_len, wt_cons]; omega
theorem wt_take (r : List (List UInt8)) (k : Nat) : wt (r.take k) ≤ wt r := by
  induction r generalizing k with
  | nil => simp
  | cons p r ih =>
    cases k with
    | zero => simp [wt]
    | succ k => rw [List.take_succ_cons, wt_cons, wt_cons]; have := ih k; omega

def dd : List UInt8 := [46, 46]
/-- one piece more: the last of what is left stands first -/
def put (r : Bool) (st : List (List UInt8)) (p : List UInt8) : List (List UInt8) :=
  if p = [] ∨ p = [46] then st
  else if p ≠ dd then p :: st
  else match st with
    | q :: t => if q ≠ dd then t else if r then q :: t else p :: q :: t
    | [] => if r then [] else [p]
def stack (r : Bool) (ps : List (List UInt8)) : List (List UInt8) := ps.foldl (put r) []
def left (r : Bool) (ps : List (List UInt8)) : List (List UInt8) := (stack r ps).reverse
def rooted (s : List UInt8) : Bool := s.head? == some 47
def lastOf (ps : List (List UInt8)) : List UInt8 := ps.getLast?.getD []
def dots (x : List UInt8) : Bool := x == [] || x == [46] || x == dd
def ends (ps : List (List UInt8)) : Bool := decide (1 < ps.length) && dots (lastOf ps)
def path (s : List UInt8) : List UInt8 :=
  (if rooted s then [47] else []) ++ Lib.join (left (rooted s) (cut s)) [47] ++ (if left (rooted s) (cut s) ≠ [] ∧ ends (cut s) = true then [47] else [])

theorem stack_snoc (r : Bool) (ps : List (List UInt8)) (p : List UInt8) : stack r (ps ++ [p]) = put r (stack r ps) p := by simp [stack]
theorem put_skip (r : Bool) (st : List (List UInt8)) {p : List UInt8} (h : p = [] ∨ p = [46]) : put r st p = st := by unfold put; rw [if_pos h]
theorem put_plain (r : Bool) (st : List (List UInt8)) {p : List UInt8} (h : ¬ (p = [] ∨ p = [46])) (h2 : p ≠ dd) : put r st p = p :: st := by unfold put; rw [if_neg h, if_pos h2]
theorem dd_not : ¬ (dd = [] ∨ dd = [46]) := by decide
theorem put_pop (r : Bool) {q : List UInt8} (t : List (List UInt8)) (h : q ≠ dd) : put r (q :: t) dd = t := by
  rw [put, if_neg dd_not, if_neg (by simp)]; simp [h]
theorem put_dd (r : Bool) (st : List (List UInt8)) (h : st = [] ∨ ∃ t, st = dd :: t) : put r st dd = if r then st else dd :: st := by
  unfold put; rw [if_neg dd_not, if_neg (by simp)]
  rcases h with rfl | ⟨t, rfl⟩
  · rfl
  · simp

structure Inv (r : Bool) (st : List (List UInt8)) : Prop where
  same : stack r st.reverse = st
  ok : ∀ q ∈ st, ¬ (q = [] ∨ q = [46]) ∧ (47 : UInt8) ∉ q ∧ (r = true → q ≠ dd)
theorem inv_nil (r : Bool) : Inv r [] := ⟨rfl, by simp⟩
theorem inv_put {r : Bool} {st : List (List UInt8)} (h : Inv r st) (p : List UInt8) (hp : (47 : UInt8) ∉ p) : Inv r (put r st p) := by
  obtain ⟨h1, h2⟩ := h
  by_cases ha : p = [] ∨ p = [46]
  · rw [put_skip r st ha]; exact ⟨h1, h2⟩
  by_cases hb : p = dd
  · subst hb
    by_cases hc : st = [] ∨ ∃ t, st = dd :: t
    · have hput := put_dd r st hc
      cases r with
      | true => rw [hput]; exact ⟨h1, h2⟩
      | false =>
        rw [hput]
        refine ⟨?_, ?_⟩
        · show stack false (dd :: st).reverse = dd :: st
          rw [List.reverse_cons, stack_snoc, h1, hput]; rfl
        · intro q hq
          rcases List.mem_cons.1 hq with rfl | hq
          · exact ⟨ha, hp, by intro h; cases h⟩
          · exact h2 q hq
    · cases st with
      | nil => exact absurd (.inl rfl) hc
      | cons q t =>
        have hq : q ≠ dd := fun e => hc (.inr ⟨t, by rw [e]⟩)
        rw [put_pop r t hq]
        refine ⟨?_, fun x hx => h2 x (List.mem_cons_of_mem _ hx)⟩
        rw [List.reverse_cons, stack_snoc, put_plain r _ (h2 q (by simp)).1 hq] at h1
        exact (List.cons.inj h1).2
  · rw [put_plain r st ha hb]
    refine ⟨?_, ?_⟩
    · rw [List.reverse_cons, stack_snoc, h1, put_plain r st ha hb]
    · intro q hq
      rcases List.mem_cons.1 hq with rfl | hq
      · exact ⟨ha, hp, fun _ => hb⟩
      · exact h2 q hq
theorem inv_fold {r : Bool} : ∀ (ps st : List (List UInt8)), Inv r st → (∀ p ∈ ps, (47 : UInt8) ∉ p) → Inv r (ps.foldl (put r) st)
  | [], st, h, _ => h
  | p :: ps, st, h, hp => inv_fold ps _ (inv_put h p (hp p (by simp))) fun q hq => hp q (List.mem_cons_of_mem _ hq)
theorem inv_stack (r : Bool) (s : List UInt8) : Inv r (stack r (cut s)) := inv_fold _ _ (inv_nil r) (cut_mem s)

theorem wt_put (r : Bool) (st : List (List UInt8)) (p : List UInt8) : wt (put r st p) ≤ wt st + (p.length + 1) := by
  unfold put
  split
  · omega
  · split
    · rw [wt_cons]; omega
    · split
      · rename_i q t
        split
        · rw [wt_cons]; omega
        · split
          · omega
          · rw [wt_cons p]; omega
      · split
        · omega
        · rw [wt_cons]; omega
theorem wt_fold (r : Bool) : ∀ (ps st : List (List UInt8)), wt (ps.foldl (put r) st) ≤ wt st + wt ps
  | [], st => by simp [wt]
  | p :: ps, st => by
    have h := wt_fold r ps (put r st p)
    have h2 := wt_put r st p
    rw [wt_cons]; simp only [List.foldl_cons]; omega
theorem wt_stack (r : Bool) (ps : List (List UInt8)) : wt (stack r ps) ≤ wt ps := by
  have := wt_fold r ps []
  simpa [wt, stack] using this
theorem path_len (s : List UInt8) : (path s).length ≤ s.length + 3 := by
  have h1 := join_len (left (rooted s) (cut s))
  have h2 := wt_stack (rooted s) (cut s)
  rw [wt_cut] at h2
  rw [left, wt_rev] at h1
  unfold path left
  rw [List.length_append, List.length_append]
  have h3 : (if rooted s = true then ([47] : List UInt8) else []).length ≤ 1 := by split <;> simp
  have h4 : (if (stack (rooted s) (cut s)).reverse ≠ [] ∧ ends (cut s) = true then ([47] : List UInt8) else []).length ≤ 1 := by split <;> simp
  omega

theorem path_nil : path [] = [] := by decide
theorem path_root : path [47] = [47] := by decide

theorem cut_joinTail : ∀ (x : List UInt8) (r : List (List UInt8)) (y : List UInt8), (47 : UInt8) ∉ x → (∀ p ∈ r, (47 : UInt8) ∉ p) → (47 : UInt8) ∉ y → cut (x ++ Lib.joinTail [47] r ++ y) = (match r.reverse with | [] => [x ++ y] | z :: q => x :: (q.reverse ++ [z ++ y])) := by
  intro x r
  induction r generalizing x with
  | nil => intro y hx _ hy; simp only [Lib.joinTail, List.map_nil, List.flatten_nil, List.append_nil, List.reverse_nil]; exact cut_no (by simp [hx, hy])
  | cons p r ih =>
    intro y hx hr hy
    have h1 := ih p y (hr p (by simp)) (fun q hq => hr q (List.mem_cons_of_mem _ hq)) hy
    have e : x ++ Lib.joinTail [47] (p :: r) ++ y = x ++ 47 :: (p ++ Lib.joinTail [47] r ++ y) := by simp [Lib.joinTail]
    rw [e, cut_hit _ hx, h1]
    cases hrr : r.reverse with
    | nil => have : r = [] := by simpa using hrr
             subst this; simp
    | cons z q =>
      have : r = q.reverse ++ [z] := by rw [← List.reverse_reverse r, hrr]; simp
      subst this; simp
theorem cut_join {L : List (List UInt8)} (hL : L ≠ []) (h : ∀ p ∈ L, (47 : UInt8) ∉ p) : cut (Lib.join L [47]) = L := by
  cases L with
  | nil => exact absurd rfl hL
  | cons x r =>
    have := cut_joinTail x r [] (h x (by simp)) (fun q hq => h q (List.mem_cons_of_mem _ hq)) (by simp)
    rw [List.append_nil] at this
    rw [Lib.join_cons, this]
    cases hrr : r.reverse with
    | nil => have : r = [] := by simpa using hrr
             subst this; simp
    | cons z q =>
      have : r = q.reverse ++ [z] := by rw [← List.reverse_reverse r, hrr]; simp
      subst this; simp
/-- the parts of a path that is made plain -/
theorem cut_whole {r e : Bool} {L : List (List UInt8)} (hL : L ≠ []) (h : ∀ p ∈ L, (47 : UInt8) ∉ p) :
    cut ((if r then [47] else []) ++ Lib.join L [47] ++ (if e then [47] else [])) = (if r then [[]] else []) ++ L ++ (if e then [[]] else []) := by
  have hj := cut_join hL h
  have h2 : cut (Lib.join L [47] ++ (if e then [47] else [])) = L ++ (if e then [[]] else []) := by
    cases e with
    | false => simpa using hj
    | true => show cut (Lib.join L [47] ++ 47 :: []) = _; rw [cut_app, hj]; rfl
  cases r with
  | false => simpa using h2
  | true => rw [List.append_assoc]; show cut (47 :: (Lib.join L [47] ++ (if e then [47] else []))) = _; rw [cut_root, h2]; rfl
theorem skip_first (r : Bool) (ps : List (List UInt8)) : stack r ([] :: ps) = stack r ps := by
  unfold stack; rw [List.foldl_cons, put_skip r [] (.inl rfl)]
theorem skip_last (r : Bool) (ps : List (List UInt8)) : stack r (ps ++ [[]]) = stack r ps := by
  rw [stack_snoc, put_skip _ _ (.inl rfl)]
theorem stack_whole {r r' e : Bool} {L : List (List UInt8)} : stack r ((if r' then [[]] else []) ++ L ++ (if e then [[]] else [])) = stack r L := by
  cases r' <;> cases e <;> simp [skip_first, skip_last]
theorem lastOf_snoc (l : List (List UInt8)) (x : List UInt8) : lastOf (l ++ [x]) = x := by simp [lastOf]
theorem snoc_of {l : List (List UInt8)} (h : l ≠ []) : ∃ q, l = q ++ [lastOf l] := by
  refine ⟨l.dropLast, ?_⟩
  have := List.dropLast_concat_getLast h
  rw [lastOf, List.getLast?_eq_some_getLast h]; exact this.symm

theorem rooted_cut {s : List UInt8} (h : rooted s = true) : ∃ t, s = 47 :: t := by
  cases s with
  | nil => simp [rooted] at h
  | cons b t => simp [rooted] at h; exact ⟨t, by rw [h]⟩

theorem path_path (s : List UInt8) : path (path s) = path s := by
  have inv := inv_stack (rooted s) s
  obtain ⟨r, hr⟩ : ∃ r, rooted s = r := ⟨_, rfl⟩
  obtain ⟨L, hL⟩ : ∃ L, left (rooted s) (cut s) = L := ⟨_, rfl⟩
  have hst : stack r L = L.reverse := by
    have := inv.same
    rw [← left, hL, hr] at this
    rw [this, ← hL, left, List.reverse_reverse, hr]
  have hok : ∀ q ∈ L, ¬ (q = [] ∨ q = [46]) ∧ (47 : UInt8) ∉ q ∧ (r = true → q ≠ dd) := by
    intro q hq
    have := inv.ok q (by rw [← hL, left] at hq; simpa using hq)
    rwa [hr] at this
  by_cases hn : L = []
  · have e1 : path s = if r then [47] else [] := by
      unfold path; rw [hL, hr, hn]; simp [Lib.join_nil]
    rw [e1]
    cases r
    · exact path_nil
    · exact path_root
  · obtain ⟨e, he⟩ : ∃ e, ends (cut s) = e := ⟨_, rfl⟩
    have e1 : path s = (if r then [47] else []) ++ Lib.join L [47] ++ (if e then [47] else []) := by
      unfold path; rw [hL, hr, he]; simp [hn]
    have ec : cut (path s) = (if r then [[]] else []) ++ L ++ (if e then [[]] else []) := by
      rw [e1]; exact cut_whole hn fun p hp => (hok p hp).2.1
    have er : rooted (path s) = r := by
      rw [e1]
      cases r with
      | true => simp [rooted]
      | false =>
        cases L with
        | nil => exact absurd rfl hn
        | cons x t =>
          have hx := hok x (by simp)
          cases x with
          | nil => exact absurd (.inl rfl) hx.1
          | cons b x =>
            have : b ≠ 47 := fun e => hx.2.1 (by simp [e])
            rw [Lib.join_cons]; simp [rooted, this]
    have el : left (rooted (path s)) (cut (path s)) = L := by
      rw [er, ec, left, stack_whole, hst, List.reverse_reverse]
    have ee : ends (cut (path s)) = e := by
      rw [ec]
      cases e with
      | true =>
        show ends (_ ++ [[]]) = true
        unfold ends
        rw [lastOf_snoc]
        have : 0 < L.length := List.length_pos_iff.2 hn
        simp [dots]
        cases r <;> simp <;> exact this
      | false =>
        rw [show (if false = true then ([[]] : List (List UInt8)) else []) = [] from rfl, List.append_nil]
        obtain ⟨q, hq⟩ := snoc_of hn
        have hmm : lastOf L ∈ q ++ [lastOf L] := by simp
        rw [← hq] at hmm
        have hlast := hok (lastOf L) hmm
        have hdots : lastOf L ≠ dd → dots (lastOf L) = false := by
          intro h
          have h1 : ¬ lastOf L = [] := fun e => hlast.1 (.inl e)
          have h2 : ¬ lastOf L = [46] := fun e => hlast.1 (.inr e)
          simp [dots, h, h1, h2]
        have hlast2 : lastOf ((if r = true then [[]] else []) ++ L) = lastOf L := by
          rw [hq, ← List.append_assoc, lastOf_snoc, lastOf_snoc]
        unfold ends
        rw [hlast2]
        obtain ⟨u, hu⟩ := snoc_of (cut_ne s)
        by_cases h1 : 1 < (cut s).length
        · have hx : dots (lastOf (cut s)) = false := by
            unfold ends at he
            simpa [h1] using he
          have hx1 : ¬ (lastOf (cut s) = [] ∨ lastOf (cut s) = [46]) := by
            intro h; rcases h with h | h <;> rw [h] at hx <;> simp [dots] at hx
          have hx2 : lastOf (cut s) ≠ dd := by
            intro h; rw [h] at hx; simp [dots] at hx
          have : lastOf L = lastOf (cut s) := by
            rw [← hL, left, hu, stack_snoc, put_plain _ _ hx1 hx2, List.reverse_cons, lastOf_snoc, lastOf_snoc]
          rw [hdots (by rw [this]; exact hx2)]; simp
        · cases r with
          | true =>
            obtain ⟨t, ht⟩ := rooted_cut hr
            rw [ht, cut_root] at h1
            have := List.length_pos_iff.2 (cut_ne t)
            simp only [List.length_cons] at h1; omega
          | false =>
            have hlen : L.length ≤ 1 := by
              have hu2 : u = [] := by
                rw [hu] at h1; simp only [List.length_append, List.length_cons, List.length_nil] at h1
                exact List.length_eq_zero_iff.1 (by omega)
              rw [← hL, left, hu, hu2]
              rw [hu2] at hu
              simp only [List.nil_append, stack, List.foldl_cons, List.foldl_nil, List.length_reverse]
              unfold put
              split
              · simp
              · split
                · simp
                · simp; split <;> simp
            have : ¬ 1 < L.length := by omega
            simp [this]
    unfold path at e1 ⊢
    rw [show (if rooted s = true then ([47] : List UInt8) else []) ++ Lib.join (left (rooted s) (cut s)) [47] ++ (if left (rooted s) (cut s) ≠ [] ∧ ends (cut s) = true then [47] else []) = path s from rfl] at e1 ⊢
    rw [el, er, ee, e1]
    simp [hn]

/-- what begins with / never goes above it -/
theorem path_up (s x a b : List UInt8) (hx : (47 : UInt8) ∉ x) (h : x = [] ∨ x = [46] ∨ x = dd) : path (47 :: s) ≠ a ++ (47 :: x ++ [47]) ++ b := by
  intro hp
  have inv := inv_stack true (47 :: s)
  have hr : rooted (47 :: s) = true := by simp [rooted]
  obtain ⟨L, hL⟩ : ∃ L, left true (cut (47 :: s)) = L := ⟨_, rfl⟩
  have hok : ∀ q ∈ L, ¬ (q = [] ∨ q = [46]) ∧ (47 : UInt8) ∉ q ∧ (true = true → q ≠ dd) := by
    intro q hq
    exact inv.ok q (by rw [← hL, left] at hq; simpa using hq)
  have hcut : cut (path (47 :: s)) = cut a ++ x :: cut b := by
    rw [hp]
    have e : a ++ (47 :: x ++ [47]) ++ b = a ++ 47 :: (x ++ 47 :: b) := by simp
    rw [e, cut_app, cut_hit _ hx]
  have la := List.length_pos_iff.2 (cut_ne a)
  have lb := List.length_pos_iff.2 (cut_ne b)
  by_cases hn : L = []
  · have e1 : path (47 :: s) = [47] := by
      unfold path; rw [hr, hL, hn]; simp [Lib.join_nil]
    rw [e1] at hcut
    have := congrArg List.length hcut
    simp [cut] at this; omega
  · have e1 : path (47 :: s) = (if true then [47] else []) ++ Lib.join L [47] ++ (if ends (cut (47 :: s)) then [47] else []) := by
      unfold path; rw [hr, hL]; simp [hn]
    rw [e1, cut_whole hn fun p hp => (hok p hp).2.1] at hcut
    have hmem : x ∈ L := by
      obtain ⟨c, hc⟩ := snoc_of (cut_ne b)
      cases ha : cut a with
      | nil => exact absurd ha (cut_ne a)
      | cons a0 a1 =>
        rw [ha] at hcut
        cases he : ends (cut (47 :: s)) with
        | false =>
          rw [he] at hcut
          simp at hcut
          rw [hcut.2]; simp
        | true =>
          rw [he, hc] at hcut
          have h2 : L ++ [[]] = (a1 ++ x :: c) ++ [lastOf (cut b)] := by
            have := (List.cons.inj (show [] :: (L ++ [[]]) = a0 :: (a1 ++ x :: (c ++ [lastOf (cut b)])) by simpa using hcut)).2
            rw [this]; simp
          have h3 := congrArg List.dropLast h2
          rw [List.dropLast_concat, List.dropLast_concat] at h3
          rw [h3]; simp
    have := hok x hmem
    rcases h with h | h | h
    · exact this.1 (.inl h)
    · exact this.1 (.inr h)
    · exact this.2.2 rfl h

/-- what is put ahead of .. is taken away -/
theorem path_back (s t : List UInt8) (ht : (47 : UInt8) ∉ t) (h1 : ¬ (t = [] ∨ t = [46])) (h2 : t ≠ dd) : path (47 :: (t ++ ([47, 46, 46, 47] ++ s))) = path (47 :: s) := by
  have e : cut (47 :: (t ++ ([47, 46, 46, 47] ++ s))) = [] :: t :: dd :: cut s := by
    rw [cut_root]
    have : t ++ ([47, 46, 46, 47] ++ s) = t ++ 47 :: (dd ++ 47 :: s) := by simp [dd]
    rw [this, cut_hit _ ht, cut_hit _ (by decide)]
  have r1 : rooted (47 :: (t ++ ([47, 46, 46, 47] ++ s))) = true := by simp [rooted]
  have r2 : rooted (47 :: s) = true := by simp [rooted]
  have el : left true ([] :: t :: dd :: cut s) = left true ([] :: cut s) := by
    unfold left stack
    simp only [List.foldl_cons]
    rw [put_skip true [] (.inl rfl), put_plain true [] h1 h2, put_pop true [] h2]
  have ee : ends ([] :: t :: dd :: cut s) = ends ([] :: cut s) := by
    obtain ⟨c, hc⟩ := snoc_of (cut_ne s)
    unfold ends
    rw [hc, show [] :: t :: dd :: (c ++ [lastOf (cut s)]) = ([] :: t :: dd :: c) ++ [lastOf (cut s)] from rfl, show [] :: (c ++ [lastOf (cut s)]) = ([] :: c) ++ [lastOf (cut s)] from rfl, lastOf_snoc, lastOf_snoc]
    simp
  unfold path
  rw [r1, r2, e, cut_root, el, ee]
theorem path_head (s : List UInt8) : ∃ t, path (47 :: s) = 47 :: t := by
  unfold path
  rw [show rooted (47 :: s) = true by simp [rooted]]
  exact ⟨_, by simp; rfl⟩
end Cp
end Go.Proofs.YtmgealcolofomaaDoor
