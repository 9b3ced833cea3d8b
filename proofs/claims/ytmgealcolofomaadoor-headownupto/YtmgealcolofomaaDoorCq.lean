/- Blanks, nulls and commands, as lists of bytes; the library's split and replace: no program is read here. -/
import Derived.Test.YtmgealcolofomaaDoorCp
import Derived.Test.YtmgealcolofomaaDoorWl
namespace Go.Proofs.YtmgealcolofomaaDoor
set_option linter.unusedVariables false
set_option maxRecDepth 20000
namespace Cq
open Go.Lib (occAt)
open Cp (occ_split occ_succ)

theorem occ_one_no {s : List UInt8} {x : UInt8} (h : ∀ j, j ≤ s.length → occAt s [x] j = false) : x ∉ s := by
  intro hm
  obtain ⟨a, b, rfl⟩ := List.append_of_mem hm
  have := h a.length (by simp)
  unfold occAt at this
  rw [List.drop_left] at this
  simp at this
theorem occ_one_take {s : List UInt8} {x : UInt8} {i : Nat} (h : ∀ j, j < i → occAt s [x] j = false) : x ∉ s.take i := by
  intro hm
  obtain ⟨a, b, hab⟩ := List.append_of_mem hm
  have hl : a.length < i := by
    have := congrArg List.length hab
    simp at this; omega
  have := h a.length hl
  have e : s = a ++ x :: (b ++ s.drop i) := by
    have h2 := List.take_append_drop i s
    rw [hab] at h2
    refine h2.symm.trans ?_
    simp
  unfold occAt at this
  rw [e, List.drop_left] at this
  simp at this
/-- the library's split at one byte -/
theorem split_cut : ∀ (n : Nat) (s : List UInt8), s.length ≤ n → Lib.splitK [47] 0 (Lib.count s [47]) s = Cp.cut s := by
  intro n
  induction n with
  | zero =>
    intro s h
    have : s = [] := List.length_eq_zero_iff.1 (by omega)
    subst this; decide
  | succ n ih =>
    intro s h
    rcases Lib.index_spec s [47] with ⟨h1, h2⟩ | ⟨i, h1, h2, h3, h4⟩
    · rw [Lib.count_miss h1, Cp.cut_no (occ_one_no h2)]; rfl
    · rw [Lib.count_hit (by simp) h1, Nat.add_comm]
      have hs := occ_split h3
      have hroom : i + 1 ≤ s.length := by
        rcases Lib.occAt_room h3 with h' | h'
        · exact h'
        · cases h'
      have hm : ¬ (Lib.index s [47] == -1) = true := fun e => by have := beq_iff_eq.1 e; omega
      have e : (Lib.index s [47]).toNat = i := by omega
      rw [Lib.splitK, if_neg hm, e]
      rw [show ([47] : List UInt8).length = 1 from rfl, Nat.add_zero]
      rw [ih (s.drop (i + 1)) (by rw [List.length_drop]; omega)]
      have e2 : s = s.take i ++ 47 :: s.drop (i + 1) := by
        rw [List.append_assoc] at hs; exact hs
      have := Cp.cut_hit (a := s.take i) (s.drop (i + 1)) (occ_one_take fun j hj => h4 j hj)
      rw [← e2] at this
      exact this.symm

/-- a replacing as its two steps tell it -/
theorem replace_of (old new : List UInt8) (f : List UInt8 → List UInt8) (hne : old ≠ []) (hnn : old ≠ new)
    (h1 : ∀ s, (∀ j, j ≤ s.length → occAt s old j = false) → f s = s)
    (h2 : ∀ a b, (∀ j, j < a.length → occAt (a ++ (old ++ b)) old j = false) → f (a ++ (old ++ b)) = a ++ new ++ f b) :
    ∀ (s : List UInt8), Lib.replaceAll s old new = f s := by
  have key : ∀ (n : Nat) (s : List UInt8), s.length ≤ n → Lib.replaceK old new (Lib.count s old) s = f s := by
    intro n
    induction n with
    | zero =>
      intro s h
      have : s = [] := List.length_eq_zero_iff.1 (by omega)
      subst this
      have hi : ∀ j, j ≤ ([] : List UInt8).length → occAt [] old j = false := by
        intro j _; unfold occAt; cases old with
        | nil => exact absurd rfl hne
        | cons a t => simp
      have hix : Lib.index [] old = -1 := by
        cases old with
        | nil => exact absurd rfl hne
        | cons a t => rfl
      rw [Lib.count_miss hix, h1 [] hi]; rfl
    | succ n ih =>
      intro s h
      rcases Lib.index_spec s old with ⟨g1, g2⟩ | ⟨i, g1, g2, g3, g4⟩
      · rw [Lib.count_miss g1, h1 s g2]; rfl
      · rw [Lib.count_hit hne g1, Nat.add_comm, Lib.replaceK_hit old new _ s i g1]
        have hs := occ_split g3
        have hroom : i + old.length ≤ s.length := by
          rcases Lib.occAt_room g3 with h' | h'
          · exact h'
          · exact absurd h' hne
        have hpos : 0 < old.length := List.length_pos_iff.2 hne
        rw [ih (s.drop (i + old.length)) (by rw [List.length_drop]; omega)]
        have hl : (s.take i).length = i := by rw [List.length_take]; omega
        rw [List.append_assoc] at hs
        have := h2 (s.take i) (s.drop (i + old.length)) (by
          rw [← hs, hl]; exact g4)
        rw [← hs] at this
        exact this.symm
  intro s
  unfold Lib.replaceAll Lib.replace Lib.replaceNum
  rw [if_neg (by simpa using hnn), if_pos (.inl (by decide))]
  exact key _ s (Nat.le_refl _)

def sub1 (x y : UInt8) (c : UInt8) : UInt8 := if c = x then y else c
theorem replace_one (x y : UInt8) (h : x ≠ y) (s : List UInt8) : Lib.replaceAll s [x] [y] = s.map (sub1 x y) := by
  refine replace_of [x] [y] (fun s => s.map (sub1 x y)) (by simp) (by simpa using h) ?_ ?_ s
  · intro s hs
    have := occ_one_no hs
    show s.map (sub1 x y) = s
    rw [List.map_congr_left (g := id)]
    · simp
    · intro c hc; unfold sub1; rw [if_neg (fun e : c = x => this (e ▸ hc))]; rfl
  · intro a b hab
    have hx : x ∉ a := by
      have := occ_one_take (s := a ++ ([x] ++ b)) (i := a.length) hab
      rwa [List.take_left] at this
    show (a ++ ([x] ++ b)).map (sub1 x y) = _
    have : a.map (sub1 x y) = a := by
      rw [List.map_congr_left (g := id)]
      · simp
      · intro c hc; unfold sub1; rw [if_neg (fun e : c = x => hx (e ▸ hc))]; rfl
    rw [List.map_append, this]; simp [sub1]

/-- without the blanks that stand directly ahead of one of the signs that p tells -/
def rm (p : UInt8 → Bool) : List UInt8 → List UInt8
  | [] => []
  | c :: l => if c = 32 ∧ (l.head?.map p).getD false = true then rm p l else c :: rm p l
theorem occ_two (x c : UInt8) (l : List UInt8) : occAt (c :: l) [32, x] 0 = decide (c = 32 ∧ (l.head?.map (· == x)).getD false = true) := by
  unfold occAt
  cases l with
  | nil => simp [List.isPrefixOf]
  | cons d l =>
    simp only [List.drop_zero, List.isPrefixOf, Bool.and_true, List.head?_cons, Option.map_some, Option.getD_some]
    have e1 : ((32 : UInt8) == c) = decide (c = 32) := by
      by_cases h1 : c = 32
      · subst h1; rfl
      · rw [decide_eq_false h1]; exact beq_false_of_ne (Ne.symm h1)
    have e2 : (x == d) = decide (d = x) := by
      by_cases h1 : d = x
      · subst h1; simp
      · rw [decide_eq_false h1]; exact beq_false_of_ne (Ne.symm h1)
    rw [e1, e2]
    simp
theorem replace_two (x : UInt8) (hx : x ≠ 32) (s : List UInt8) : Lib.replaceAll s [32, x] [x] = rm (· == x) s := by
  refine replace_of [32, x] [x] (rm (· == x)) (by simp) (by simp) ?_ ?_ s
  · intro s
    induction s with
    | nil => intro _; rfl
    | cons c l ih =>
      intro h
      have h0 := h 0 (by simp)
      rw [occ_two] at h0
      rw [rm, if_neg (of_decide_eq_false h0), ih fun j hj => by rw [← occ_succ c]; exact h (j + 1) (by simpa using hj)]
  · intro a b
    induction a with
    | nil =>
      intro _
      show rm (· == x) (32 :: x :: b) = x :: rm (· == x) b
      rw [rm, if_pos (by simp), rm, if_neg (by simp [hx])]
    | cons c a ih =>
      intro h
      have h0 := h 0 (by simp)
      rw [show c :: a ++ ([32, x] ++ b) = c :: (a ++ ([32, x] ++ b)) from rfl, occ_two] at h0
      show rm (· == x) (c :: (a ++ ([32, x] ++ b))) = _
      rw [rm, if_neg (of_decide_eq_false h0), ih fun j hj => by rw [← occ_succ c]; exact h (j + 1) (by simpa using hj)]
      simp

/-- white bytes -/
def wh (c : UInt8) : Bool := decide (9 ≤ c.toNat ∧ c.toNat ≤ 13) || c == 32
def sqz : Bool → List UInt8 → List UInt8
  | _, [] => []
  | row, c :: l => (if wh c then (if row then [] else [32]) else [c]) ++ sqz (wh c) l
def lastW (row : Bool) (l : List UInt8) : Bool := l.foldl (fun _ c => wh c) row
theorem lastW_snoc (row : Bool) (l : List UInt8) (c : UInt8) : lastW row (l ++ [c]) = wh c := by simp [lastW]
theorem sqz_snoc : ∀ (l : List UInt8) (row : Bool) (c : UInt8), sqz row (l ++ [c]) = sqz row l ++ (if wh c then (if lastW row l then [] else [32]) else [c])
  | [], row, c => by show (if wh c then (if row then [] else [32]) else [c]) ++ [] = [] ++ _; rw [List.append_nil, List.nil_append]; rfl
  | d :: l, row, c => by
    have ih := sqz_snoc l (wh d) c
    show sqz row (d :: (l ++ [c])) = _
    rw [sqz, ih, sqz, List.append_assoc]; rfl
theorem sqz_len : ∀ (l : List UInt8) (row : Bool), (sqz row l).length ≤ l.length
  | [], _ => Nat.le_refl _
  | c :: l, row => by
    have ih := sqz_len l (wh c)
    rw [sqz, List.length_append, List.length_cons]
    have : (if wh c = true then (if row = true then ([] : List UInt8) else [32]) else [c]).length ≤ 1 := by split <;> (try split) <;> simp
    omega
/-- no row of white bytes but one blank -/
def ok : Bool → List UInt8 → Bool
  | _, [] => true
  | row, c :: l => (!wh c || (!row && c == 32)) && ok (wh c) l
theorem wh32 : wh 32 = true := by decide
theorem ok_sqz : ∀ (l : List UInt8) (row : Bool), ok row (sqz row l) = true
  | [], _ => rfl
  | c :: l, row => by
    have ih := ok_sqz l (wh c)
    rw [sqz]
    cases hc : wh c with
    | false => rw [hc] at ih; simp [ok, hc, ih]
    | true =>
      rw [hc] at ih
      cases row with
      | true => simpa using ih
      | false => simp [ok, wh32, ih]
theorem sqz_ok : ∀ (l : List UInt8) (row : Bool), ok row l = true → sqz row l = l
  | [], _, _ => rfl
  | c :: l, row, h => by
    rw [ok, Bool.and_eq_true] at h
    obtain ⟨h1, h2⟩ := h
    rw [sqz, sqz_ok l _ h2]
    cases hc : wh c with
    | false => simp
    | true =>
      rw [hc] at h1
      cases row with
      | true => simp at h1
      | false => simp at h1; simp [h1]
theorem sqz_sqz (l : List UInt8) : sqz false (sqz false l) = sqz false l := sqz_ok _ _ (ok_sqz _ _)
theorem ok_mid : ∀ (a b : List UInt8) (row : Bool), ok row (a ++ [32, 32] ++ b) = false
  | [], b, row => by simp [ok, wh32]
  | c :: a, b, row => by
    have ih := ok_mid a b (wh c)
    show ok row (c :: (a ++ [32, 32] ++ b)) = false
    rw [ok, ih]; simp
theorem sqz_two (l : List UInt8) : Fnd.find (sqz false l) [32, 32] 0 = -1 := by
  refine Cp.find_no fun a b h => ?_
  have h1 := ok_sqz l false
  rw [h, ok_mid] at h1; cases h1

/-- without the bytes that are told -/
def wo (bs : List UInt8) (l : List UInt8) : List UInt8 := l.filter fun c => !bs.contains c
theorem wo_snoc (bs l : List UInt8) (c : UInt8) : wo bs (l ++ [c]) = wo bs l ++ (if bs.contains c then [] else [c]) := by
  unfold wo; rw [List.filter_append]
  have e : [c].filter (fun c => !bs.contains c) = if bs.contains c then [] else [c] := by
    cases h : bs.contains c with
    | true => rw [List.filter_cons_of_neg (by rw [h]; decide)]; rfl
    | false => rw [List.filter_cons_of_pos (by rw [h]; decide)]; rfl
  rw [e]
theorem wo_len (bs l : List UInt8) : (wo bs l).length ≤ l.length := List.length_filter_le _ _
theorem wo_wo (bs l : List UInt8) : wo bs (wo bs l) = wo bs l := by unfold wo; rw [List.filter_filter]; simp
theorem wo_find (l : List UInt8) : Fnd.find (wo [0] l) [0] 0 = -1 := by
  refine Cp.find_no fun a b h => ?_
  have : (0 : UInt8) ∈ wo [0] l := by rw [h]; simp
  unfold wo at this
  simp at this

def hid : List UInt8 := [92, 34, 39, 94]
def rep (c : UInt8) : UInt8 := if c = 44 ∨ c = 59 then 32 else c
def op (c : UInt8) : Bool := c == 47 || c == 40
def cmd (l : List UInt8) : List UInt8 := lower (rm op (sqz false ((wo hid l).map rep)))
theorem rep_two (l : List UInt8) : Lib.replaceAll (Lib.replaceAll l [44] [32]) [59] [32] = l.map rep := by
  rw [replace_one 44 32 (by decide), replace_one 59 32 (by decide), List.map_map]
  refine List.map_congr_left fun c _ => ?_
  unfold sub1 rep
  by_cases h1 : c = 44
  · simp [h1]
  · simp [h1]
theorem rm_head (p : UInt8 → Bool) (x y : UInt8) (hxy : y ≠ x) (h32 : y ≠ 32) : ∀ l : List UInt8, ((rm (· == x) l).head?.map (· == y)).getD false = (l.head?.map (· == y)).getD false
  | [] => rfl
  | c :: l => by
    rw [rm]
    split
    · rename_i h
      obtain ⟨h1, h2⟩ := h
      cases l with
      | nil => simp at h2
      | cons d t =>
        simp at h2
        rw [rm_head p x y hxy h32 (d :: t)]
        subst h1 h2
        simp only [List.head?_cons, Option.map_some, Option.getD_some]
        rw [beq_false_of_ne (Ne.symm hxy), beq_false_of_ne (Ne.symm h32)]
    · simp
theorem rm_two (l : List UInt8) : rm (· == 40) (rm (· == 47) l) = rm op l := by
  induction l with
  | nil => rfl
  | cons c l ih =>
    rw [rm, rm]
    have hh := rm_head (· == 40) 47 40 (by decide) (by decide) l
    by_cases h1 : c = 32
    · by_cases h2 : (l.head?.map (· == 47)).getD false = true
      · rw [if_pos ⟨h1, h2⟩, ih, if_pos]
        refine ⟨h1, ?_⟩
        cases l with
        | nil => simp at h2
        | cons d t => simp at h2; simp [op, h2]
      · rw [if_neg (fun e => h2 e.2), rm, hh, ih]
        have : ((l.head?.map (· == 40)).getD false = true) ↔ ((l.head?.map op).getD false = true) := by
          cases l with
          | nil => simp
          | cons d t => simp at h2; simp [op, h2]
        by_cases h3 : (l.head?.map (· == 40)).getD false = true
        · rw [if_pos ⟨h1, h3⟩, if_pos ⟨h1, this.1 h3⟩]
        · rw [if_neg (fun e => h3 e.2), if_neg (fun e => h3 (this.2 e.2))]
    · rw [if_neg (fun e => h1 e.1), if_neg (fun e => h1 e.1), rm, if_neg (fun e => h1 e.1), ih]
theorem rm_len (p : UInt8 → Bool) : ∀ l : List UInt8, (rm p l).length ≤ l.length
  | [] => Nat.le_refl _
  | c :: l => by
    have ih := rm_len p l
    rw [rm]; split
    · simp; omega
    · simp; omega
theorem cmd_len (l : List UInt8) : (cmd l).length ≤ l.length := by
  unfold cmd lower
  rw [List.length_map]
  have h1 := rm_len op (sqz false ((wo hid l).map rep))
  have h2 := sqz_len ((wo hid l).map rep) false
  have h3 := wo_len hid l
  rw [List.length_map] at h2
  omega

/-! again it is the same -/
def good (c : UInt8) : Bool := !hid.contains c && !(c == 44 || c == 59)
theorem good_low (c : UInt8) : (good c → good (low8 c)) = true := by
  have := u8_all (p := fun c => !good c || good (low8 c)) (by decide +kernel) c
  simp at this ⊢
  intro h; rcases this with h1 | h1
  · rw [h] at h1; cases h1
  · exact h1
theorem wh_low (c : UInt8) : wh (low8 c) = wh c := by
  have := u8_all (p := fun c => wh (low8 c) == wh c) (by decide +kernel) c
  simpa using this
theorem bl_low (c : UInt8) : (low8 c == 32) = (c == 32) := by
  have := u8_all (p := fun c => (low8 c == 32) == (c == 32)) (by decide +kernel) c
  simpa using this
theorem op_low (c : UInt8) : op (low8 c) = op c := by
  have := u8_all (p := fun c => op (low8 c) == op c) (by decide +kernel) c
  simpa using this
theorem rep_good (c : UInt8) (h : hid.contains c = false) : good (rep c) = true := by
  have := u8_all (p := fun c => hid.contains c || good (rep c)) (by decide +kernel) c
  simp only [h, Bool.false_or] at this
  exact this
theorem rep_same (c : UInt8) (h : good c = true) : rep c = c := by
  unfold good at h
  unfold rep
  simp at h
  rw [if_neg (by simp [h])]
theorem sqz_all (p : UInt8 → Bool) (h32 : p 32 = true) : ∀ (l : List UInt8) (row : Bool), l.all p = true → (sqz row l).all p = true
  | [], _, _ => rfl
  | c :: l, row, h => by
    rw [List.all_cons, Bool.and_eq_true] at h
    rw [sqz, List.all_append, sqz_all p h32 l _ h.2]
    split <;> (try split) <;> simp [h32, h.1]
theorem rm_all (p q : UInt8 → Bool) : ∀ l : List UInt8, l.all p = true → (rm q l).all p = true
  | [], _ => rfl
  | c :: l, h => by
    rw [List.all_cons, Bool.and_eq_true] at h
    have ih := rm_all p q l h.2
    rw [rm]; split
    · exact ih
    · rw [List.all_cons, ih, h.1]; rfl
theorem op_wh (c : UInt8) (h : op c = true) : wh c = false ∧ c ≠ 32 := by
  have := u8_all (p := fun c => !op c || (!wh c && !(c == 32))) (by decide +kernel) c
  rw [h] at this
  simpa using this
theorem rm_ok : ∀ (l : List UInt8) (row : Bool), ok row l = true → ok row (rm op l) = true
  | [], _, _ => rfl
  | [c], row, h => by simpa [rm] using h
  | c :: d :: l, row, h => by
    rw [ok, Bool.and_eq_true] at h
    obtain ⟨h1, h2⟩ := h
    rw [rm]
    by_cases hb : c = 32 ∧ op d = true
    · obtain ⟨rfl, hd⟩ := hb
      rw [if_pos (by simpa using hd)]
      have ih := rm_ok (d :: l) row (by
        rw [ok] at h2 ⊢
        rw [(op_wh d hd).1] at h2 ⊢
        simpa using h2)
      exact ih
    · rw [if_neg (by simpa using hb), ok, h1, rm_ok (d :: l) _ h2]; rfl
theorem rm_rm : ∀ (l : List UInt8) (row : Bool), ok row l = true → rm op (rm op l) = rm op l
  | [], _, _ => rfl
  | [c], _, _ => by simp [rm]
  | c :: d :: l, row, h => by
    rw [ok, Bool.and_eq_true] at h
    obtain ⟨h1, h2⟩ := h
    have ih := rm_rm (d :: l) _ h2
    rw [rm]
    by_cases hb : c = 32 ∧ op d = true
    · rw [if_pos (by simpa using hb)]; exact ih
    · rw [if_neg (by simpa using hb)]
      by_cases hc : c = 32
      · have hd : ¬ op d = true := fun e => hb ⟨hc, e⟩
        have hw : ¬ d = 32 := by
          intro e
          rw [hc, e] at h2
          simp [ok, wh32] at h2
        have e1 : rm op (d :: l) = d :: rm op l := by rw [rm, if_neg (fun e => hw e.1)]
        rw [rm, ih]
        rw [if_neg]
        intro e
        rw [e1] at e
        exact hd (by simpa using e.2)
      · rw [rm, if_neg (fun e => hc e.1), ih]
theorem rm_low : ∀ l : List UInt8, rm op (lower l) = lower (rm op l)
  | [] => rfl
  | c :: l => by
    have ih := rm_low l
    have e1 : (c = 32) ↔ (low8 c = 32) := by
      have := bl_low c
      constructor
      · intro h; rw [h]; decide
      · intro h; rw [h] at this; simpa using this
    have e2 : ((lower l).head?.map op).getD false = (l.head?.map op).getD false := by
      cases l with
      | nil => rfl
      | cons d l => simp [lower, op_low]
    show rm op (low8 c :: lower l) = _
    rw [rm, rm, e2, ih]
    by_cases h : c = 32 ∧ (l.head?.map op).getD false = true
    · rw [if_pos h, if_pos ⟨e1.1 h.1, h.2⟩]
    · rw [if_neg h, if_neg (fun e => h ⟨e1.2 e.1, e.2⟩)]; rfl
theorem ok_low : ∀ (l : List UInt8) (row : Bool), ok row (lower l) = ok row l
  | [], _ => rfl
  | c :: l, row => by
    have ih := ok_low l (wh c)
    show ok row (low8 c :: lower l) = _
    rw [ok, ok, wh_low, bl_low, ih]
theorem cmd_cmd (l : List UInt8) : cmd (cmd l) = cmd l := by
  obtain ⟨a, ha⟩ : ∃ a, sqz false ((wo hid l).map rep) = a := ⟨_, rfl⟩
  have hok : ok false a = true := by rw [← ha]; exact ok_sqz _ _
  have hg : a.all good = true := by
    rw [← ha]
    refine sqz_all good (by decide) _ _ ?_
    rw [List.all_eq_true]
    intro c hc
    obtain ⟨d, hd, rfl⟩ := List.mem_map.1 hc
    unfold wo at hd
    rw [List.mem_filter] at hd
    exact rep_good d (by simpa using hd.2)
  have hc : cmd l = lower (rm op a) := by unfold cmd; rw [ha]
  have hgc : (cmd l).all good = true := by
    rw [hc, List.all_eq_true]
    intro c h
    obtain ⟨d, hd, rfl⟩ := List.mem_map.1 h
    have := List.all_eq_true.1 (rm_all good op a hg) d hd
    have g := good_low d
    simp at g
    exact g this
  have hokc : ok false (cmd l) = true := by rw [hc, ok_low]; exact rm_ok _ _ hok
  have h1 : wo hid (cmd l) = cmd l := by
    unfold wo
    rw [List.filter_eq_self]
    intro c h
    have := List.all_eq_true.1 hgc c h
    unfold good at this
    rw [Bool.and_eq_true] at this
    exact this.1
  have h2 : (cmd l).map rep = cmd l := by
    rw [List.map_congr_left (g := id)]
    · simp
    · intro c h; exact rep_same c (List.all_eq_true.1 hgc c h)
  rw [cmd, h1, h2, sqz_ok _ _ hokc, hc, rm_low, rm_rm _ _ hok, lower_lower]
theorem cmd_low (l : List UInt8) : lower (cmd l) = cmd l := by unfold cmd; rw [lower_lower]
end Cq
end Go.Proofs.YtmgealcolofomaaDoor
