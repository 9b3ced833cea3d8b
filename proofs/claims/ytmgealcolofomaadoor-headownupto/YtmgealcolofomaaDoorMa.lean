/- Heads of requests, as lists of bytes: no program is read here. -/
import Derived.Test.YtmgealcolofomaaDoorCs
import Derived.Test.YtmgealcolofomaaDoorWt
import Derived.Test.YtmgealcolofomaaDoorRb
namespace Go.Proofs.YtmgealcolofomaaDoor
set_option linter.unusedVariables false
set_option maxRecDepth 20000
namespace Mh
abbrev L8 := List UInt8
/-- the pieces of a text between instances of another one -/
def pc (t l : L8) : List L8 := Lib.split l t
theorem pc_miss {t l : L8} (h : Lib.index l t = -1) : pc t l = [l] := by
  unfold pc Lib.split; rw [Lib.count_miss h]; rfl
theorem pc_hit {t l : L8} (ht : t ≠ []) {i : Nat} (h : Lib.index l t = i) : pc t l = l.take i :: pc t (l.drop (i + t.length)) := by
  unfold pc Lib.split
  rw [Lib.count_hit ht h, Nat.add_comm]
  have hm : ¬ (Lib.index l t == -1) = true := fun e => by have := beq_iff_eq.1 e; omega
  have e : (Lib.index l t).toNat = i := by omega
  rw [Lib.splitK, if_neg hm, e, Nat.add_zero]
theorem pc_ne (t l : L8) (ht : t ≠ []) : pc t l ≠ [] := by
  rcases Lib.index_spec l t with ⟨h, _⟩ | ⟨i, h, _⟩
  · rw [pc_miss h]; simp
  · rw [pc_hit ht h]; simp
theorem pc_ind {t : L8} (ht : t ≠ []) {P : L8 → Prop} (h0 : ∀ l, Lib.index l t = -1 → P l) (h1 : ∀ l (i : Nat), Lib.index l t = i → l = l.take i ++ t ++ l.drop (i + t.length) → P (l.drop (i + t.length)) → P l) : ∀ (n : Nat) (l : L8), l.length ≤ n → P l
  | 0, l, hl => by
    refine h0 l ?_
    have : l = [] := List.length_eq_zero_iff.1 (by omega)
    subst this
    unfold Lib.index; rw [if_neg (by simpa using ht)]
  | n + 1, l, hl => by
    rcases Lib.index_spec l t with ⟨h, _⟩ | ⟨i, h, h2, h3, _⟩
    · exact h0 l h
    · have hs := Cp.occ_split h3
      refine h1 l i h hs (pc_ind ht h0 h1 n _ ?_)
      have := List.length_pos_iff.2 ht
      have hr : i + t.length ≤ l.length := by
        rcases Lib.occAt_room h3 with h' | h'
        · exact h'
        · exact absurd h' ht
      rw [List.length_drop]; omega
theorem joinTail_cons (t x : L8) (r : List L8) : Lib.joinTail t (x :: r) = t ++ Lib.join (x :: r) t := by
  rw [Lib.join_cons]; simp [Lib.joinTail]
theorem join_two (t x y : L8) (r : List L8) : Lib.join (x :: y :: r) t = x ++ t ++ Lib.join (y :: r) t := by
  rw [Lib.join_cons, joinTail_cons, List.append_assoc]
theorem join_pc {t : L8} (ht : t ≠ []) (l : L8) : Lib.join (pc t l) t = l := by
  refine pc_ind ht (P := fun l => Lib.join (pc t l) t = l) (fun l h => by rw [pc_miss h, Lib.join_one]) (fun l i h hs ih => ?_) l.length l (Nat.le_refl _)
  rw [pc_hit ht h]
  obtain ⟨y, r, hy⟩ := List.exists_cons_of_ne_nil (pc_ne t (l.drop (i + t.length)) ht)
  rw [hy] at ih ⊢
  rw [join_two, ih, ← hs]
theorem pc_len {t : L8} (ht : t ≠ []) (l : L8) : (pc t l).length ≤ l.length + 1 := by
  refine pc_ind ht (P := fun l => (pc t l).length ≤ l.length + 1) (fun l h => by rw [pc_miss h]; simp) (fun l i h hs ih => ?_) l.length l (Nat.le_refl _)
  rw [pc_hit ht h, List.length_cons]
  have := congrArg List.length hs
  have h2 := List.length_pos_iff.2 ht
  simp only [List.length_append] at this
  omega
theorem pc_mem_len {t : L8} (ht : t ≠ []) (l : L8) : ∀ p ∈ pc t l, p.length ≤ l.length := by
  refine pc_ind ht (P := fun l => ∀ p ∈ pc t l, p.length ≤ l.length) (fun l h p hp => by rw [pc_miss h] at hp; simp at hp; rw [hp]; exact Nat.le_refl _) (fun l i h hs ih p hp => ?_) l.length l (Nat.le_refl _)
  rw [pc_hit ht h] at hp
  rcases List.mem_cons.1 hp with e | e
  · rw [e, List.length_take]; omega
  · have := ih p e; rw [List.length_drop] at this; omega
/-- the two bytes behind a line -/
def crlf : L8 := [13, 10]
theorem crlf_ne : crlf ≠ [] := by decide
theorem occ_crlf {l : L8} {j : Nat} (h : Lib.occAt l crlf j = true) : ∃ v, l.drop j = 13 :: 10 :: v := by
  unfold Lib.occAt at h
  obtain ⟨r, hr⟩ := List.isPrefixOf_iff_prefix.1 h
  exact ⟨r, hr.symm⟩
theorem no_occ {u v : L8} (hu : (13 : UInt8) ∉ u) {j : Nat} (hj : j < u.length) : Lib.occAt (u ++ v) crlf j = false := by
  cases h : Lib.occAt (u ++ v) crlf j
  · rfl
  · obtain ⟨r, hr⟩ := occ_crlf h
    exfalso
    rw [List.drop_append_of_le_length (by omega), List.drop_eq_getElem_cons hj] at hr
    have := (List.cons.inj hr).1
    exact hu (this ▸ List.getElem_mem hj)
theorem crlf_index {u v : L8} (hu : (13 : UInt8) ∉ u) : Lib.index (u ++ crlf ++ v) crlf = u.length := by
  refine Lib.index_first (by simp) ?_ (fun j hj => by rw [List.append_assoc]; exact no_occ hu hj)
  unfold Lib.occAt
  rw [List.append_assoc, List.drop_left, List.isPrefixOf_iff_prefix]
  exact List.prefix_append _ _
theorem crlf_hit {u : L8} (v : L8) (hu : (13 : UInt8) ∉ u) : pc crlf (u ++ crlf ++ v) = u :: pc crlf v := by
  rw [pc_hit crlf_ne (crlf_index hu)]
  congr 1
  · rw [List.append_assoc, List.take_left]
  · rw [show u.length + crlf.length = (u ++ crlf).length by simp, List.drop_left]
theorem crlf_no {u : L8} (hu : (13 : UInt8) ∉ u) : pc crlf u = [u] := by
  refine pc_miss ?_
  rcases Lib.index_spec u crlf with ⟨h, _⟩ | ⟨i, h, h2, h3, _⟩
  · exact h
  · exfalso
    by_cases hi : i < u.length
    · have := no_occ (v := []) hu hi; rw [List.append_nil, h3] at this; cases this
    · obtain ⟨r, hr⟩ := occ_crlf h3
      rw [List.drop_eq_nil_iff.2 (by omega)] at hr; cases hr
theorem pc_join : ∀ {L : List L8}, L ≠ [] → (∀ p ∈ L, (13 : UInt8) ∉ p) → pc crlf (Lib.join L crlf) = L
  | [x], _, h => by rw [Lib.join_one, crlf_no (h x (by simp))]
  | x :: y :: r, _, h => by
    rw [join_two, crlf_hit _ (h x (by simp)), pc_join (by simp) (fun p hp => h p (List.mem_cons_of_mem _ hp))]
/-- lines, and what stands behind -/
theorem pc_lines : ∀ (L : List L8) (v : L8), L ≠ [] → (∀ p ∈ L, (13 : UInt8) ∉ p) → pc crlf (Lib.join L crlf ++ crlf ++ v) = L ++ pc crlf v
  | [x], v, _, h => by rw [Lib.join_one, crlf_hit v (h x (by simp))]; rfl
  | x :: y :: r, v, _, h => by
    rw [join_two]
    have := crlf_hit (u := x) (Lib.join (y :: r) crlf ++ crlf ++ v) (h x (by simp))
    simp only [List.append_assoc] at this ⊢
    rw [this]
    have ih := pc_lines (y :: r) v (by simp) (fun p hp => h p (List.mem_cons_of_mem _ hp))
    simp only [List.append_assoc] at ih
    rw [ih]; rfl

/-- fields: names and values -/
abbrev Fl := L8 × L8
def visT (c : UInt8) : Bool := decide (33 ≤ c.toNat) && decide (c.toNat ≤ 126)
def valB (c : UInt8) : Bool := c == 9 || (decide (32 ≤ c.toNat) && !(c == 127))
def methodB (l : L8) : Bool := decide (l.length ≤ 20) && tokenB l
def targetB (l : L8) : Bool := l.all visT && !l.isEmpty
def valueB (l : L8) : Bool := l.all valB && decide (trim l = l)
def fieldE (f : Fl) : Int := if ¬ (tokenB f.1 = true ∧ valueB f.2 = true) then 4 else if 1000 < f.1.length + f.2.length then 5 else 0
def fieldsE : List Fl → Int
  | [] => 0
  | f :: r => if fieldE f = 0 then fieldsE r else fieldE f
/-- what is wrong with a head first -/
def check (m t : L8) (fs : List Fl) : Int :=
  if ¬ (methodB m = true ∧ targetB t = true) then 4 else if 1000 < t.length ∨ 30 < fs.length then 5 else fieldsE fs
theorem fieldE_cases (f : Fl) : fieldE f = 4 ∨ fieldE f = 5 ∨ fieldE f = 0 := by
  unfold fieldE; split
  · exact .inl rfl
  · split
    · exact .inr (.inl rfl)
    · exact .inr (.inr rfl)
theorem fieldsE_cases : ∀ fs : List Fl, fieldsE fs = 4 ∨ fieldsE fs = 5 ∨ fieldsE fs = 0
  | [] => .inr (.inr rfl)
  | f :: r => by
    unfold fieldsE; split
    · exact fieldsE_cases r
    · exact fieldE_cases f
theorem check_cases (m t : L8) (fs : List Fl) : check m t fs = 4 ∨ check m t fs = 5 ∨ check m t fs = 0 := by
  unfold check; split
  · exact .inl rfl
  · split
    · exact .inr (.inl rfl)
    · exact fieldsE_cases fs
theorem fieldE_ok {f : Fl} (h : fieldE f = 0) : tokenB f.1 = true ∧ valueB f.2 = true ∧ f.1.length + f.2.length ≤ 1000 := by
  unfold fieldE at h
  split at h
  · cases h
  · rename_i h1
    split at h
    · cases h
    · exact ⟨(Classical.not_not.1 h1).1, (Classical.not_not.1 h1).2, by omega⟩
theorem fieldsE_ok : ∀ {fs : List Fl}, fieldsE fs = 0 → ∀ f ∈ fs, fieldE f = 0
  | f :: r, h, x, hx => by
    unfold fieldsE at h
    split at h
    · rename_i h1
      rcases List.mem_cons.1 hx with e | e
      · rw [e]; exact h1
      · exact fieldsE_ok h x e
    · rename_i h1; exact absurd h h1
theorem check_ok {m t : L8} {fs : List Fl} (h : check m t fs = 0) : methodB m = true ∧ targetB t = true ∧ t.length ≤ 1000 ∧ fs.length ≤ 30 ∧ ∀ f ∈ fs, fieldE f = 0 := by
  unfold check at h
  split at h
  · cases h
  · rename_i h1
    split at h
    · cases h
    · rename_i h2
      exact ⟨(Classical.not_not.1 h1).1, (Classical.not_not.1 h1).2, by omega, by omega, fieldsE_ok h⟩
def http : L8 := [72, 84, 84, 80, 47, 49, 46, 49]
def line0 (m t : L8) : L8 := m ++ [32] ++ t ++ [32] ++ http
def lineOf (f : Fl) : L8 := f.1 ++ [58] ++ [32] ++ f.2
def lines (m t : L8) (fs : List Fl) : List L8 := line0 m t :: fs.map lineOf
/-- a head's text -/
def text (m t : L8) (fs : List Fl) : L8 := Lib.join (lines m t fs) crlf ++ (crlf ++ crlf)
def broken (l : L8) : Bool := l.any fun c => c == 13 || c == 10
def fieldOf (l : L8) : Option Fl := if (Lib.cut l [58]).2.2 = true then some ((Lib.cut l [58]).1, trim (Lib.cut l [58]).2.1) else none
def firstOf (l : L8) : Option Fl := if (Cs.cut 32 l).length = 3 ∧ (Cs.cut 32 l)[2]?.getD [] = http then some ((Cs.cut 32 l)[0]?.getD [], (Cs.cut 32 l)[1]?.getD []) else none
def fieldsOf : List Fl → List L8 → Option (List Fl)
  | acc, [] => some acc
  | acc, l :: r => match fieldOf l with
    | none => none
    | some f => fieldsOf (acc ++ [f]) r
def readL (L : List L8) : Option (L8 × L8 × List Fl) :=
  if L.any broken = true then none else match firstOf (L.head?.getD []) with
    | none => none
    | some p => match fieldsOf [] L.tail with
      | none => none
      | some fs => some (p.1, p.2, fs)
def readH (s : L8) : Option (L8 × L8 × List Fl) := if Lib.hasSuffix s (crlf ++ crlf) = true then readL (pc crlf (s.take (s.length - 4))) else none
/-- the head of a text, and what went wrong -/
def parse (s : L8) : L8 × L8 × List Fl × Int :=
  if 4096 < s.length then ([], [], [], 5) else match readH s with
    | none => ([], [], [], 4)
    | some h => if check h.1 h.2.1 h.2.2 = 0 then (h.1, h.2.1, h.2.2, 0) else ([], [], [], check h.1 h.2.1 h.2.2)
theorem tok_not (c : UInt8) (h : tok8 c = true) : c ≠ 13 ∧ c ≠ 10 ∧ c ≠ 32 ∧ c ≠ 58 := by
  have := u8_all (p := fun c => !tok8 c || (c != 13 && c != 10 && c != 32 && c != 58)) (by decide +kernel) c
  rw [h] at this
  simpa [and_assoc] using this
theorem vis_not (c : UInt8) (h : visT c = true) : c ≠ 13 ∧ c ≠ 10 ∧ c ≠ 32 := by
  have := u8_all (p := fun c => !visT c || (c != 13 && c != 10 && c != 32)) (by decide +kernel) c
  rw [h] at this
  simpa [and_assoc] using this
theorem val_not (c : UInt8) (h : valB c = true) : c ≠ 13 ∧ c ≠ 10 := by
  have := u8_all (p := fun c => !valB c || (c != 13 && c != 10)) (by decide +kernel) c
  rw [h] at this
  simpa using this
theorem token_mem {l : L8} (h : tokenB l = true) : ∀ c ∈ l, tok8 c = true := by
  unfold tokenB at h
  rw [Bool.and_eq_true] at h
  exact List.all_eq_true.1 h.2
theorem method_mem {l : L8} (h : methodB l = true) : l.length ≤ 20 ∧ tokenB l = true ∧ ∀ c ∈ l, tok8 c = true := by
  unfold methodB at h
  rw [Bool.and_eq_true] at h
  exact ⟨of_decide_eq_true h.1, h.2, token_mem h.2⟩
theorem target_mem {l : L8} (h : targetB l = true) : l ≠ [] ∧ ∀ c ∈ l, visT c = true := by
  unfold targetB at h
  rw [Bool.and_eq_true] at h
  exact ⟨by intro e; rw [e] at h; simp at h, List.all_eq_true.1 h.1⟩
theorem value_mem {l : L8} (h : valueB l = true) : trim l = l ∧ ∀ c ∈ l, valB c = true := by
  unfold valueB at h
  rw [Bool.and_eq_true] at h
  exact ⟨of_decide_eq_true h.2, List.all_eq_true.1 h.1⟩
theorem token_ne {l : L8} (h : tokenB l = true) : l ≠ [] := by
  intro e; subst e; cases h
theorem broken_no {l : L8} (h : ∀ c ∈ l, c ≠ 13 ∧ c ≠ 10) : broken l = false := by
  unfold broken
  rw [List.any_eq_false]
  intro c hc
  have := h c hc
  simp [this.1, this.2]
theorem broken_mem {l : L8} (h : broken l = false) : (13 : UInt8) ∉ l := by
  intro hm
  unfold broken at h
  have := List.any_eq_false.1 h 13 hm
  simp at this
theorem http_not : ∀ c ∈ http, c ≠ 13 ∧ c ≠ 10 ∧ c ≠ 32 := by decide
theorem line0_plain {m t : L8} (hm : methodB m = true) (ht : targetB t = true) : ∀ c ∈ line0 m t, c ≠ 13 ∧ c ≠ 10 := by
  intro c hc
  unfold line0 at hc
  simp only [List.mem_append, List.mem_singleton] at hc
  rcases hc with (((h | h) | h) | h) | h
  · have := tok_not c ((method_mem hm).2.2 c h); exact ⟨this.1, this.2.1⟩
  · subst h; decide
  · have := vis_not c ((target_mem ht).2 c h); exact ⟨this.1, this.2.1⟩
  · subst h; decide
  · have := http_not c h; exact ⟨this.1, this.2.1⟩
theorem lineOf_plain {f : Fl} (hf : fieldE f = 0) : ∀ c ∈ lineOf f, c ≠ 13 ∧ c ≠ 10 := by
  obtain ⟨h1, h2, _⟩ := fieldE_ok hf
  intro c hc
  unfold lineOf at hc
  simp only [List.mem_append, List.mem_singleton] at hc
  rcases hc with ((h | h) | h) | h
  · have := tok_not c (token_mem h1 c h); exact ⟨this.1, this.2.1⟩
  · subst h; decide
  · subst h; decide
  · exact val_not c ((value_mem h2).2 c h)
theorem trim_blank {v : L8} (h : trim v = v) : trim (32 :: v) = v := by
  rw [trim_eq'] at h ⊢
  unfold tl at h ⊢
  rw [List.dropWhile_cons, if_pos bl_32]; exact h
theorem cut_colon {u v : L8} (hu : (58 : UInt8) ∉ u) : Lib.cut (u ++ 58 :: v) [58] = (u, v, true) := by
  have hi : Lib.index (u ++ 58 :: v) [58] = u.length := by
    refine Lib.index_first (by simp) ?_ ?_
    · unfold Lib.occAt; rw [List.drop_left, List.isPrefixOf_iff_prefix]; exact ⟨v, rfl⟩
    · intro j hj
      cases h : Lib.occAt (u ++ 58 :: v) [58] j
      · rfl
      · exfalso
        unfold Lib.occAt at h
        obtain ⟨r, hr⟩ := List.isPrefixOf_iff_prefix.1 h
        rw [List.drop_append_of_le_length (by omega), List.drop_eq_getElem_cons hj] at hr
        have := (List.cons.inj hr).1
        exact hu (this ▸ List.getElem_mem hj)
  unfold Lib.cut
  rw [hi, if_pos (by omega)]
  simp
theorem fieldOf_line {f : Fl} (hf : fieldE f = 0) : fieldOf (lineOf f) = some f := by
  obtain ⟨h1, h2, _⟩ := fieldE_ok hf
  have e : lineOf f = f.1 ++ 58 :: (32 :: f.2) := by simp [lineOf]
  unfold fieldOf
  rw [e, cut_colon (fun h => (tok_not 58 (token_mem h1 58 h)).2.2.2 rfl)]
  rw [if_pos rfl, trim_blank (value_mem h2).1]
theorem firstOf_line {m t : L8} (hm : methodB m = true) (ht : targetB t = true) : firstOf (line0 m t) = some (m, t) := by
  have e : line0 m t = m ++ 32 :: (t ++ 32 :: http) := by simp [line0]
  have hc : Cs.cut 32 (line0 m t) = [m, t, http] := by
    rw [e, Cs.cut_hit _ (fun h => (tok_not 32 ((method_mem hm).2.2 32 h)).2.2.1 rfl), Cs.cut_hit _ (fun h => (vis_not 32 ((target_mem ht).2 32 h)).2.2 rfl), Cs.cut_no (by decide)]
  unfold firstOf
  rw [hc, if_pos ⟨rfl, rfl⟩]; rfl
theorem fieldsOf_lines : ∀ (fs acc : List Fl), (∀ f ∈ fs, fieldE f = 0) → fieldsOf acc (fs.map lineOf) = some (acc ++ fs)
  | [], acc, _ => by simp [fieldsOf]
  | f :: r, acc, h => by
    rw [List.map_cons, fieldsOf, fieldOf_line (h f (by simp))]
    dsimp only
    rw [fieldsOf_lines r _ (fun x hx => h x (List.mem_cons_of_mem _ hx))]
    simp
theorem lines_plain {m t : L8} {fs : List Fl} (h : check m t fs = 0) : ∀ p ∈ lines m t fs, broken p = false := by
  obtain ⟨h1, h2, _, _, h5⟩ := check_ok h
  intro p hp
  unfold lines at hp
  rcases List.mem_cons.1 hp with e | e
  · rw [e]; exact broken_no (line0_plain h1 h2)
  · obtain ⟨f, hf, rfl⟩ := List.mem_map.1 e
    exact broken_no (lineOf_plain (h5 f hf))
theorem read_text {m t : L8} {fs : List Fl} (h : check m t fs = 0) : readH (text m t fs) = some (m, t, fs) := by
  obtain ⟨h1, h2, _, _, h5⟩ := check_ok h
  have hp := lines_plain h
  have hs : Lib.hasSuffix (text m t fs) (crlf ++ crlf) = true := by
    unfold Lib.hasSuffix text
    rw [List.isSuffixOf_iff_suffix]
    exact List.suffix_append _ _
  have ht : (text m t fs).take ((text m t fs).length - 4) = Lib.join (lines m t fs) crlf := by
    unfold text
    rw [List.length_append, show (crlf ++ crlf).length = 4 from rfl, Nat.add_sub_cancel, List.take_left]
  unfold readH
  rw [if_pos hs, ht, pc_join (by simp [lines]) (fun p hm => broken_mem (hp p hm))]
  unfold readL
  rw [if_neg (by rw [Bool.not_eq_true, List.any_eq_false]; exact fun p hm => by rw [hp p hm]; simp)]
  unfold lines
  rw [List.head?_cons, Option.getD_some, firstOf_line h1 h2, List.tail_cons, fieldsOf_lines fs [] h5]
  rfl
/-- what is printed is read as it was -/
theorem parse_text {m t : L8} {fs : List Fl} (h : check m t fs = 0) : parse (text m t fs) = if 4096 < (text m t fs).length then ([], [], [], 5) else (m, t, fs, 0) := by
  unfold parse
  split
  · rfl
  · rw [read_text h]
    dsimp only
    rw [if_pos h]
theorem parse_ok {s m t : L8} {fs : List Fl} (h : parse s = (m, t, fs, 0)) : s.length ≤ 4096 ∧ readH s = some (m, t, fs) ∧ check m t fs = 0 := by
  unfold parse at h
  split at h
  · cases h
  · rename_i hl
    split at h
    · cases h
    · rename_i x hx
      split at h
      · rename_i hc
        cases h
        exact ⟨by omega, hx, hc⟩
      · rename_i hc
        injection h with e1 e2; injection e2 with e2 e3; injection e3 with e3 e4
        exact absurd e4 hc
theorem parse_cases (s : L8) : (∃ e, parse s = ([], [], [], e) ∧ (e = 4 ∨ e = 5)) ∨ ∃ m t fs, parse s = (m, t, fs, 0) := by
  unfold parse
  split
  · exact .inl ⟨_, rfl, .inr rfl⟩
  · split
    · exact .inl ⟨_, rfl, .inl rfl⟩
    · rename_i x hx
      split
      · exact .inr ⟨_, _, _, rfl⟩
      · rename_i hc
        rcases check_cases x.1 x.2.1 x.2.2 with h | h | h
        · exact .inl ⟨_, rfl, .inl h⟩
        · exact .inl ⟨_, rfl, .inr h⟩
        · exact absurd h hc
theorem fieldsOf_full : ∀ (L : List L8) (acc : List Fl), fieldsOf acc L ≠ none → ∀ p ∈ L, p ≠ []
  | l :: r, acc, h, p, hp => by
    unfold fieldsOf at h
    cases hf : fieldOf l with
    | none => rw [hf] at h; exact absurd rfl h
    | some f =>
      rw [hf] at h
      rcases List.mem_cons.1 hp with e | e
      · rw [e]; intro e2; rw [e2] at hf; cases hf
      · exact fieldsOf_full r _ h p e
theorem firstOf_full {l : L8} (h : firstOf l ≠ none) : l ≠ [] := by
  intro e; rw [e] at h; exact h (by unfold firstOf; rw [if_neg (by decide)])
/-- the lines of what is read -/
theorem read_lines {s m t : L8} {fs : List Fl} (h : readH s = some (m, t, fs)) : ∃ L, s = Lib.join L crlf ++ crlf ++ crlf ∧ L ≠ [] ∧ (∀ p ∈ L, (13 : UInt8) ∉ p) ∧ ∀ p ∈ L, p ≠ [] := by
  unfold readH at h
  split at h
  · rename_i hs
    refine ⟨pc crlf (s.take (s.length - 4)), ?_, pc_ne _ _ crlf_ne, ?_, ?_⟩
    · rw [join_pc crlf_ne]
      unfold Lib.hasSuffix at hs
      obtain ⟨u, hu⟩ := List.isSuffixOf_iff_suffix.1 hs
      rw [← hu, List.length_append, show (crlf ++ crlf).length = 4 from rfl, Nat.add_sub_cancel, List.take_left, List.append_assoc]
    · unfold readL at h
      split at h
      · cases h
      · rename_i hb
        intro p hp
        refine broken_mem ?_
        have := List.any_eq_false.1 (by simpa using hb) p hp
        simpa using this
    · obtain ⟨x, r, hx⟩ := List.exists_cons_of_ne_nil (pc_ne crlf (s.take (s.length - 4)) crlf_ne)
      unfold readL at h
      split at h
      · cases h
      · rw [hx] at h ⊢
        cases h1 : firstOf ((x :: r).head?.getD []) with
        | none => rw [h1] at h; cases h
        | some q =>
          rw [h1] at h
          dsimp only at h
          cases h2 : fieldsOf [] (x :: r).tail with
          | none => rw [h2] at h; cases h
          | some fs' =>
            intro p hp
            rcases List.mem_cons.1 hp with e | e
            · rw [e]; exact firstOf_full (by rw [show x = (x :: r).head?.getD [] from rfl, h1]; simp)
            · exact fieldsOf_full r [] (by rw [show r = (x :: r).tail from rfl, h2]; simp) p e
  · cases h
theorem first_empty : ∀ (A B : List L8) (x y : List L8), (∀ p ∈ A, p ≠ []) → (∀ p ∈ B, p ≠ []) → A ++ [] :: x = B ++ [] :: y → A = B ∧ x = y
  | [], [], x, y, _, _, h => ⟨rfl, by simpa using h⟩
  | a :: A, [], x, y, ha, _, h => by
    exfalso; exact ha a (by simp) (List.cons.inj h).1
  | [], b :: B, x, y, _, hb, h => by
    exfalso; exact hb b (by simp) (List.cons.inj h).1.symm
  | a :: A, b :: B, x, y, ha, hb, h => by
    obtain ⟨h1, h2⟩ := List.cons.inj h
    obtain ⟨h3, h4⟩ := first_empty A B x y (fun p hp => ha p (List.mem_cons_of_mem _ hp)) (fun p hp => hb p (List.mem_cons_of_mem _ hp)) h2
    exact ⟨by rw [h1, h3], h4⟩
theorem crlf_first (v : L8) : pc crlf (crlf ++ v) = [] :: pc crlf v := crlf_hit (u := []) v (by simp)
theorem pc_nil : pc crlf [] = [[]] := crlf_no (by simp)
/-- no head is the beginning of another one -/
theorem once {s more m t m' t' : L8} {fs fs' : List Fl} (h : readH s = some (m, t, fs)) (h' : readH (s ++ more) = some (m', t', fs')) : more = [] := by
  obtain ⟨A, hA, nA, pA, eA⟩ := read_lines h
  obtain ⟨B, hB, nB, pB, eB⟩ := read_lines h'
  have e1 : pc crlf (s ++ more) = A ++ [] :: pc crlf more := by
    rw [hA, List.append_assoc, pc_lines A (crlf ++ more) nA pA, crlf_first]
  have e2 : pc crlf (s ++ more) = B ++ [] :: [[]] := by
    rw [hB, pc_lines B crlf nB pB]
    have := crlf_first []
    rw [List.append_nil, pc_nil] at this
    rw [this]
  have := (first_empty A B _ _ eA eB (e1.symm.trans e2)).2
  have h3 := join_pc crlf_ne more
  rw [this, Lib.join_one] at h3
  exact h3.symm
end Mh
end Go.Proofs.YtmgealcolofomaaDoor
