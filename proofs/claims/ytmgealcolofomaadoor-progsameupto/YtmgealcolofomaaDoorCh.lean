/- Plain facts on signs of HTML: no program is read here. -/
import Derived.WalkKit
import Derived.Test.YtmgealcolofomaaDoorCd
import Derived.Test.YtmgealcolofomaaDoorNum
namespace Go.Proofs.YtmgealcolofomaaDoor
namespace Ch

/-- a number as a byte, if it is one -/
def nb (a : Int × Int) : Option UInt8 := if a.2 = 0 ∧ a.1 < 256 then some (UInt8.ofNat a.1.toNat) else none
/-- the byte that a name stands for -/
def nmd (n : List UInt8) : Option UInt8 :=
  if n = [108, 116] then some 60 else if n = [103, 116] then some 62 else if n = [97, 109, 112] then some 38 else if n = [113, 117, 111, 116] then some 34
  else match n with
    | 35 :: 120 :: ds => nb (Num.ans 16 7 ds)
    | 35 :: ds => nb (Num.ans 10 9 ds)
    | _ => none
/-- the name ahead of the first ; -/
def pre (l : List UInt8) : Option (List UInt8) := if 59 ∈ l then some (l.takeWhile (· != 59)) else none
/-- the sign with which a text begins -/
def hs : List UInt8 → UInt8 × Nat
  | [] => (0, 1)
  | a :: r => if a = 38 then (match pre (r.take 5) with
      | some n => match nmd n with
        | some c => (c, n.length + 2)
        | none => (38, 1)
      | none => (38, 1)) else (a, 1)
def htmlDec (l : List UInt8) : List UInt8 := Cd.scan hs l

/-- the document's road -/
def at0 (l t : List UInt8) : Bool := l.take t.length == t
def nmS : Nat → List UInt8
  | 0 => [38, 108, 116, 59]
  | 1 => [38, 103, 116, 59]
  | 2 => [38, 97, 109, 112, 59]
  | _ => [38, 113, 117, 111, 116, 59]
def sgn : Nat → UInt8
  | 0 => 60
  | 1 => 62
  | 2 => 38
  | _ => 34
def rA (l : List UInt8) : Nat → UInt8 × Nat
  | 0 => (l.headD 0, 1)
  | j + 1 => if at0 l (nmS j) = true then (sgn j, (nmS j).length) else rA l j
def rN (base : Int) (most : Nat) (front l : List UInt8) (x : UInt8 × Nat) : Nat → UInt8 × Nat
  | 0 => x
  | k + 1 => if at0 l front = true ∧ at0 (l.drop (front.length + (k + 1))) [59] = true then
      (match nb (Num.ans base most ((l.drop front.length).take (k + 1))) with
        | some c => (c, front.length + (k + 1) + 1)
        | none => rN base most front l x k)
      else rN base most front l x k
def rs (l : List UInt8) : UInt8 × Nat := rN 16 2 [38, 35, 120] l (rN 10 3 [38, 35] l (rA l 4) 3) 2

theorem num_bad (base : Int) : ∀ (l : List UInt8) (o : Option Int) (c : UInt8), c ∈ l → Num.dig c.toNat < 0 → l.foldl (Num.step base) o = none := by
  intro l
  induction l with
  | nil => intro o c h; cases h
  | cons a r ih =>
    intro o c h hd
    rw [List.foldl_cons]
    rcases List.mem_cons.1 h with rfl | h
    · have : Num.step base o c = none := by unfold Num.step; cases o <;> simp [hd]
      rw [this, Num.step_none]
    · exact ih _ c h hd
theorem nb_bad (base : Int) (most : Nat) (l : List UInt8) (c : UInt8) (h : c ∈ l) (hd : Num.dig c.toNat < 0) : nb (Num.ans base most l) = none := by
  have : Num.num base l = none := num_bad base l _ c h hd
  unfold Num.ans nb
  rw [this]
  split <;> simp
theorem nb_most (base : Int) (m m' : Nat) (l : List UInt8) (h : l.length ≤ m) (h' : l.length ≤ m') : Num.ans base m l = Num.ans base m' l := by
  unfold Num.ans
  by_cases h0 : l.length < 1
  · rw [if_pos (by omega), if_pos (by omega)]
  · rw [if_neg (by omega), if_neg (by omega)]
theorem nb_nil (base : Int) (m : Nat) : nb (Num.ans base m []) = none := by simp [Num.ans, nb]

theorem at0_mem {l t : List UInt8} (h : at0 l t = true) {c : UInt8} (hc : c ∈ t) : c ∈ l := by
  simp only [at0, beq_iff_eq] at h
  rw [← h] at hc
  exact List.mem_of_mem_take hc
theorem at0_app (f l : List UInt8) : at0 (f ++ l) f = true := by simp [at0]
theorem at0_split {l f : List UInt8} (h : at0 l f = true) : ∃ r, l = f ++ r := by
  simp only [at0, beq_iff_eq] at h
  exact ⟨l.drop f.length, by have := List.take_append_drop f.length l; rw [h] at this; exact this.symm⟩
theorem at0_semi : ∀ (n t r : List UInt8), 59 ∉ n → 59 ∉ t → (at0 (n ++ 59 :: r) (t ++ [59]) = true ↔ n = t) := by
  intro n
  induction n with
  | nil =>
    intro t r _ ht
    cases t with
    | nil => simp [at0]
    | cons b t => simp [at0]; intro e; simp [e] at ht
  | cons a n ih =>
    intro t r hn ht
    cases t with
    | nil => simp [at0]; intro e; simp [e] at hn
    | cons b t =>
      have := ih t r (fun h => hn (List.mem_cons_of_mem _ h)) (fun h => ht (List.mem_cons_of_mem _ h))
      simp [at0] at this ⊢
      intro _; exact this

theorem rN_no {base : Int} {most : Nat} {front l : List UInt8} {x : UInt8 × Nat} (k : Nat) (h : at0 l front = false) : rN base most front l x k = x := by
  induction k with
  | zero => rfl
  | succ k ih => rw [rN, if_neg (by simp [h]), ih]
theorem rN_none {base : Int} {most : Nat} {front l : List UInt8} {x : UInt8 × Nat} (k : Nat) (h : 59 ∉ l) : rN base most front l x k = x := by
  induction k with
  | zero => rfl
  | succ k ih =>
    rw [rN, if_neg, ih]
    rintro ⟨_, h2⟩
    exact h (List.mem_of_mem_drop (at0_mem h2 (by simp)))
theorem rN_at {base : Int} {most : Nat} {front ds r : List UInt8} {x : UInt8 × Nat} (k : Nat) (h : 59 ∉ ds) :
    rN base most front (front ++ (ds ++ 59 :: r)) x k = if ds.length ≤ k then (match nb (Num.ans base most ds) with | some c => (c, front.length + ds.length + 1) | none => x) else x := by
  induction k with
  | zero =>
    rw [rN]
    split
    · have : ds = [] := List.length_eq_zero_iff.1 (by omega)
      subst this; rw [nb_nil]
    · rfl
  | succ k ih =>
    rw [rN, ih, List.drop_append, List.drop_of_length_le (by omega), List.nil_append, show front.length + (k + 1) - front.length = k + 1 from by omega, List.drop_left]
    by_cases e : ds.length = k + 1
    · rw [if_pos ⟨at0_app _ _, by rw [← e, List.drop_left]; rfl⟩, ← e, List.take_left, if_pos (Nat.le_refl _), if_neg (by omega)]
    · by_cases hlt : ds.length ≤ k
      · rw [if_pos hlt, if_pos (show ds.length ≤ k + 1 by omega)]
        split
        · rw [nb_bad base most _ 59 (by
            rw [List.take_append, List.mem_append]; right
            obtain ⟨j, hj⟩ : ∃ j, k + 1 - ds.length = j + 1 := ⟨k - ds.length, by omega⟩
            rw [hj]; simp) (by decide)]
        · rfl
      · rw [if_neg hlt, if_neg (show ¬ ds.length ≤ k + 1 by omega)]
        have : ¬ at0 ((ds ++ 59 :: r).drop (k + 1)) [59] = true := by
          intro h2
          rw [List.drop_append_of_le_length (by omega)] at h2
          have hne : ds.drop (k + 1) ≠ [] := by rw [Ne, List.drop_eq_nil_iff]; omega
          obtain ⟨y, ys, hy⟩ := List.exists_cons_of_ne_nil hne
          rw [hy] at h2
          simp [at0] at h2
          exact h (List.mem_of_mem_drop (i := k + 1) (by rw [hy, h2]; simp))
        rw [if_neg (fun h2 => this h2.2)]

theorem split_semi (l : List UInt8) (h : 59 ∈ l) : ∃ n r, l = n ++ 59 :: r ∧ 59 ∉ n := by
  induction l with
  | nil => cases h
  | cons a t ih =>
    by_cases e : a = 59
    · subst e; exact ⟨[], t, rfl, by simp⟩
    · obtain ⟨n, r, h1, h2⟩ := ih (by rcases List.mem_cons.1 h with h | h; exact absurd h.symm e; exact h)
      exact ⟨a :: n, r, by rw [h1]; rfl, by simp [h2]; exact fun h => e h.symm⟩
theorem pre_at (n r : List UInt8) (h : 59 ∉ n) : pre ((n ++ 59 :: r).take 5) = if n.length ≤ 4 then some n else none := by
  by_cases hl : n.length ≤ 4
  · rw [if_pos hl]
    obtain ⟨j, hj⟩ : ∃ j, 5 - n.length = j + 1 := ⟨4 - n.length, by omega⟩
    have e : (n ++ 59 :: r).take 5 = n ++ 59 :: r.take j := by
      rw [List.take_append, hj, List.take_of_length_le (by omega)]; rfl
    rw [e]
    unfold pre
    rw [if_pos (by simp), List.takeWhile_append_of_pos (by intro a ha; simp; intro e; subst e; exact h ha)]
    simp
  · rw [if_neg hl, List.take_append_of_le_length (by omega)]
    unfold pre
    rw [if_neg (fun h2 => h (List.mem_of_mem_take h2))]

theorem rA_no (l : List UInt8) (h : ∀ j, j < 4 → at0 l (nmS j) = false) : rA l 4 = (l.headD 0, 1) := by
  simp [rA, h 0, h 1, h 2, h 3]

theorem rs_hs (l : List UInt8) (hl : l ≠ []) : rs l = hs l := by
  match l, hl with
  | a :: r, _ =>
    by_cases ha : a = 38
    · subst ha
      by_cases hm : 59 ∈ r
      · obtain ⟨n, t, rfl, hn⟩ := split_semi r hm
        have hA : ∀ j u, nmS j = 38 :: (u ++ [59]) → 59 ∉ u → (at0 (38 :: (n ++ 59 :: t)) (nmS j) = true ↔ n = u) := by
          intro j u hu h
          rw [hu]
          have := at0_semi (38 :: n) (38 :: u) t (by simp [hn]) (by simp [h])
          simpa using this
        have a0 := hA 0 [108, 116] rfl (by decide)
        have a1 := hA 1 [103, 116] rfl (by decide)
        have a2 := hA 2 [97, 109, 112] rfl (by decide)
        have a3 := hA 3 [113, 117, 111, 116] rfl (by decide)
        have hh : hs (38 :: (n ++ 59 :: t)) = if n.length ≤ 4 then (match nmd n with | some c => (c, n.length + 2) | none => (38, 1)) else (38, 1) := by
          rw [hs, if_pos rfl, pre_at n t hn]
          by_cases hl : n.length ≤ 4
          · rw [if_pos hl, if_pos hl]
          · rw [if_neg hl, if_neg hl]
        rw [hh]
        by_cases hx : ∃ ds, n = 35 :: 120 :: ds
        · obtain ⟨ds, rfl⟩ := hx
          have hds : 59 ∉ ds := fun h => hn (List.mem_cons_of_mem _ (List.mem_cons_of_mem _ h))
          have e0 : rA (38 :: (35 :: 120 :: ds ++ 59 :: t)) 4 = (38, 1) := by
            rw [rA_no]; rfl
            intro j hj
            match j, hj with
            | 0, _ => exact Bool.eq_false_iff.2 (fun h => absurd (a0.1 h) (by simp))
            | 1, _ => exact Bool.eq_false_iff.2 (fun h => absurd (a1.1 h) (by simp))
            | 2, _ => exact Bool.eq_false_iff.2 (fun h => absurd (a2.1 h) (by simp))
            | 3, _ => exact Bool.eq_false_iff.2 (fun h => absurd (a3.1 h) (by simp))
          have e1 := @rN_at 10 3 [38, 35] (120 :: ds) t (38, 1) 3 (fun h => hn (List.mem_cons_of_mem _ h))
          rw [nb_bad 10 3 (120 :: ds) 120 (by simp) (by decide)] at e1
          have e2 := @rN_at 16 2 [38, 35, 120] ds t (38, 1) 2 hds
          have hn2 : nmd (35 :: 120 :: ds) = nb (Num.ans 16 7 ds) := by simp [nmd]
          unfold rs
          rw [e0]
          simp only [List.cons_append, List.nil_append] at e1 e2 ⊢
          rw [e1, ite_self, e2, hn2]
          by_cases h2 : ds.length ≤ 2
          · rw [if_pos h2, if_pos (by simp; omega), nb_most 16 2 7 ds h2 (by omega)]
            cases nb (Num.ans 16 7 ds) with
            | none => rfl
            | some c => simp; omega
          · rw [if_neg h2, if_neg (by simp; omega)]
        · by_cases hd : ∃ ds, n = 35 :: ds
          · obtain ⟨ds, rfl⟩ := hd
            have hds : 59 ∉ ds := fun h => hn (List.mem_cons_of_mem _ h)
            have e0 : rA (38 :: (35 :: ds ++ 59 :: t)) 4 = (38, 1) := by
              rw [rA_no]; rfl
              intro j hj
              match j, hj with
              | 0, _ => exact Bool.eq_false_iff.2 (fun h => absurd (a0.1 h) (by simp))
              | 1, _ => exact Bool.eq_false_iff.2 (fun h => absurd (a1.1 h) (by simp))
              | 2, _ => exact Bool.eq_false_iff.2 (fun h => absurd (a2.1 h) (by simp))
              | 3, _ => exact Bool.eq_false_iff.2 (fun h => absurd (a3.1 h) (by simp))
            have e1 := @rN_at 10 3 [38, 35] ds t (38, 1) 3 hds
            have hfx : at0 (38 :: (35 :: ds ++ 59 :: t)) [38, 35, 120] = false := by
              cases ds with
              | nil => rfl
              | cons b ds => simp [at0]; intro e; subst e; exact hx ⟨ds, rfl⟩
            have hn2 : nmd (35 :: ds) = nb (Num.ans 10 9 ds) := by
              cases ds with
              | nil => simp [nmd]
              | cons b ds =>
                have hb : b ≠ 120 := by intro e; subst e; exact hx ⟨ds, rfl⟩
                simp [nmd]
                split
                · rename_i h; cases h; exact absurd rfl hb
                · rename_i h; cases h; rfl
                · rename_i h1 h2; exact absurd rfl (h2 _)
            unfold rs
            rw [e0, rN_no 2 hfx]
            simp only [List.cons_append, List.nil_append] at e1 ⊢
            rw [e1, hn2]
            by_cases h2 : ds.length ≤ 3
            · rw [if_pos h2, if_pos (by simp; omega), nb_most 10 3 9 ds h2 (by omega)]
              cases nb (Num.ans 10 9 ds) with
              | none => rfl
              | some c => simp; omega
            · rw [if_neg h2, if_neg (by simp; omega)]
          · have hfx : at0 (38 :: (n ++ 59 :: t)) [38, 35, 120] = false := by
              cases n with
              | nil => rfl
              | cons b n => simp [at0]; intro e; subst e; exact absurd ⟨n, rfl⟩ hd
            have hfd : at0 (38 :: (n ++ 59 :: t)) [38, 35] = false := by
              cases n with
              | nil => rfl
              | cons b n => simp [at0]; intro e; subst e; exact absurd ⟨n, rfl⟩ hd
            have hn2 : nmd n = if n = [108, 116] then some 60 else if n = [103, 116] then some 62 else if n = [97, 109, 112] then some 38 else if n = [113, 117, 111, 116] then some 34 else none := by
              unfold nmd
              repeat' split
              all_goals first | rfl | (exfalso; exact hx ⟨_, rfl⟩) | (exfalso; exact hd ⟨_, rfl⟩) | simp_all
            unfold rs
            rw [rN_no 2 hfx, rN_no 3 hfd, hn2]
            simp only [rA, a0, a1, a2, a3]
            by_cases k0 : n = [108, 116]
            · subst k0; rfl
            by_cases k1 : n = [103, 116]
            · subst k1; rfl
            by_cases k2 : n = [97, 109, 112]
            · subst k2; rfl
            by_cases k3 : n = [113, 117, 111, 116]
            · subst k3; rfl
            · simp [k0, k1, k2, k3]
      · have hm' : 59 ∉ (38 : UInt8) :: r := by simp [hm]
        have e0 : rA (38 :: r) 4 = (38, 1) := by
          rw [rA_no]; rfl
          intro j hj
          rcases h : at0 (38 :: r) (nmS j) with _ | _
          · rfl
          · refine absurd (at0_mem h (c := 59) ?_) hm'
            match j, hj with
            | 0, _ => decide
            | 1, _ => decide
            | 2, _ => decide
            | 3, _ => decide
        unfold rs
        rw [rN_none 2 hm', rN_none 3 hm', e0, hs, if_pos rfl]
        have : pre (r.take 5) = none := by unfold pre; rw [if_neg (fun h => hm (List.mem_of_mem_take h))]
        rw [this]
    · have f1 : at0 (a :: r) [38, 35, 120] = false := by simp [at0, ha]
      have f2 : at0 (a :: r) [38, 35] = false := by simp [at0, ha]
      have e0 : rA (a :: r) 4 = (a, 1) := by
        rw [rA_no]; rfl
        intro j hj
        match j, hj with
        | 0, _ => simp [at0, nmS, ha]
        | 1, _ => simp [at0, nmS, ha]
        | 2, _ => simp [at0, nmS, ha]
        | 3, _ => simp [at0, nmS, ha]
      unfold rs
      rw [rN_no 2 f1, rN_no 3 f2, e0, hs, if_neg ha]
theorem hs_pos (l : List UInt8) : 1 ≤ (hs l).2 := by
  unfold hs; repeat' split
  all_goals simp
theorem html_head (t : List UInt8) : htmlDec (97 :: t) = 97 :: htmlDec t := by
  unfold htmlDec
  rw [Cd.scan_step (l := 97 :: t) (c := 97) (k := 1) (by simp) (by simp [hs]) (by omega)]; rfl
end Ch
end Go.Proofs.YtmgealcolofomaaDoor
