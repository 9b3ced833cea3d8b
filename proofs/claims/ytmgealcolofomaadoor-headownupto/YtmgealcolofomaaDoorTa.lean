/- Plain facts on chunks: no program is read here. -/
import Derived.Test.YtmgealcolofomaaDoorNum
namespace Go.Proofs.YtmgealcolofomaaDoor
namespace Cu
abbrev L8 := List UInt8
def crlf : L8 := [13, 10]
def last : L8 := [48, 13, 10, 13, 10]
/-- is it a digit of base 16? -/
def isX (c : UInt8) : Bool := decide (0 ≤ Num.dig c.toNat)
/-- how many digits stand at the front: 7 at most -/
def digs (l : L8) : Nat := ((l.take 7).takeWhile isX).length
def val (l : L8) : Int := (Num.num 16 (l.take (digs l))).getD 0
/-- the end of a line at the front: there, not all of it, or another one -/
def nl : L8 → Int
  | [] => 7
  | [c] => if c = 13 then 7 else 4
  | c :: d :: _ => if c = 13 ∧ d = 10 then 0 else 4
/-- the chunk at the front: its bytes, and how many it took -/
def chunk (room : Int) (l : L8) : Except Int (L8 × Nat) :=
  if digs l = 0 ∧ l ≠ [] then .error 4
  else if nl (l.drop (digs l)) ≠ 0 then .error (nl (l.drop (digs l)))
  else if room < val l then .error 6
  else if ((l.drop (digs l + 2)).length : Int) < val l then .error 7
  else if nl ((l.drop (digs l + 2)).drop (val l).toNat) ≠ 0 then .error (nl ((l.drop (digs l + 2)).drop (val l).toNat))
  else .ok ((l.drop (digs l + 2)).take (val l).toNat, digs l + 2 + (val l).toNat + 2)
def go (most : Int) : Nat → L8 → L8 → Nat → Except Int (L8 × Nat)
  | 0, _, _, _ => .error 7
  | f + 1, l, out, at_ => match chunk (most - out.length) l with
    | .error e => .error e
    | .ok (p, u) => if p = [] then .ok (out, at_ + u) else go most f (l.drop u) (out ++ p) (at_ + u)
def chunks (most : Int) (l : L8) : Except Int (L8 × Nat) := go (max most 0) (l.length + 1) l [] 0

theorem takeWhile_all {p : UInt8 → Bool} : ∀ (d t : L8), (∀ x ∈ d, p x = true) → (d ++ t).takeWhile p = d ++ t.takeWhile p
  | [], t, _ => rfl
  | a :: d, t, h => by
    rw [List.cons_append, List.takeWhile_cons_of_pos (h a (by simp)), takeWhile_all d t (fun x hx => h x (List.mem_cons_of_mem _ hx))]; rfl
theorem digs_le (l : L8) : digs l ≤ 7 ∧ digs l ≤ l.length := by
  have h := (List.takeWhile_prefix isX (l := l.take 7)).length_le
  rw [List.length_take] at h
  unfold digs; omega
theorem takeWhile_take (p : UInt8 → Bool) : ∀ l : L8, l.take (l.takeWhile p).length = l.takeWhile p
  | [] => rfl
  | a :: r => by
    by_cases h : p a = true
    · rw [List.takeWhile_cons_of_pos h]; simp [takeWhile_take p r]
    · rw [List.takeWhile_cons_of_neg h]; rfl
theorem takeWhile_p {p : UInt8 → Bool} : ∀ (l : L8), ∀ x ∈ l.takeWhile p, p x = true
  | [], x, h => by cases h
  | a :: r, x, h => by
    by_cases ha : p a = true
    · rw [List.takeWhile_cons_of_pos ha] at h
      rcases List.mem_cons.1 h with rfl | h
      · exact ha
      · exact takeWhile_p r x h
    · rw [List.takeWhile_cons_of_neg ha] at h; cases h
theorem digs_all (l : L8) : ∀ x ∈ l.take (digs l), isX x = true := by
  have h := takeWhile_take isX (l.take 7)
  have hd := (digs_le l).1
  rw [List.take_take, Nat.min_eq_left (by exact hd)] at h
  intro x hx
  unfold digs at hx
  rw [h] at hx
  exact takeWhile_p _ x hx
/-- digits, and then none: just these are read -/
theorem digs_of (d t : L8) (hd : ∀ x ∈ d, isX x = true) (h7 : d.length ≤ 7) (ht : ∀ c r, t = c :: r → d.length < 7 → isX c = false) : digs (d ++ t) = d.length := by
  unfold digs
  rw [List.take_append, List.take_of_length_le h7, takeWhile_all d _ hd, List.length_append]
  suffices h : (t.take (7 - d.length)).takeWhile isX = [] by rw [h]; rfl
  cases t with
  | nil => rw [List.take_nil]; rfl
  | cons c r =>
    by_cases h : d.length < 7
    · rw [show 7 - d.length = (6 - d.length) + 1 by omega, List.take_succ_cons, List.takeWhile_cons_of_neg (by rw [ht c r rfl h]; simp)]
    · rw [show 7 - d.length = 0 by omega]; rfl
/-- at the place behind the digits there is none, unless there are 7 -/
theorem digs_next (l : L8) (h7 : digs l < 7) (c : UInt8) (h : l[digs l]? = some c) : isX c = false := by
  have h0 : ∀ (m : L8) (c : UInt8), m[(m.takeWhile isX).length]? = some c → isX c = false := by
    intro m
    induction m with
    | nil => intro c h; cases h
    | cons a r ih =>
      intro c h
      by_cases ha : isX a = true
      · rw [List.takeWhile_cons_of_pos ha] at h
        exact ih c (by simpa using h)
      · rw [List.takeWhile_cons_of_neg ha] at h
        have : a = c := by simpa using h
        subst this; simpa using ha
  apply h0 (l.take 7) c
  rw [show ((l.take 7).takeWhile isX).length = digs l from rfl, List.getElem?_take, if_pos h7]; exact h
/-- digits make a number -/
theorem num_yes : ∀ (d : L8), (∀ x ∈ d, isX x = true) → ∃ n, Num.num 16 d = some n := by
  intro d
  have : ∀ (k : Nat) (d : L8), d.length = k → (∀ x ∈ d, isX x = true) → ∃ n, Num.num 16 d = some n := by
    intro k
    induction k with
    | zero => intro d hl _; rw [List.length_eq_zero_iff.1 hl]; exact ⟨0, rfl⟩
    | succ k ih =>
      intro d hl h
      obtain ⟨a, c, rfl⟩ : ∃ a c, d = a ++ [c] := by
        have hne : d ≠ [] := by intro e; simp [e] at hl
        exact ⟨d.dropLast, d.getLast hne, (List.dropLast_concat_getLast hne).symm⟩
      simp at hl
      obtain ⟨n, hn⟩ := ih a hl (fun x hx => h x (by simp [hx]))
      have hc := h c (by simp)
      rw [Num.num_snoc, hn]
      have h1 : 0 ≤ Num.dig c.toNat := by simpa [isX] using hc
      have h2 := Num.dig_bd c.toNat
      exact ⟨_, by unfold Num.step; dsimp only; rw [if_neg (by omega)]⟩
  exact this d.length d rfl
theorem num_no (d : L8) (c : UInt8) (h : isX c = false) : Num.num 16 (d ++ [c]) = none := by
  rw [Num.num_snoc]
  have h1 : Num.dig c.toNat < 0 := by simpa [isX] using h
  unfold Num.step
  cases Num.num 16 d <;> simp [h1]
theorem val_num (l : L8) : Num.num 16 (l.take (digs l)) = some (val l) := by
  obtain ⟨n, hn⟩ := num_yes _ (digs_all l)
  unfold val; rw [hn]; rfl
theorem val_bd (l : L8) : 0 ≤ val l ∧ val l < 268435456 := by
  have h := Num.num_bd 16 (by omega) (by omega) (l.take (digs l)).length _ _ rfl (val_num l)
  have hd := (digs_le l).1
  rw [List.length_take] at h
  have h2 : ∀ k : Fin 8, (16 : Int) ^ k.1 ≤ 268435456 := by decide
  have h3 := h2 ⟨min (digs l) l.length, by omega⟩
  dsimp only at h3
  omega
theorem nl_crlf (t : L8) : nl (crlf ++ t) = 0 := by simp [crlf, nl]
theorem nl_form {l : L8} (h : nl l = 0) : ∃ t, l = crlf ++ t := by
  rcases l with _ | ⟨c, _ | ⟨d, r⟩⟩
  · exact absurd h (by decide)
  · simp only [nl] at h
    split at h <;> exact absurd h (by decide)
  · simp only [nl] at h
    split at h
    · rename_i e; exact ⟨r, by rw [e.1, e.2]; rfl⟩
    · exact absurd h (by decide)
/-- what the size's line and the bytes are, where a chunk is read -/
structure Is (room : Int) (d p : L8) : Prop where
  hex : ∀ x ∈ d, isX x = true
  some_ : 1 ≤ d.length
  seven : d.length ≤ 7
  num : Num.num 16 d = some (p.length : Int)
  fits : (p.length : Int) ≤ room
theorem not_x13 : isX 13 = false := by decide
theorem digs_line (d t : L8) (hd : ∀ x ∈ d, isX x = true) (h7 : d.length ≤ 7) : digs (d ++ crlf ++ t) = d.length := by
  rw [List.append_assoc]
  exact digs_of d _ hd h7 (fun c r h _ => by
    have : c = 13 := by simpa [crlf] using (List.cons.inj h).1.symm
    rw [this]; exact not_x13)
theorem val_line (d t : L8) (n : Int) (hd : ∀ x ∈ d, isX x = true) (h7 : d.length ≤ 7) (hn : Num.num 16 d = some n) : val (d ++ crlf ++ t) = n := by
  unfold val
  rw [digs_line d t hd h7, List.append_assoc, List.take_left, hn]; rfl
theorem chunk_is {room : Int} {d p : L8} (h : Is room d p) (t : L8) : chunk room (d ++ crlf ++ p ++ crlf ++ t) = .ok (p, d.length + 2 + p.length + 2) := by
  have hd := digs_line d (p ++ crlf ++ t) h.hex h.seven
  have hv := val_line d (p ++ crlf ++ t) _ h.hex h.seven h.num
  have hs : d ++ crlf ++ p ++ crlf ++ t = d ++ crlf ++ (p ++ crlf ++ t) := by simp [List.append_assoc]
  have hp := h.some_
  have hf := h.fits
  have hd2 : (d ++ crlf ++ (p ++ crlf ++ t)).drop (d.length + 2) = p ++ crlf ++ t := by
    rw [show d.length + 2 = (d ++ crlf).length by simp [crlf], List.drop_left]
  have hd1 : (d ++ crlf ++ (p ++ crlf ++ t)).drop d.length = crlf ++ (p ++ crlf ++ t) := by
    rw [List.append_assoc, List.drop_left]
  rw [hs]
  unfold chunk
  rw [hd, hv, hd1, hd2, nl_crlf, if_neg (by omega), if_neg (by simp), if_neg (by omega), if_neg (by simp; omega), Int.toNat_natCast, List.append_assoc, List.drop_left, List.take_left, nl_crlf, if_neg (by simp)]
theorem chunk_form {room : Int} {l p : L8} {u : Nat} (h : chunk room l = .ok (p, u)) : ∃ d t, Is room d p ∧ l = d ++ crlf ++ p ++ crlf ++ t ∧ u = d.length + 2 + p.length + 2 := by
  unfold chunk at h
  split at h
  · cases h
  rename_i h1
  split at h
  · cases h
  rename_i h2
  split at h
  · cases h
  rename_i h3
  split at h
  · cases h
  rename_i h4
  split at h
  · cases h
  rename_i h5
  have h2 : nl (l.drop (digs l)) = 0 := by simpa using h2
  have h5 : nl ((l.drop (digs l + 2)).drop (val l).toNat) = 0 := by simpa using h5
  obtain ⟨t1, e1⟩ := nl_form h2
  obtain ⟨t2, e2⟩ := nl_form h5
  have hv := val_bd l
  have hd := digs_le l
  have e3 : l.drop (digs l + 2) = t1 := by
    rw [← List.drop_drop, e1]; rfl
  rw [e3] at h h4 e2
  have hlen : (val l).toNat ≤ t1.length := by omega
  simp only [Except.ok.injEq, Prod.mk.injEq] at h
  obtain ⟨hp, hu⟩ := h
  have hpl : p.length = (val l).toNat := by rw [← hp, List.length_take]; omega
  have hdl : (l.take (digs l)).length = digs l := by rw [List.length_take]; omega
  refine ⟨l.take (digs l), t2, ⟨digs_all l, ?_, by rw [hdl]; exact hd.1, ?_, by omega⟩, ?_, by rw [hdl]; omega⟩
  · rw [hdl]
    rcases Nat.eq_zero_or_pos (digs l) with h0 | h0
    · exfalso
      by_cases hl : l = []
      · subst hl; rw [List.drop_nil] at h2; cases h2
      · exact h1 ⟨h0, hl⟩
    · exact h0
  · rw [val_num, hpl, Int.toNat_of_nonneg hv.1]
  · have a1 : l = l.take (digs l) ++ l.drop (digs l) := (List.take_append_drop _ _).symm
    have a2 : t1 = t1.take (val l).toNat ++ t1.drop (val l).toNat := (List.take_append_drop _ _).symm
    rw [e2, hp] at a2
    rw [e1, a2] at a1
    simpa only [List.append_assoc] using a1
end Cu
end Go.Proofs.YtmgealcolofomaaDoor
