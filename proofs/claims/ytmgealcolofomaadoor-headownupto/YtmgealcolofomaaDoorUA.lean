/- A request that is written is read as it was, plain: no program is read here. -/
import Derived.Test.YtmgealcolofomaaDoorMa
import Derived.Test.YtmgealcolofomaaDoorMn
import Derived.Test.YtmgealcolofomaaDoorTb
import Derived.Test.YtmgealcolofomaaDoorTe
import Derived.Test.YtmgealcolofomaaDoorTh
/- One request at the front of bytes, plain: no program is read here. -/
namespace Go.Proofs.YtmgealcolofomaaDoor
set_option linter.unusedVariables false
set_option maxRecDepth 20000
namespace Cu
theorem go_err {most : Int} : ∀ (f : Nat) (l out : L8) (a : Nat) (e : Int), go most f l out a = .error e → e ≠ 0 := by
  intro f
  induction f with
  | zero => intro l out a e h; cases h; decide
  | succ f ih =>
    intro l out a e h
    rw [go] at h
    rcases hc : chunk (most - out.length) l with x | ⟨p, u⟩
    · rw [hc] at h
      have hx := chunk_err hc
      cases h
      omega
    · rw [hc] at h
      dsimp only at h
      split at h
      · cases h
      · exact ih _ _ _ _ h
theorem go_len {most : Int} : ∀ (f : Nat) (l out : L8) (a : Nat) (q : L8) (n : Nat), go most f l out a = .ok (q, n) → q.length ≤ out.length + l.length ∧ ((out.length : Int) ≤ most → (q.length : Int) ≤ most) := by
  intro f
  induction f with
  | zero => intro l out a q n h; cases h
  | succ f ih =>
    intro l out a q n h
    rw [go] at h
    rcases hc : chunk (most - out.length) l with x | ⟨p, u⟩
    · rw [hc] at h; cases h
    · rw [hc] at h
      have hx := chunk_used hc
      dsimp only at h
      split at h
      · cases h; exact ⟨by omega, fun h => h⟩
      · have := ih _ _ _ _ _ h
        rw [List.length_append, List.length_drop] at this
        exact ⟨by omega, fun ho => this.2 (by push_cast; omega)⟩
theorem chunks_len {most : Int} {l q : L8} {n : Nat} (h : chunks most l = .ok (q, n)) : q.length ≤ l.length ∧ (q.length : Int) ≤ max most 0 := by
  have := go_len _ _ _ _ _ _ h; exact ⟨by simpa using this.1, this.2 (by simp; omega)⟩
theorem chunks_err {most : Int} {l : L8} {e : Int} (h : chunks most l = .error e) : e ≠ 0 := go_err _ _ _ _ _ h
end Cu
namespace On
open Mh (Fl)
abbrev L8 := List UInt8
/-- a request: method, target, fields, body -/
abbrev Rq := L8 × L8 × List Fl × L8
/-- the end of a head -/
def he : L8 := [13, 10, 13, 10]
/-- what is wrong with the bounds -/
def bnd (hd bd ar : Int) : Int := if (30 ≤ hd ∧ hd ≤ 4096) ∧ (0 ≤ bd ∧ bd ≤ 4096) ∧ 1 ≤ ar ∧ ar ≤ 40 then 0 else 1
/-- where the head's end stands -/
def endAt (hd : Nat) (s : L8) : Int := Lib.index (s.take hd) he
def body (bd : Int) (s : L8) (k sz : Int) : Except Int (L8 × Nat) :=
  if k = 2 then (if bd < sz then .error 6 else if (s.length : Int) < sz then .error 7 else .ok (s.take sz.toNat, sz.toNat))
  else if k = 3 then Cu.chunks bd s else .ok ([], 0)
/-- the head at the front: it, what body it tells of, how many bytes it has -/
def headP (hd : Nat) (s : L8) : Except Int ((L8 × L8 × List Fl) × (Int × Int) × Nat) :=
  if endAt hd s = -1 then .error (if hd ≤ s.length then 5 else 7)
  else if (Mh.parse (s.take ((endAt hd s).toNat + 4))).2.2.2 ≠ 0 then .error (Mh.parse (s.take ((endAt hd s).toNat + 4))).2.2.2
  else if (Cu.sizeOf (Mh.parse (s.take ((endAt hd s).toNat + 4))).2.2.1).2.2 ≠ 0 then .error (Cu.sizeOf (Mh.parse (s.take ((endAt hd s).toNat + 4))).2.2.1).2.2
  else .ok (((Mh.parse (s.take ((endAt hd s).toNat + 4))).1, (Mh.parse (s.take ((endAt hd s).toNat + 4))).2.1, (Mh.parse (s.take ((endAt hd s).toNat + 4))).2.2.1), ((Cu.sizeOf (Mh.parse (s.take ((endAt hd s).toNat + 4))).2.2.1).1, (Cu.sizeOf (Mh.parse (s.take ((endAt hd s).toNat + 4))).2.2.1).2.1), (endAt hd s).toNat + 4)
/-- the request at the front -/
def one (hd : Nat) (bd : Int) (s : L8) : Except Int (Rq × Nat) :=
  match headP hd s with
  | .error e => .error e
  | .ok (h, z, n) => match body bd (s.drop n) z.1 z.2 with
    | .error e => .error e
    | .ok (t, k) => .ok ((h.1, h.2.1, h.2.2, t), n + k)

theorem end_cases (hd : Nat) (s : L8) : endAt hd s = -1 ∨ ∃ i : Nat, endAt hd s = i ∧ i + 4 ≤ hd ∧ i + 4 ≤ s.length ∧ Lib.occAt s he i = true ∧ (∀ j, j < i → Lib.occAt s he j = false) := by
  rcases Lib.index_spec (s.take hd) he with ⟨h, _⟩ | ⟨i, h, hi, ho, hno⟩
  · exact .inl h
  · refine .inr ⟨i, h, ?_⟩
    have hr : i + 4 ≤ (s.take hd).length := by
      rcases Lib.occAt_room ho with h | h
      · exact h
      · exact absurd h (by decide)
    rw [List.length_take] at hr
    have hoc : ∀ j, j + 4 ≤ min hd s.length → Lib.occAt (s.take hd) he j = Lib.occAt s he j := by
      intro j hj
      rw [Lib.occAt_iff_take _ _ _ (by rw [List.length_take]; exact hj), Lib.occAt_iff_take _ _ _ (by show j + 4 ≤ _; omega)]
      congr 1
      rw [List.drop_take, List.take_take, show min he.length (hd - j) = he.length by show min 4 (hd - j) = 4; omega]
    refine ⟨by omega, by omega, by rw [← hoc i (by omega)]; exact ho, fun j hj => ?_⟩
    rw [← hoc j (by omega)]
    exact hno j hj
theorem end_at {hd : Nat} {s : L8} {i : Nat} (h1 : i + 4 ≤ hd) (h2 : Lib.occAt s he i = true) (h3 : ∀ j, j < i → Lib.occAt s he j = false) : endAt hd s = i := by
  have hr : i + 4 ≤ s.length := by
    rcases Lib.occAt_room h2 with h | h
    · exact h
    · exact absurd h (by decide)
  have hoc : ∀ j, j + 4 ≤ min hd s.length → Lib.occAt (s.take hd) he j = Lib.occAt s he j := by
    intro j hj
    rw [Lib.occAt_iff_take _ _ _ (by rw [List.length_take]; exact hj), Lib.occAt_iff_take _ _ _ (by show j + 4 ≤ _; omega)]
    congr 1
    rw [List.drop_take, List.take_take, show min he.length (hd - j) = he.length by show min 4 (hd - j) = 4; omega]
  have hi := hoc i (by omega)
  rcases Lib.index_spec (s.take hd) he with ⟨h, hno⟩ | ⟨k, h, hk, ho, hno⟩
  · have := hno i (by rw [List.length_take]; omega)
    rw [hi, h2] at this; cases this
  · have hkr : k + 4 ≤ (s.take hd).length := by
      rcases Lib.occAt_room ho with h | h
      · exact h
      · exact absurd h (by decide)
    rw [List.length_take] at hkr
    rcases Nat.lt_trichotomy k i with hlt | heq | hgt
    · have := h3 k hlt
      rw [← hoc k (by omega), ho] at this; cases this
    · show Lib.index _ _ = _
      rw [h, heq]
    · have := hno i hgt
      rw [hi, h2] at this; cases this
/-- the document finds the first end anywhere, and looks at the bound behind -/
theorem end_find (hd : Nat) (s : L8) : endAt hd s = if Fnd.find s he 0 < 0 ∨ (hd : Int) < Fnd.find s he 0 + 4 then -1 else Fnd.find s he 0 := by
  rw [find_zero]
  rcases Lib.index_spec s he with ⟨h, hno⟩ | ⟨i, h, hi, ho, hno⟩
  · rw [h, if_pos (.inl (by omega))]
    rcases end_cases hd s with h | ⟨k, _, _, hk, h2, _⟩
    · exact h
    · rw [hno k (by omega)] at h2; cases h2
  · rw [h]
    split
    · rename_i hc
      rcases end_cases hd s with h | ⟨k, hk1, hk2, hk3, hk4, hk5⟩
      · exact h
      · exfalso
        have : i ≤ k := by
          rcases Nat.lt_or_ge k i with hlt | hge
          · rw [hno k hlt] at hk4; cases hk4
          · exact hge
        omega
    · rename_i hc
      exact end_at (by omega) ho hno
theorem occ_app {s x : L8} {j : Nat} (h : j + 4 ≤ s.length) : Lib.occAt (s ++ x) he j = Lib.occAt s he j := by
  rw [Lib.occAt_iff_take _ _ _ (by rw [List.length_append]; show j + 4 ≤ _; omega), Lib.occAt_iff_take _ _ _ (by show j + 4 ≤ _; omega)]
  congr 1
  rw [List.drop_append_of_le_length (by omega), List.take_append_of_le_length (by rw [List.length_drop]; show 4 ≤ _; omega)]
theorem occ_take4 {s : L8} {k j : Nat} (h : j + 4 ≤ k) (hk : k ≤ s.length) : Lib.occAt (s.take k) he j = Lib.occAt s he j := by
  have := occ_app (s := s.take k) (x := s.drop k) (j := j) (by rw [List.length_take]; omega)
  rw [← this, List.take_append_drop]
theorem end_app {hd : Nat} {s : L8} (x : L8) {i : Nat} (h : endAt hd s = i) : endAt hd (s ++ x) = i := by
  rcases end_cases hd s with h' | ⟨k, h1, h2, h3, h4, h5⟩
  · omega
  · obtain rfl : k = i := by omega
    exact end_at h2 (by rw [occ_app h3]; exact h4) (fun j hj => by rw [occ_app (by omega)]; exact h5 j hj)
theorem end_take {hd : Nat} {s : L8} {i k : Nat} (h : endAt hd s = i) (hk : i + 4 ≤ k) : endAt hd (s.take k) = i := by
  rcases end_cases hd s with h' | ⟨k', h1, h2, h3, h4, h5⟩
  · omega
  · obtain rfl : k' = i := by omega
    rcases Nat.le_total k s.length with hl | hl
    · exact end_at h2 (by rw [occ_take4 hk hl]; exact h4) (fun j hj => by rw [occ_take4 (by omega) hl]; exact h5 j hj)
    · rw [List.take_of_length_le hl]; exact h
/-- with fewer bytes than the head there is no end -/
theorem end_short {hd : Nat} {s : L8} {i k : Nat} (h : endAt hd s = i) (hk : k < i + 4) : endAt hd (s.take k) = -1 := by
  rcases end_cases hd (s.take k) with h' | ⟨j, h1, h2, h3, h4, h5⟩
  · exact h'
  · exfalso
    rcases end_cases hd s with h' | ⟨k', g1, g2, g3, g4, g5⟩
    · omega
    · obtain rfl : k' = i := by omega
      rw [List.length_take] at h3
      rw [occ_take4 (by omega) (by omega)] at h4
      rw [g5 j (by omega)] at h4; cases h4
theorem headP_ok {hd : Nat} {s : L8} {h : L8 × L8 × List Fl} {z : Int × Int} {n : Nat} (hh : headP hd s = .ok (h, z, n)) :
    ∃ i : Nat, endAt hd s = i ∧ n = i + 4 ∧ n ≤ hd ∧ n ≤ s.length ∧ Mh.parse (s.take n) = (h.1, h.2.1, h.2.2, 0) ∧ Cu.sizeOf h.2.2 = (z.1, z.2, 0) := by
  unfold headP at hh
  rcases end_cases hd s with h' | ⟨i, h1, h2, h3, h4, h5⟩
  · rw [if_pos h'] at hh; cases hh
  · rw [h1, if_neg (by omega), Int.toNat_natCast] at hh
    split at hh
    · cases hh
    rename_i hp
    split at hh
    · cases hh
    rename_i hs
    simp only [Except.ok.injEq, Prod.mk.injEq] at hh
    obtain ⟨rfl, rfl, rfl⟩ := hh
    refine ⟨i, h1, rfl, h2, h3, ?_, ?_⟩
    · dsimp only
      have hp : (Mh.parse (s.take (i + 4))).2.2.2 = 0 := by simpa using hp
      rw [← hp]
    · dsimp only
      have hs : (Cu.sizeOf (Mh.parse (s.take (i + 4))).2.2.1).2.2 = 0 := by simpa using hs
      rw [← hs]
theorem headP_mk {hd : Nat} {s : L8} {h : L8 × L8 × List Fl} {z : Int × Int} {i : Nat} (h1 : endAt hd s = i) (h2 : Mh.parse (s.take (i + 4)) = (h.1, h.2.1, h.2.2, 0)) (h3 : Cu.sizeOf h.2.2 = (z.1, z.2, 0)) : headP hd s = .ok (h, z, i + 4) := by
  unfold headP
  rw [h1, if_neg (by omega), Int.toNat_natCast, h2]
  dsimp only
  rw [h3]
  dsimp only
  rw [if_neg (by simp), if_neg (by simp)]
theorem headP_app {hd : Nat} {s x : L8} {h : L8 × L8 × List Fl} {z : Int × Int} {n : Nat} (hh : headP hd s = .ok (h, z, n)) : headP hd (s ++ x) = .ok (h, z, n) := by
  obtain ⟨i, h1, rfl, h3, h4, h5, h6⟩ := headP_ok hh
  exact headP_mk (end_app x h1) (by rw [List.take_append_of_le_length h4]; exact h5) h6
theorem headP_take {hd : Nat} {s : L8} {k : Nat} {h : L8 × L8 × List Fl} {z : Int × Int} {n : Nat} (hh : headP hd s = .ok (h, z, n)) (hk : n ≤ k) : headP hd (s.take k) = .ok (h, z, n) := by
  obtain ⟨i, h1, rfl, h3, h4, h5, h6⟩ := headP_ok hh
  exact headP_mk (end_take h1 hk) (by rw [List.take_take, Nat.min_eq_left hk]; exact h5) h6
theorem headP_short {hd : Nat} {s : L8} {k : Nat} {h : L8 × L8 × List Fl} {z : Int × Int} {n : Nat} (hh : headP hd s = .ok (h, z, n)) (hk : k < n) : headP hd (s.take k) = .error 7 := by
  obtain ⟨i, h1, rfl, h3, h4, h5, h6⟩ := headP_ok hh
  unfold headP
  rw [if_pos (end_short h1 hk), if_neg (by rw [List.length_take]; omega)]
theorem body_ok {bd : Int} {s t : L8} {k sz : Int} {n : Nat} (h0 : 0 ≤ bd) (h : body bd s k sz = .ok (t, n)) :
    n ≤ s.length ∧ (t.length : Int) ≤ bd ∧ t.length ≤ s.length ∧ (∀ x, body bd (s ++ x) k sz = .ok (t, n)) ∧ ∀ j, j < n → body bd (s.take j) k sz = .error 7 := by
  unfold body at h
  split at h
  · rename_i hk
    split at h
    · cases h
    rename_i h1
    split at h
    · cases h
    rename_i h2
    cases h
    refine ⟨by omega, by rw [List.length_take]; omega, by rw [List.length_take]; omega, fun x => ?_, fun j hj => ?_⟩
    · unfold body
      rw [if_pos hk, if_neg h1, if_neg (by rw [List.length_append]; omega), List.take_append_of_le_length (by omega)]
    · unfold body
      rw [if_pos hk, if_neg h1, if_pos (by rw [List.length_take]; omega)]
  · rename_i hk
    split at h
    · rename_i hk3
      obtain ⟨a1, a2, a3, a4⟩ := Cu.chunks_cuts h
      have hl := Cu.chunks_len h
      refine ⟨a2, by omega, hl.1, fun x => ?_, fun j hj => ?_⟩
      · unfold body
        rw [if_neg hk, if_pos hk3]; exact a3 bd x (Int.le_refl _)
      · unfold body
        rw [if_neg hk, if_pos hk3]; exact a4 j hj
    · rename_i hk3
      cases h
      refine ⟨Nat.zero_le _, by simpa using h0, Nat.zero_le _, fun x => ?_, fun j hj => by omega⟩
      unfold body
      rw [if_neg hk, if_neg hk3]
/-- what is read is read the same, whatever stands behind; a beginning asks for more -/
theorem one_ok {hd : Nat} {bd : Int} {s : L8} {q : Rq} {n : Nat} (h0 : 0 ≤ bd) (h : one hd bd s = .ok (q, n)) :
    4 ≤ n ∧ n ≤ s.length ∧ (q.2.2.2.length : Int) ≤ bd ∧ (∀ x, one hd bd (s ++ x) = .ok (q, n)) ∧ ∀ j, j < n → one hd bd (s.take j) = .error 7 := by
  unfold one at h
  cases hh : headP hd s with
  | error e => rw [hh] at h; cases h
  | ok r =>
    obtain ⟨hdr, z, m⟩ := r
    rw [hh] at h
    dsimp only at h
    cases hb : body bd (s.drop m) z.1 z.2 with
    | error e => rw [hb] at h; cases h
    | ok r =>
      obtain ⟨t, k⟩ := r
      rw [hb] at h
      dsimp only at h
      cases h
      obtain ⟨i, h1, hm, h3, h4, h5, h6⟩ := headP_ok hh
      obtain ⟨b1, b2, b3, b4, b5⟩ := body_ok h0 hb
      rw [List.length_drop] at b1
      refine ⟨by omega, by omega, b2, fun x => ?_, fun j hj => ?_⟩
      · unfold one
        rw [headP_app hh]
        dsimp only
        rw [List.drop_append_of_le_length h4, b4 x]
      · rcases Nat.lt_or_ge j m with hlt | hge
        · unfold one
          rw [headP_short hh hlt]
        · unfold one
          rw [headP_take hh hge]
          dsimp only
          rw [List.drop_take, b5 (j - m) (by omega)]
end On
end Go.Proofs.YtmgealcolofomaaDoor

/- Requests one behind the other, and bytes that come in pieces, plain: no program is read here. -/
namespace Go.Proofs.YtmgealcolofomaaDoor
set_option linter.unusedVariables false
set_option maxRecDepth 20000
namespace Cu
theorem digs_app {l : L8} (x : L8) (h : digs l < l.length) : digs (l ++ x) = digs l := by
  have hd := digs_le l
  have hdl : (l.take (digs l)).length = digs l := by rw [List.length_take]; omega
  have e : l ++ x = l.take (digs l) ++ (l.drop (digs l) ++ x) := by rw [← List.append_assoc, List.take_append_drop]
  have := digs_of (l.take (digs l)) (l.drop (digs l) ++ x) (digs_all l) (by omega) (fun c r hc h7 => by
    refine digs_next l (by omega) c ?_
    have hne : l.drop (digs l) ≠ [] := by intro e; have := congrArg List.length e; rw [List.length_drop] at this; simp at this; omega
    obtain ⟨a, r', hr⟩ := List.exists_cons_of_ne_nil hne
    rw [hr] at hc
    have hac : a = c := by simpa using (List.cons.inj hc).1
    have : (l.drop (digs l))[0]? = some a := by rw [hr]; rfl
    rw [List.getElem?_drop] at this
    simpa [hac] using this)
  rw [← e, hdl] at this
  exact this
theorem val_app {l : L8} (x : L8) (h : digs l < l.length) : val (l ++ x) = val l := by
  unfold val
  rw [digs_app x h, List.take_append_of_le_length (by omega)]
theorem nl_four (l : L8) : (l = [] ∧ nl l = 7) ∨ nl l = 7 ∨ (l ≠ [] ∧ nl l = 4 ∧ ∀ x, nl (l ++ x) = 4) ∨ (2 ≤ l.length ∧ nl l = 0 ∧ ∀ x, nl (l ++ x) = 0) := by
  rcases l with _ | ⟨c, _ | ⟨d, r⟩⟩
  · exact .inl ⟨rfl, rfl⟩
  · by_cases h : c = 13
    · exact .inr (.inl (by simp [nl, h]))
    · refine .inr (.inr (.inl ⟨by simp, by simp [nl, h], fun x => ?_⟩))
      cases x with
      | nil => simp [nl, h]
      | cons a x => simp [nl, h]
  · by_cases h : c = 13 ∧ d = 10
    · exact .inr (.inr (.inr ⟨by simp, by simp [nl, h], fun x => by simp [nl, h]⟩))
    · exact .inr (.inr (.inl ⟨by simp, by simp [nl, h], fun x => by simp [nl, h]⟩))
theorem chunk_bad {room : Int} {l : L8} {e : Int} (h : chunk room l = .error e) (h7 : e ≠ 7) (x : L8) : chunk room (l ++ x) = .error e := by
  have hd := digs_le l
  unfold chunk at h
  split at h
  · rename_i h1
    have hp := List.length_pos_iff.2 h1.2
    unfold chunk
    rw [digs_app x (by omega), if_pos ⟨h1.1, by simp [h1.2]⟩]; exact h
  rename_i h1
  have key : l ≠ [] → ¬ (digs l = 0 ∧ l ++ x ≠ []) := fun hl hc => h1 ⟨hc.1, hl⟩
  split at h
  · rename_i h2
    rcases nl_four (l.drop (digs l)) with ⟨_, h3⟩ | h3 | ⟨g1, g2, g3⟩ | ⟨_, g2, _⟩
    · rw [h3] at h; cases h; exact absurd rfl h7
    · rw [h3] at h; cases h; exact absurd rfl h7
    · have hlt : digs l < l.length := by
        have := List.length_pos_iff.2 g1
        rw [List.length_drop] at this; omega
      rw [g2] at h
      unfold chunk
      rw [digs_app x hlt, if_neg (key (by intro e; subst e; simp at hlt)), List.drop_append_of_le_length (by omega), g3 x, if_pos (by decide)]
      exact h
    · exact absurd g2 h2
  rename_i h2
  have h2 : nl (l.drop (digs l)) = 0 := by simpa using h2
  rcases nl_four (l.drop (digs l)) with ⟨_, h3⟩ | h3 | ⟨g1, g2, g3⟩ | ⟨g1, g2, g3⟩
  · omega
  · omega
  · omega
  rw [List.length_drop] at g1
  have hlt : digs l < l.length := by omega
  have hk := key (by intro e; subst e; simp at hlt)
  split at h
  · rename_i h3
    unfold chunk
    rw [digs_app x hlt, val_app x hlt, if_neg hk, List.drop_append_of_le_length (by omega), g3 x, if_neg (by simp), if_pos h3]
    exact h
  rename_i h3
  split at h
  · cases h; exact absurd rfl h7
  rename_i h4
  split at h
  · rename_i h5
    rcases nl_four ((l.drop (digs l + 2)).drop (val l).toNat) with ⟨_, h6⟩ | h6 | ⟨k1, k2, k3⟩ | ⟨_, k2, _⟩
    · rw [h6] at h; cases h; exact absurd rfl h7
    · rw [h6] at h; cases h; exact absurd rfl h7
    · have hkl := List.length_pos_iff.2 k1
      rw [List.length_drop] at hkl
      rw [k2] at h
      unfold chunk
      rw [digs_app x hlt, val_app x hlt, if_neg hk, List.drop_append_of_le_length (by omega), g3 x, if_neg (by simp), if_neg h3, List.drop_append_of_le_length (by omega), if_neg (by rw [List.length_append]; omega),
        List.drop_append_of_le_length (by omega), k3 x, if_pos (by decide)]
      exact h
    · exact absurd k2 h5
  · cases h
theorem chunk_ok {room : Int} {l p : L8} {u : Nat} (h : chunk room l = .ok (p, u)) (x : L8) : chunk room (l ++ x) = .ok (p, u) ∧ u ≤ l.length := by
  obtain ⟨d, t, hI, rfl, rfl⟩ := chunk_form h
  refine ⟨?_, by simp [crlf]; omega⟩
  have := chunk_is hI (t ++ x)
  simpa only [List.append_assoc] using this
theorem go_bad {most : Int} (x : L8) : ∀ (f : Nat) (l out : L8) (a : Nat) (e : Int), go most f l out a = .error e → e ≠ 7 → ∀ f', f ≤ f' → go most f' (l ++ x) out a = .error e := by
  intro f
  induction f with
  | zero => intro l out a e h h7; cases h; exact absurd rfl h7
  | succ f ih =>
    intro l out a e h h7 f' hf
    obtain ⟨g, rfl⟩ : ∃ g, f' = g + 1 := ⟨f' - 1, by omega⟩
    rw [go] at h ⊢
    rcases hc : chunk (most - out.length) l with e' | ⟨p, u⟩
    · rw [hc] at h
      cases h
      rw [chunk_bad hc h7 x]
    · rw [hc] at h
      obtain ⟨h1, h2⟩ := chunk_ok hc x
      rw [h1]
      dsimp only at h ⊢
      split at h
      · cases h
      · rename_i hp
        rw [if_neg hp, List.drop_append_of_le_length h2]
        exact ih _ _ _ _ h h7 g (by omega)
theorem chunks_bad {most : Int} {l : L8} {e : Int} (h : chunks most l = .error e) (h7 : e ≠ 7) (x : L8) : chunks most (l ++ x) = .error e := by
  unfold chunks at h ⊢
  exact go_bad x _ _ _ _ _ h h7 _ (by rw [List.length_append]; omega)
theorem go_errs {most : Int} : ∀ (f : Nat) (l out : L8) (a : Nat) (e : Int), go most f l out a = .error e → e = 4 ∨ e = 6 ∨ e = 7 := by
  intro f
  induction f with
  | zero => intro l out a e h; cases h; simp
  | succ f ih =>
    intro l out a e h
    rw [go] at h
    rcases hc : chunk (most - out.length) l with x | ⟨p, u⟩
    · rw [hc] at h
      have hx := chunk_err hc
      cases h
      omega
    · rw [hc] at h
      dsimp only at h
      split at h
      · cases h
      · exact ih _ _ _ _ h
theorem sizeE_err (a b : List L8) : (sizeE a b).2.2 = 0 ∨ (sizeE a b).2.2 = 4 := by
  unfold sizeE lens cods
  split
  · simp
  split
  · split
    · split
      · right
        rename_i h
        dsimp only
        unfold Num.ans at h ⊢
        split at h <;> rename_i h2
        · rw [if_pos h2]
        · rw [if_neg h2]
          split at h <;> rename_i h3
          · first | rfl | rw [h3]
          · exact absurd rfl h
      · simp
    · simp
  split
  · split <;> simp
  · simp
end Cu
namespace On
open Mh (Fl)
theorem one_errs {hd : Nat} {bd : Int} {s : L8} {e : Int} (h : one hd bd s = .error e) : e = 4 ∨ e = 5 ∨ e = 6 ∨ e = 7 := by
  unfold one at h
  rcases hh : headP hd s with e' | ⟨hdr, z, m⟩
  · rw [hh] at h
    cases h
    unfold headP at hh
    split at hh
    · cases hh; split <;> simp
    split at hh
    · rename_i hp
      cases hh
      rcases Mh.parse_cases (s.take ((endAt hd s).toNat + 4)) with ⟨e, he, h45⟩ | ⟨_, _, _, h0⟩
      · rw [he]; dsimp only; omega
      · rw [h0] at hp; exact absurd rfl hp
    split at hh
    · rename_i hz
      cases hh
      rcases Cu.sizeE_err (Cu.valsL (Mh.parse (s.take ((endAt hd s).toNat + 4))).2.2.1) (Cu.valsC (Mh.parse (s.take ((endAt hd s).toNat + 4))).2.2.1) with h | h
      · exact absurd h hz
      · exact .inl h
    · cases hh
  · rw [hh] at h
    dsimp only at h
    rcases hb : body bd (s.drop m) z.1 z.2 with e' | ⟨t, k⟩
    · rw [hb] at h
      cases h
      unfold body at hb
      split at hb
      · split at hb
        · cases hb; simp
        split at hb
        · cases hb; simp
        · cases hb
      split at hb
      · have := Cu.go_errs _ _ _ _ _ hb
        omega
      · cases hb
    · rw [hb] at h; cases h
/-- what is wrong stays wrong, whatever stands behind -/
theorem one_bad {hd : Nat} {bd : Int} {s : L8} {e : Int} (h : one hd bd s = .error e) (h7 : e ≠ 7) (x : L8) : one hd bd (s ++ x) = .error e := by
  unfold one at h
  rcases hh : headP hd s with e' | ⟨hdr, z, m⟩
  · rw [hh] at h
    cases h
    have : headP hd (s ++ x) = .error e := by
      unfold headP at hh
      rcases end_cases hd s with h1 | ⟨i, h1, h2, h3, h4, h5⟩
      · rw [if_pos h1] at hh
        split at hh
        · rename_i hl
          unfold headP
          have : endAt hd (s ++ x) = -1 := by unfold endAt at h1 ⊢; rw [List.take_append_of_le_length hl]; exact h1
          rw [if_pos this, if_pos (by rw [List.length_append]; omega)]
          exact hh
        · cases hh; exact absurd rfl h7
      · unfold headP
        rw [end_app x h1]
        rw [h1] at hh
        rw [Int.toNat_natCast] at hh ⊢
        rw [List.take_append_of_le_length h3]
        rw [if_neg (by omega)] at hh ⊢
        split at hh
        · rename_i hp; rw [if_pos hp]; exact hh
        rename_i hp
        rw [if_neg hp]
        split at hh
        · rename_i hz; rw [if_pos hz]; exact hh
        · cases hh
    unfold one
    rw [this]
  · obtain ⟨i, h1, rfl, h3, h4, h5, h6⟩ := headP_ok hh
    rw [hh] at h
    dsimp only at h
    unfold one
    rw [headP_app hh]
    dsimp only
    rw [List.drop_append_of_le_length h4]
    rcases hb : body bd (s.drop (i + 4)) z.1 z.2 with e' | ⟨t, k⟩
    · rw [hb] at h
      cases h
      have : body bd (s.drop (i + 4) ++ x) z.1 z.2 = .error e := by
        unfold body at hb ⊢
        split at hb
        · rename_i hk
          rw [if_pos hk]
          split at hb
          · rename_i hs; rw [if_pos hs]; exact hb
          rename_i hs
          split at hb
          · cases hb; exact absurd rfl h7
          · cases hb
        rename_i hk
        rw [if_neg hk]
        split at hb
        · rename_i hk3
          rw [if_pos hk3]
          exact Cu.chunks_bad hb h7 x
        · cases hb
      rw [this]
    · rw [hb] at h; cases h
/-- all requests at the front: they, what is left, why no more were there -/
def allF (hd : Nat) (bd : Int) : Nat → L8 → List Rq × L8 × Int
  | 0, s => ([], s, 7)
  | f + 1, s => match one hd bd s with
    | .error e => ([], s, e)
    | .ok (q, n) => (q :: (allF hd bd f (s.drop n)).1, (allF hd bd f (s.drop n)).2.1, (allF hd bd f (s.drop n)).2.2)
theorem allF_fuel {hd : Nat} {bd : Int} (h0 : 0 ≤ bd) : ∀ (f g : Nat) (s : L8), s.length < f → s.length < g → allF hd bd f s = allF hd bd g s := by
  intro f
  induction f with
  | zero => intro g s h; omega
  | succ f ih =>
    intro g s hf hg
    obtain ⟨g, rfl⟩ : ∃ k, g = k + 1 := ⟨g - 1, by omega⟩
    rw [allF, allF]
    rcases h : one hd bd s with e | ⟨q, n⟩
    · rfl
    · obtain ⟨h1, h2, _⟩ := one_ok h0 h
      dsimp only
      rw [ih g (s.drop n) (by rw [List.length_drop]; omega) (by rw [List.length_drop]; omega)]
def all (hd : Nat) (bd : Int) (s : L8) : List Rq × L8 × Int := allF hd bd (s.length + 1) s
theorem all_no {hd : Nat} {bd : Int} {s : L8} {e : Int} (h : one hd bd s = .error e) : all hd bd s = ([], s, e) := by
  unfold all; rw [allF, h]
theorem all_yes {hd : Nat} {bd : Int} (h0 : 0 ≤ bd) {s : L8} {q : Rq} {n : Nat} (h : one hd bd s = .ok (q, n)) : all hd bd s = (q :: (all hd bd (s.drop n)).1, (all hd bd (s.drop n)).2.1, (all hd bd (s.drop n)).2.2) := by
  obtain ⟨h1, h2, _⟩ := one_ok h0 h
  unfold all; rw [allF, h]
  dsimp only
  rw [allF_fuel h0 s.length ((s.drop n).length + 1) (s.drop n) (by rw [List.length_drop]; omega) (by omega)]
theorem all_ind {hd : Nat} {bd : Int} (h0 : 0 ≤ bd) {P : L8 → List Rq × L8 × Int → Prop} (hno : ∀ s e, one hd bd s = .error e → P s ([], s, e))
    (hyes : ∀ s q n, one hd bd s = .ok (q, n) → P (s.drop n) (all hd bd (s.drop n)) → P s (q :: (all hd bd (s.drop n)).1, (all hd bd (s.drop n)).2.1, (all hd bd (s.drop n)).2.2)) : ∀ s, P s (all hd bd s) := by
  have : ∀ (k : Nat) (s : L8), s.length < k → P s (all hd bd s) := by
    intro k
    induction k with
    | zero => intro s h; omega
    | succ k ih =>
      intro s h
      rcases hh : one hd bd s with e | ⟨q, n⟩
      · rw [all_no hh]; exact hno s e hh
      · obtain ⟨h1, h2, _⟩ := one_ok h0 hh
        rw [all_yes h0 hh]
        exact hyes s q n hh (ih _ (by rw [List.length_drop]; omega))
  exact fun s => this _ s (Nat.lt_succ_self _)
theorem all_errs {hd : Nat} {bd : Int} (h0 : 0 ≤ bd) (s : L8) : (all hd bd s).2.2 = 4 ∨ (all hd bd s).2.2 = 5 ∨ (all hd bd s).2.2 = 6 ∨ (all hd bd s).2.2 = 7 :=
  all_ind h0 (P := fun _ r => r.2.2 = 4 ∨ r.2.2 = 5 ∨ r.2.2 = 6 ∨ r.2.2 = 7) (fun _ _ h => one_errs h) (fun _ _ _ _ h => h) s
theorem all_len {hd : Nat} {bd : Int} (h0 : 0 ≤ bd) (s : L8) : (all hd bd s).2.1.length ≤ s.length :=
  all_ind h0 (P := fun s r => r.2.1.length ≤ s.length) (fun _ _ h => Nat.le_refl _) (fun s _ n _ h => by rw [List.length_drop] at h; dsimp only; omega) s
/-- more comes, and no error was there -/
theorem all_more {hd : Nat} {bd : Int} (h0 : 0 ≤ bd) (x : L8) (s : L8) : (all hd bd s).2.2 = 7 → all hd bd (s ++ x) = ((all hd bd s).1 ++ (all hd bd ((all hd bd s).2.1 ++ x)).1, (all hd bd ((all hd bd s).2.1 ++ x)).2.1, (all hd bd ((all hd bd s).2.1 ++ x)).2.2) := by
  refine all_ind h0 (P := fun s r => r.2.2 = 7 → all hd bd (s ++ x) = (r.1 ++ (all hd bd (r.2.1 ++ x)).1, (all hd bd (r.2.1 ++ x)).2.1, (all hd bd (r.2.1 ++ x)).2.2)) (fun s e h he => rfl) (fun s q n h ih he => ?_) s
  obtain ⟨h1, h2, _, h4, _⟩ := one_ok h0 h
  rw [all_yes h0 (h4 x), List.drop_append_of_le_length h2, ih he]
  rfl
/-- an error stays -/
theorem all_bad {hd : Nat} {bd : Int} (h0 : 0 ≤ bd) (x : L8) (s : L8) : (all hd bd s).2.2 ≠ 7 → (all hd bd (s ++ x)).1 = (all hd bd s).1 ∧ (all hd bd (s ++ x)).2.2 = (all hd bd s).2.2 := by
  refine all_ind h0 (P := fun s r => r.2.2 ≠ 7 → (all hd bd (s ++ x)).1 = r.1 ∧ (all hd bd (s ++ x)).2.2 = r.2.2) (fun s e h he => ?_) (fun s q n h ih he => ?_) s
  · rw [all_no (one_bad h he x)]; exact ⟨rfl, rfl⟩
  · obtain ⟨h1, h2, _, h4, _⟩ := one_ok h0 h
    rw [all_yes h0 (h4 x), List.drop_append_of_le_length h2]
    obtain ⟨a, b⟩ := ih he
    dsimp only
    rw [a, b]; exact ⟨rfl, rfl⟩
/-- the reader: its bytes that wait, by what it ended -/
def feed (hd bd ar : Int) (rest : L8) (over : Int) (s : L8) : (L8 × Int) × List Rq × Int :=
  if bnd hd bd ar ≠ 0 then ((rest, over), [], bnd hd bd ar)
  else if 65536 < rest.length ∨ 8192 < s.length then ((rest, over), [], 2)
  else if over ≠ 0 then ((rest, over), [], 8)
  else if (all hd.toNat bd (rest ++ s)).2.2 = 7 then (((all hd.toNat bd (rest ++ s)).2.1, 0), (all hd.toNat bd (rest ++ s)).1, 0)
  else (([], (all hd.toNat bd (rest ++ s)).2.2), (all hd.toNat bd (rest ++ s)).1, (all hd.toNat bd (rest ++ s)).2.2)
end On
end Go.Proofs.YtmgealcolofomaaDoor

namespace Go.Proofs.YtmgealcolofomaaDoor
set_option linter.unusedVariables false
set_option maxRecDepth 20000
namespace On
open Mh (Fl)
theorem he_at {l : L8} {j : Nat} (h : Lib.occAt l he j = true) : l[j]? = some 13 ∧ l[j + 1]? = some 10 ∧ l[j + 2]? = some 13 := by
  unfold Lib.occAt at h
  obtain ⟨r, hr⟩ := List.isPrefixOf_iff_prefix.1 h
  have h0 : (l.drop j)[0]? = some 13 := by rw [← hr]; rfl
  have h1 : (l.drop j)[1]? = some 10 := by rw [← hr]; rfl
  have h2 : (l.drop j)[2]? = some 13 := by rw [← hr]; rfl
  rw [List.getElem?_drop] at h0 h1 h2
  exact ⟨h0, h1, h2⟩
theorem no13 {x v : L8} (hx : (13 : UInt8) ∉ x) {j : Nat} (hj : j < x.length) : (x ++ v)[j]? ≠ some 13 := by
  rw [List.getElem?_append_left hj, List.getElem?_eq_getElem hj]
  intro e
  exact hx (Option.some.inj e ▸ List.getElem_mem hj)
/-- lines with bytes in them, and the end behind: no end ahead of it -/
theorem lines_end : ∀ (L : List L8) (v : L8), L ≠ [] → (∀ p ∈ L, (13 : UInt8) ∉ p) → (∀ p ∈ L, p ≠ []) → ∀ j, j < (Lib.join L Mh.crlf).length → Lib.occAt (Lib.join L Mh.crlf ++ he ++ v) he j = false
  | [x], v, _, h, hn, j, hj => by
    rw [Lib.join_one] at hj ⊢
    cases ho : Lib.occAt (x ++ he ++ v) he j
    · rfl
    · exfalso
      have := (he_at ho).1
      rw [List.append_assoc] at this
      exact no13 (h x (by simp)) hj this
  | x :: y :: r, v, _, h, hn, j, hj => by
    cases ho : Lib.occAt (Lib.join (x :: y :: r) Mh.crlf ++ he ++ v) he j
    · rfl
    · exfalso
      rw [Mh.join_two] at hj ho
      have e : x ++ Mh.crlf ++ Lib.join (y :: r) Mh.crlf ++ he ++ v = x ++ (Mh.crlf ++ (Lib.join (y :: r) Mh.crlf ++ he ++ v)) := by simp only [List.append_assoc]
      rw [e] at ho
      obtain ⟨a0, a1, a2⟩ := he_at ho
      have ih := lines_end (y :: r) v (by simp) (fun p hp => h p (List.mem_cons_of_mem _ hp)) (fun p hp => hn p (List.mem_cons_of_mem _ hp))
      obtain ⟨z, hz⟩ : ∃ z, Lib.join (y :: r) Mh.crlf = z := ⟨_, rfl⟩
      have hz0 : z[0]? ≠ some 13 ∧ z ≠ [] := by
        have hy := hn y (by simp)
        have h13 := h y (by simp)
        obtain ⟨c, t, rfl⟩ := List.exists_cons_of_ne_nil hy
        have hc : c ≠ 13 := fun e => h13 (by simp [e])
        have : ∃ t', z = c :: t' := by
          cases r with
          | nil => rw [Lib.join_one] at hz; exact ⟨t, hz.symm⟩
          | cons y2 r => rw [Mh.join_two] at hz; exact ⟨_, hz.symm⟩
        obtain ⟨t', rfl⟩ := this
        exact ⟨by simp [hc], by simp⟩
      rw [hz] at hj a0 a1 a2 ih ho
      rcases Nat.lt_trichotomy j x.length with hlt | heq | hgt
      · exact no13 (h x (by simp)) hlt a0
      · rw [List.getElem?_append_right (by omega), show j + 2 - x.length = 2 by omega] at a2
        have hp := List.length_pos_iff.2 hz0.2
        have : (Mh.crlf ++ (z ++ he ++ v))[2]? = z[0]? := by
          rw [List.getElem?_append_right (by show 2 ≤ 2; omega), List.append_assoc, List.getElem?_append_left (by show 2 - 2 < _; omega)]; rfl
        rw [this] at a2
        exact hz0.1 a2
      · by_cases h1 : j = x.length + 1
        · rw [List.getElem?_append_right (by omega), show j - x.length = 1 by omega] at a0
          have : (Mh.crlf ++ (z ++ he ++ v))[1]? = some 10 := rfl
          rw [this] at a0
          exact absurd a0 (by decide)
        · have hl : (x ++ Mh.crlf).length = x.length + 2 := by rw [List.length_append]; rfl
          have hk : Lib.occAt (z ++ he ++ v) he (j - (x.length + 2)) = true := by
            have ho2 := ho
            rw [← List.append_assoc] at ho2
            unfold Lib.occAt at ho2 ⊢
            have : (x ++ Mh.crlf ++ (z ++ he ++ v)).drop j = (z ++ he ++ v).drop (j - (x.length + 2)) := by
              rw [List.drop_append, hl, List.drop_eq_nil_iff.2 (by omega), List.nil_append]
            rw [this] at ho2
            exact ho2
          rw [List.length_append, hl] at hj
          rw [ih _ (by omega)] at hk; cases hk
theorem lines_ne {m t : L8} {fs : List Fl} : ∀ p ∈ Mh.lines m t fs, p ≠ [] := by
  intro p hp e
  unfold Mh.lines at hp
  rcases List.mem_cons.1 hp with h | h
  · rw [h] at e
    have := congrArg List.length e
    simp [Mh.line0] at this
  · obtain ⟨f, _, rfl⟩ := List.mem_map.1 h
    have := congrArg List.length e
    simp [Mh.lineOf] at this
/-- a head's text, whatever stands behind -/
theorem text_end {m t : L8} {fs : List Fl} (h : Mh.check m t fs = 0) {hd : Nat} (hl : (Mh.text m t fs).length ≤ hd) (v : L8) : ∃ i : Nat, endAt hd (Mh.text m t fs ++ v) = i ∧ i + 4 = (Mh.text m t fs).length := by
  have hp := Mh.lines_plain h
  have he4 : Mh.crlf ++ Mh.crlf = he := rfl
  have ht : Mh.text m t fs = Lib.join (Mh.lines m t fs) Mh.crlf ++ he := rfl
  have hlen : (Mh.text m t fs).length = (Lib.join (Mh.lines m t fs) Mh.crlf).length + 4 := by rw [ht, List.length_append]; rfl
  refine ⟨(Lib.join (Mh.lines m t fs) Mh.crlf).length, ?_, hlen.symm⟩
  refine end_at (by omega) ?_ (fun j hj => ?_)
  · rw [ht]
    unfold Lib.occAt
    rw [List.append_assoc, List.drop_left, List.isPrefixOf_iff_prefix]
    exact List.prefix_append _ _
  · rw [ht]
    exact lines_end _ v (by simp [Mh.lines]) (fun p hm => Mh.broken_mem (hp p hm)) lines_ne j hj
/-- a head and a body behind it are read as they were -/
theorem one_text {m t b : L8} {fs : List Fl} {k sz : Int} (h : Mh.check m t fs = 0) {hd : Nat} {bd : Int} (hl : (Mh.text m t fs).length ≤ hd) (h4 : hd ≤ 4096) (hz : Cu.sizeOf fs = (k, sz, 0)) (u more : L8)
    (hb : body bd (u ++ more) k sz = .ok (b, u.length)) : one hd bd (Mh.text m t fs ++ u ++ more) = .ok ((m, t, fs, b), (Mh.text m t fs ++ u).length) := by
  obtain ⟨i, h1, h2⟩ := text_end h hl (u ++ more)
  rw [List.append_assoc]
  have hp : headP hd (Mh.text m t fs ++ (u ++ more)) = .ok ((m, t, fs), (k, sz), i + 4) := by
    refine headP_mk h1 ?_ hz
    rw [h2, List.take_left, Mh.parse_text h, if_neg (by omega)]
  unfold one
  rw [hp]
  dsimp only
  rw [h2, List.drop_left, hb]
  dsimp only
  rw [List.length_append]
theorem body_none {bd sz : Int} {more : L8} : body bd ([] ++ more) 1 sz = .ok ([], ([] : L8).length) := rfl
theorem body_len {bd : Int} {b more : L8} (h : (b.length : Int) ≤ bd) : body bd (b ++ more) 2 b.length = .ok (b, b.length) := by
  unfold body
  rw [if_pos rfl, if_neg (by omega), if_neg (by simp; omega), Int.toNat_natCast, List.take_left]
theorem body_chunks {bd sz : Int} {b more : L8} (zs : List Int) (h : (b.length : Int) ≤ bd) (hb : b.length < 268435456) : body bd (Cu.chunked zs b ++ more) 3 sz = .ok (b, (Cu.chunked zs b).length) := by
  unfold body
  rw [if_neg (by decide), if_pos rfl]
  have := (Cu.chunks_cuts (Cu.chunks_back zs b [] hb)).2.2.1 bd more h
  rwa [List.append_nil] at this
end On
end Go.Proofs.YtmgealcolofomaaDoor
