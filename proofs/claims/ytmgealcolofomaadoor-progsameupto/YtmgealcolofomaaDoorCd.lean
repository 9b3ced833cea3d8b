/- Plain facts on codes: no program is read here. -/
import Derived.WalkKit
import Derived.Test.YtmgealcolofomaaDoorQt
namespace Go.Proofs.YtmgealcolofomaaDoor
namespace Cd

/-- a digit of base 16, capital letters -/
def hX (n : UInt8) : UInt8 := if n < 10 then 48 + n else 55 + n
def unres (c : UInt8) : Bool := (97 ≤ c && c ≤ 122) || (65 ≤ c && c ≤ 90) || (48 ≤ c && c ≤ 57) || c == 45 || c == 46 || c == 95 || c == 126
/-- how a byte stands in a query -/
def u1 (c : UInt8) : List UInt8 := if unres c then [c] else if c = 32 then [43] else [37, hX (c / 16), hX (c % 16)]
/-- a byte as two digits -/
def h1 (c : UInt8) : List UInt8 := [Qt.hx (c / 16), Qt.hx (c % 16)]
/-- the value of a digit of base 16, small or capital letters -/
def dv (c : UInt8) : Option UInt8 := if 48 ≤ c && c ≤ 57 then some (c - 48) else if 97 ≤ c && c ≤ 102 then some (c - 87) else if 65 ≤ c && c ≤ 70 then some (c - 55) else none
def urlEnc (l : List UInt8) : List UInt8 := l.flatMap u1
def hexEnc (l : List UInt8) : List UInt8 := l.flatMap h1

/-- from the left, sign by sign -/
def scan (st : List UInt8 → UInt8 × Nat) (l : List UInt8) : List UInt8 :=
  if _h : l = [] then [] else (st l).1 :: scan st (l.drop (max 1 (st l).2))
termination_by l.length
decreasing_by
  have : 0 < l.length := List.length_pos_iff.2 ‹_›
  rw [List.length_drop]; omega
theorem scan_nil (st : List UInt8 → UInt8 × Nat) : scan st [] = [] := by rw [scan]; simp
theorem scan_step {st : List UInt8 → UInt8 × Nat} {l : List UInt8} {c : UInt8} {k : Nat} (h : l ≠ []) (hs : st l = (c, k)) (hk : 1 ≤ k) : scan st l = c :: scan st (l.drop k) := by
  rw [scan, dif_neg h, hs]; simp only; rw [Nat.max_eq_right hk]
theorem scan_len (st : List UInt8 → UInt8 × Nat) : ∀ (n : Nat) (l : List UInt8), l.length ≤ n → (scan st l).length ≤ l.length := by
  intro n
  induction n with
  | zero => intro l hl; have : l = [] := List.length_eq_zero_iff.1 (by omega); subst this; rw [scan_nil]; simp
  | succ n ih =>
    intro l hl
    by_cases h : l = []
    · subst h; rw [scan_nil]; simp
    · rw [scan, dif_neg h]
      have hp : 0 < l.length := List.length_pos_iff.2 h
      have := ih (l.drop (max 1 (st l).2)) (by rw [List.length_drop]; omega)
      rw [List.length_drop] at this
      simp only [List.length_cons]; omega

/-- the sign with which a piece of a query begins -/
def us : List UInt8 → UInt8 × Nat
  | [] => (0, 1)
  | a :: r => if a = 43 then (32, 1) else if a = 37 then (match r with
      | x :: y :: _ => match dv x, dv y with
        | some p, some q => (p * 16 + q, 3)
        | _, _ => (37, 1)
      | _ => (37, 1)) else (a, 1)
def urlDec (l : List UInt8) : List UInt8 := scan us l

def hexDec : List UInt8 → Option (List UInt8)
  | [] => some []
  | [_] => none
  | x :: y :: r => match dv x, dv y with
    | some p, some q => (hexDec r).map (fun t => (p * 16 + q) :: t)
    | _, _ => none

theorem dv_hx (c : UInt8) : dv (Qt.hx (c / 16)) = some (c / 16) ∧ dv (Qt.hx (c % 16)) = some (c % 16) ∧ c / 16 * 16 + c % 16 = c := by
  have := Qt.all_u8 (p := fun c => dv (Qt.hx (c / 16)) == some (c / 16) && dv (Qt.hx (c % 16)) == some (c % 16) && c / 16 * 16 + c % 16 == c) (by decide +kernel) c
  simpa [Bool.and_eq_true, and_assoc] using this
theorem dv_hX (c : UInt8) : dv (hX (c / 16)) = some (c / 16) ∧ dv (hX (c % 16)) = some (c % 16) ∧ c / 16 * 16 + c % 16 = c := by
  have := Qt.all_u8 (p := fun c => dv (hX (c / 16)) == some (c / 16) && dv (hX (c % 16)) == some (c % 16) && c / 16 * 16 + c % 16 == c) (by decide +kernel) c
  simpa [Bool.and_eq_true, and_assoc] using this
theorem unres_self (c : UInt8) (h : unres c = true) : c ≠ 43 ∧ c ≠ 37 := by
  have := Qt.all_u8 (p := fun c => !unres c || (c != 43 && c != 37)) (by decide +kernel) c
  simpa [h] using this
theorem us_u1 (c : UInt8) (r : List UInt8) : us (u1 c ++ r) = (c, (u1 c).length) := by
  unfold u1
  split
  · rename_i h; obtain ⟨a, b⟩ := unres_self c h; simp [us, a, b]
  split
  · rename_i h; subst h; rfl
  · obtain ⟨a, b, d⟩ := dv_hX c
    simp [us, a, b, d]
theorem u1_ne (c : UInt8) : 1 ≤ (u1 c).length ∧ (u1 c).length ≤ 3 := by
  unfold u1; split
  · simp
  split
  · simp
  · simp
theorem url_back_app (l r : List UInt8) : scan us (l.flatMap u1 ++ r) = l ++ scan us r := by
  induction l with
  | nil => rfl
  | cons c t ih =>
    rw [List.flatMap_cons, List.append_assoc, scan_step (by intro e; have h1 := u1_ne c; have h2 := congrArg List.length e; rw [List.length_append, List.length_nil] at h2; omega) (us_u1 c _) (u1_ne c).1, List.drop_left, ih]; rfl
theorem url_back (l : List UInt8) : urlDec (urlEnc l) = l := by
  have := url_back_app l []
  simpa [urlDec, urlEnc, scan_nil] using this
theorem hex_back_app (l r : List UInt8) : hexDec (l.flatMap h1 ++ r) = (hexDec r).map (l ++ ·) := by
  induction l with
  | nil => simp
  | cons c t ih =>
    obtain ⟨a, b, d⟩ := dv_hx c
    rw [List.flatMap_cons]
    show hexDec (Qt.hx (c / 16) :: Qt.hx (c % 16) :: (t.flatMap h1 ++ r)) = _
    rw [hexDec, a, b]
    simp only
    rw [d, ih]; cases hexDec r <;> simp
theorem hex_back (l : List UInt8) : hexDec (hexEnc l) = some l := by
  have := hex_back_app l []
  simpa [hexEnc, hexDec] using this

def lo8 (c : UInt8) : UInt8 := if 65 ≤ c ∧ c ≤ 90 then c + 32 else c
theorem hx_dv (x y p q : UInt8) (hx : dv x = some p) (hy : dv y = some q) : Qt.hx ((p * 16 + q) / 16) = lo8 x ∧ Qt.hx ((p * 16 + q) % 16) = lo8 y := by
  have f : ∀ x, match dv x with | none => True | some p => p.toNat < 16 ∧ Qt.hx p = lo8 x := by
    intro x
    have := Qt.all_u8 (p := fun x => match dv x with | none => true | some p => decide (p.toNat < 16) && Qt.hx p == lo8 x) (by decide +kernel) x
    cases h : dv x <;> simp_all
  have fx := f x; have fy := f y
  rw [hx] at fx; rw [hy] at fy
  simp only at fx fy
  have g : ∀ a b : Fin 16, (UInt8.ofNat a.1 * 16 + UInt8.ofNat b.1) / 16 = UInt8.ofNat a.1 ∧ (UInt8.ofNat a.1 * 16 + UInt8.ofNat b.1) % 16 = UInt8.ofNat b.1 := by decide +kernel
  have := g ⟨p.toNat, fx.1⟩ ⟨q.toNat, fy.1⟩
  simp only [UInt8.ofNat_toNat] at this
  rw [this.1, this.2]; exact ⟨fx.2, fy.2⟩
theorem hex_one : ∀ (n : Nat) (l m : List UInt8), l.length ≤ n → hexDec l = some m → hexEnc m = l.map lo8 := by
  intro n
  induction n with
  | zero => intro l m hl h; have : l = [] := List.length_eq_zero_iff.1 (by omega); subst this; simp [hexDec] at h; subst h; rfl
  | succ n ih =>
    intro l m hl h
    match l, h with
    | [], h => simp [hexDec] at h; subst h; rfl
    | [_], h => simp [hexDec] at h
    | x :: y :: r, h =>
      rw [hexDec] at h
      cases hx : dv x with
      | none => simp [hx] at h
      | some p =>
        cases hy : dv y with
        | none => simp [hx, hy] at h
        | some q =>
          rw [hx, hy] at h
          simp only [Option.map_eq_some_iff] at h
          obtain ⟨t, ht, rfl⟩ := h
          have := ih r t (by simp at hl; omega) ht
          obtain ⟨e1, e2⟩ := hx_dv x y p q hx hy
          show h1 (p * 16 + q) ++ hexEnc t = _
          rw [this]
          simp [h1, e1, e2]
theorem hexEnc_len (l : List UInt8) : (hexEnc l).length = 2 * l.length := by
  induction l with
  | nil => rfl
  | cons c t ih => unfold hexEnc at *; rw [List.flatMap_cons, List.length_append, ih]; simp [h1]; omega
theorem urlEnc_len (l : List UInt8) : (urlEnc l).length ≤ 3 * l.length := by
  induction l with
  | nil => simp [urlEnc]
  | cons c t ih => unfold urlEnc at *; rw [List.flatMap_cons, List.length_append]; have := u1_ne c; rw [List.length_cons]; omega
theorem hexDec_len : ∀ (n : Nat) (l m : List UInt8), l.length ≤ n → hexDec l = some m → m.length * 2 = l.length := by
  intro n l m hl h
  have := congrArg List.length (hex_one n l m hl h)
  rw [hexEnc_len, List.length_map] at this; omega
/-- bytes between 33 and 126 -/
def plain (c : UInt8) : Bool := 33 ≤ c && c ≤ 126
theorem u1_plain (c : UInt8) : (u1 c).all plain = true := by
  have := Qt.all_u8 (p := fun c => (u1 c).all plain) (by decide +kernel) c
  exact this
theorem h1_plain (c : UInt8) : (h1 c).all plain = true := by
  have := Qt.all_u8 (p := fun c => (h1 c).all plain) (by decide +kernel) c
  exact this
theorem url_plain (l : List UInt8) : (urlEnc l).all plain = true := by
  rw [List.all_eq_true]; intro x hx
  rw [urlEnc, List.mem_flatMap] at hx
  obtain ⟨c, _, h⟩ := hx
  exact List.all_eq_true.1 (u1_plain c) x h
theorem hex_plain (l : List UInt8) : (hexEnc l).all plain = true := by
  rw [List.all_eq_true]; intro x hx
  rw [hexEnc, List.mem_flatMap] at hx
  obtain ⟨c, _, h⟩ := hx
  exact List.all_eq_true.1 (h1_plain c) x h
/-- a sign that no other can stand across: decoded piece by piece -/
theorem us_stop (r t : List UInt8) (a : UInt8) (h : 4 ≤ (a :: r).length ∨ ∃ u, (a :: r) = u ++ [46]) : us (a :: r ++ t) = us (a :: r) ∧ (us (a :: r)).2 ≤ (a :: r).length := by
  by_cases h43 : a = 43
  · subst h43; simp [us]
  by_cases h37 : a = 37
  · subst h37
    match r, h with
    | [], h =>
      exfalso
      rcases h with h | ⟨u, hu⟩
      · simp at h
      · have := congrArg List.getLast? hu; simp at this
    | [x], h =>
      have hx : x = 46 := by
        rcases h with h | ⟨u, hu⟩
        · simp at h
        · have := congrArg List.getLast? hu; simpa using this
      subst hx
      have : dv 46 = none := by decide
      cases t <;> simp [us, this]
    | x :: y :: r', h =>
      simp only [List.cons_append, us, h43]
      cases dv x <;> cases dv y <;> simp
  · simp [us, h43, h37]
theorem url_joins : ∀ (n : Nat) (l t : List UInt8), l.length ≤ n → (l = [] ∨ ∃ u, l = u ++ [46]) → scan us (l ++ t) = scan us l ++ scan us t := by
  intro n
  induction n with
  | zero => intro l t hl _; have : l = [] := List.length_eq_zero_iff.1 (by omega); subst this; rw [scan_nil]; rfl
  | succ n ih =>
    intro l t hl h
    match l, h with
    | [], _ => rw [scan_nil]; rfl
    | a :: r, h =>
      rcases h with h | h
      · cases h
      obtain ⟨e1, e2⟩ := us_stop r t a (.inr h)
      have hk : 1 ≤ (us (a :: r)).2 := by
        unfold us; repeat' split
        all_goals simp_all
      obtain ⟨c, k⟩ : UInt8 × Nat := us (a :: r)
      rcases hu : us (a :: r) with ⟨c, k⟩
      rw [hu] at e1 e2 hk
      simp only at e2 hk
      rw [scan_step (by simp) e1 hk, scan_step (l := a :: r) (by simp) hu hk, List.drop_append_of_le_length e2, ih ((a :: r).drop k) t (by rw [List.length_drop]; simp at hl ⊢; omega)]
      · rfl
      · obtain ⟨u, hu'⟩ := h
        rw [hu']
        by_cases hk2 : k ≤ u.length
        · right; exact ⟨u.drop k, by rw [List.drop_append_of_le_length hk2]⟩
        · left; rw [List.drop_eq_nil_iff]; simp; omega
theorem urlEnc_app (a b : List UInt8) : urlEnc (a ++ b) = urlEnc a ++ urlEnc b := by unfold urlEnc; rw [List.flatMap_append]
theorem hexEnc_app (a b : List UInt8) : hexEnc (a ++ b) = hexEnc a ++ hexEnc b := by unfold hexEnc; rw [List.flatMap_append]
end Cd
end Go.Proofs.YtmgealcolofomaaDoor
