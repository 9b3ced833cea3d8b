/- Plain facts on base 64: no program is read here. -/
import Derived.WalkKit
import Derived.Test.YtkhbfdokkmebhaaGreatDoorCd
namespace Go.Proofs.YtkhbfdokkmebhaaGreatDoor
namespace C6

/-- the signs -/
def sg (n : Nat) : UInt8 := UInt8.ofNat (if n < 26 then 65 + n else if n < 52 then 71 + n else if n < 62 then n - 4 else if n = 62 then 43 else 47)
def sv (c : UInt8) : Option Nat :=
  if 65 ≤ c ∧ c ≤ 90 then some (c.toNat - 65) else if 97 ≤ c ∧ c ≤ 122 then some (c.toNat - 71) else if 48 ≤ c ∧ c ≤ 57 then some (c.toNat + 4) else if c = 43 then some 62 else if c = 47 then some 63 else none
theorem sv_sg (n : Nat) (h : n < 64) : sv (sg n) = some n := by
  have : ∀ n : Fin 64, sv (sg n.1) = some n.1 := by decide +kernel
  exact this ⟨n, h⟩
theorem sg_sv (c : UInt8) (n : Nat) (h : sv c = some n) : sg n = c ∧ n < 64 := by
  have := Qt.all_u8 (p := fun c => match sv c with | none => true | some n => sg n == c && decide (n < 64)) (by decide +kernel) c
  simp only [h, Bool.and_eq_true, beq_iff_eq, decide_eq_true_eq] at this
  exact this
theorem sv61 : sv 61 = none := by decide
theorem sg61 (n : Nat) (h : n < 64) : sg n ≠ 61 := by
  intro e; have := sv_sg n h; rw [e, sv61] at this; cases this

def enc64 : List UInt8 → List UInt8
  | [] => []
  | [a] => [sg (a.toNat / 4), sg (a.toNat % 4 * 16), 61, 61]
  | [a, b] => [sg (a.toNat / 4), sg (a.toNat % 4 * 16 + b.toNat / 16), sg (b.toNat % 16 * 4), 61]
  | a :: b :: c :: r => sg (a.toNat / 4) :: sg (a.toNat % 4 * 16 + b.toNat / 16) :: sg (b.toNat % 16 * 4 + c.toNat / 64) :: sg (c.toNat % 64) :: enc64 r

/-- a round of reading: what has been read, bits left over, how many -/
def fs (x : List UInt8 × Nat × Nat) (v : Nat) : List UInt8 × Nat × Nat :=
  if 8 ≤ x.2.2 + 6 then (x.1 ++ [UInt8.ofNat ((x.2.1 * 64 + v) / 2 ^ (x.2.2 + 6 - 8))], (x.2.1 * 64 + v) % 2 ^ (x.2.2 + 6 - 8), x.2.2 + 6 - 8) else (x.1, x.2.1 * 64 + v, x.2.2 + 6)
def fd : List UInt8 → List UInt8 × Nat × Nat → Option (List UInt8 × Nat × Nat)
  | [], x => some x
  | c :: r, x => match sv c with
    | none => none
    | some v => fd r (fs x v)
def trim1 (l : List UInt8) : List UInt8 := if l.getLast? = some 61 then l.dropLast else l
def fin (x : Option (List UInt8 × Nat × Nat)) : Option (List UInt8) := match x with
  | none => none
  | some (o, b, _) => if b = 0 then some o else none
def dec64 (l : List UInt8) : Option (List UInt8) := if l.length % 4 = 0 then fin (fd (trim1 (trim1 l)) ([], 0, 0)) else none

theorem fs_pre (p o : List UInt8) (b h v : Nat) : fs (p ++ o, b, h) v = (p ++ (fs (o, b, h) v).1, (fs (o, b, h) v).2) := by
  unfold fs; simp only; split <;> simp
theorem fd_pre : ∀ (l p o : List UInt8) (b h : Nat), fd l (p ++ o, b, h) = (fd l (o, b, h)).map (fun x => (p ++ x.1, x.2)) := by
  intro l
  induction l with
  | nil => intro p o b h; rfl
  | cons c r ih =>
    intro p o b h
    rw [fd, fd]
    cases sv c with
    | none => rfl
    | some v =>
      simp only
      rw [fs_pre, ih]
theorem fin_pre (p : List UInt8) (x : Option (List UInt8 × Nat × Nat)) : fin (x.map (fun x => (p ++ x.1, x.2))) = (fin x).map (p ++ ·) := by
  cases x with
  | none => rfl
  | some x => obtain ⟨o, b, h⟩ := x; simp only [fin, Option.map_some]; split <;> simp
/-- three bytes of four signs -/
def b3 (a b c d : Nat) : List UInt8 := [UInt8.ofNat (a * 4 + b / 16), UInt8.ofNat (b % 16 * 16 + c / 4), UInt8.ofNat (c % 4 * 64 + d)]
theorem fs1 (o : List UInt8) (v : Nat) : fs (o, 0, 0) v = (o, v, 6) := by simp [fs]
theorem fs2 (o : List UInt8) (b v : Nat) : fs (o, b, 6) v = (o ++ [UInt8.ofNat (b * 4 + v / 16)], v % 16, 4) := by
  simp only [fs]; rw [if_pos (by omega)]
  rw [show (b * 64 + v) / 2 ^ (6 + 6 - 8) = b * 4 + v / 16 from by show (b * 64 + v) / 16 = _; omega, show (b * 64 + v) % 2 ^ (6 + 6 - 8) = v % 16 from by show (b * 64 + v) % 16 = _; omega]
theorem fs3 (o : List UInt8) (b v : Nat) : fs (o, b, 4) v = (o ++ [UInt8.ofNat (b * 16 + v / 4)], v % 4, 2) := by
  simp only [fs]; rw [if_pos (by omega)]
  rw [show (b * 64 + v) / 2 ^ (4 + 6 - 8) = b * 16 + v / 4 from by show (b * 64 + v) / 4 = _; omega, show (b * 64 + v) % 2 ^ (4 + 6 - 8) = v % 4 from by show (b * 64 + v) % 4 = _; omega]
theorem fs4 (o : List UInt8) (b v : Nat) : fs (o, b, 2) v = (o ++ [UInt8.ofNat (b * 64 + v)], 0, 0) := by
  simp only [fs]; rw [if_pos (by omega)]
  rw [show (b * 64 + v) / 2 ^ (2 + 6 - 8) = b * 64 + v from by show (b * 64 + v) / 1 = _; omega, show (b * 64 + v) % 2 ^ (2 + 6 - 8) = 0 from by show (b * 64 + v) % 1 = _; omega]
theorem fd_four (a b c d : UInt8) (r : List UInt8) : fd (a :: b :: c :: d :: r) ([], 0, 0) = match sv a, sv b, sv c, sv d with
    | some p, some q, some s, some t => (fd r ([], 0, 0)).map (fun x => (b3 p q s t ++ x.1, x.2))
    | _, _, _, _ => none := by
  rw [fd]
  cases sv a with
  | none => rfl
  | some p =>
    simp only; rw [fs1, fd]
    cases sv b with
    | none => rfl
    | some q =>
      simp only; rw [fs2, fd]
      cases sv c with
      | none => rfl
      | some s =>
        simp only; rw [fs3, fd]
        cases sv d with
        | none => rfl
        | some t =>
          simp only; rw [fs4]
          have := fd_pre r (b3 p q s t) [] 0 0
          rw [← this]; simp [b3]
theorem trim1_app (g l : List UInt8) (h : l ≠ []) : trim1 (g ++ l) = g ++ trim1 l := by
  unfold trim1
  rw [show (g ++ l).getLast? = l.getLast? from by rw [List.getLast?_append, List.getLast?_eq_some_getLast h]; rfl]
  split
  · rw [List.dropLast_append_of_ne_nil h]
  · rfl
theorem trim1_ne (l : List UInt8) (h : 2 ≤ l.length) : trim1 l ≠ [] := by
  unfold trim1
  intro e
  split at e
  · have := congrArg List.length e; rw [List.length_dropLast, List.length_nil] at this; omega
  · subst e; simp at h
theorem trim2_app (g l : List UInt8) (h : 2 ≤ l.length) : trim1 (trim1 (g ++ l)) = g ++ trim1 (trim1 l) := by
  rw [trim1_app g l (by intro e; subst e; simp at h), trim1_app g _ (trim1_ne l h)]
theorem dec_four (a b c d : UInt8) (r : List UInt8) (h : 2 ≤ r.length) : dec64 (a :: b :: c :: d :: r) = match sv a, sv b, sv c, sv d with
    | some p, some q, some s, some t => (dec64 r).map (b3 p q s t ++ ·)
    | _, _, _, _ => none := by
  unfold dec64
  rw [show (a :: b :: c :: d :: r).length % 4 = r.length % 4 from by simp; omega]
  by_cases h4 : r.length % 4 = 0
  · rw [if_pos h4, show a :: b :: c :: d :: r = [a, b, c, d] ++ r from rfl, trim2_app _ r h]
    show fin (fd (a :: b :: c :: d :: trim1 (trim1 r)) ([], 0, 0)) = _
    rw [fd_four]
    cases sv a with
    | none => rfl
    | some p => cases sv b with
      | none => rfl
      | some q => cases sv c with
        | none => rfl
        | some s => cases sv d with
          | none => rfl
          | some t => simp only; rw [fin_pre, if_pos h4]
  · rw [if_neg h4, if_neg h4]
    cases sv a <;> cases sv b <;> cases sv c <;> cases sv d <;> rfl
/-- the last four signs -/
theorem dec_last (a b c d : UInt8) : dec64 [a, b, c, d] =
    if d = 61 then (if c = 61 then (match sv a, sv b with | some p, some q => if q % 16 = 0 then some [UInt8.ofNat (p * 4 + q / 16)] else none | _, _ => none)
      else match sv a, sv b, sv c with | some p, some q, some s => if s % 4 = 0 then some [UInt8.ofNat (p * 4 + q / 16), UInt8.ofNat (q % 16 * 16 + s / 4)] else none | _, _, _ => none)
    else match sv a, sv b, sv c, sv d with | some p, some q, some s, some t => some (b3 p q s t) | _, _, _, _ => none := by
  unfold dec64
  rw [if_pos (by simp)]
  by_cases hd : d = 61
  · subst hd
    rw [if_pos rfl]
    by_cases hc : c = 61
    · subst hc
      rw [if_pos rfl, show trim1 (trim1 [a, b, 61, 61]) = [a, b] from rfl]
      simp only [fd]
      cases sv a with
      | none => rfl
      | some p =>
        simp only [fs1]
        cases sv b with
        | none => rfl
        | some q => simp only [fs2, fin]; simp
    · rw [if_neg hc, show trim1 (trim1 [a, b, c, 61]) = [a, b, c] from by
        show trim1 [a, b, c] = _
        unfold trim1; rw [if_neg (by simpa using hc)]]
      simp only [fd]
      cases sv a with
      | none => rfl
      | some p =>
        simp only [fs1]
        cases sv b with
        | none => rfl
        | some q =>
          simp only [fs2]
          cases sv c with
          | none => rfl
          | some s => simp only [fs3, fin]; simp
  · rw [if_neg hd, show trim1 (trim1 [a, b, c, d]) = [a, b, c, d] from by
      have : trim1 [a, b, c, d] = [a, b, c, d] := by unfold trim1; rw [if_neg (by simpa using hd)]
      rw [this, this], fd_four]
    cases sv a with
    | none => rfl
    | some p => cases sv b with
      | none => rfl
      | some q => cases sv c with
        | none => rfl
        | some s => cases sv d with
          | none => rfl
          | some t => simp [fd, fin]
theorem dec_nil : dec64 [] = some [] := rfl
theorem dec_odd (l : List UInt8) (h : l.length % 4 ≠ 0) : dec64 l = none := by unfold dec64; rw [if_neg h]

theorem nat8 (a : UInt8) : a.toNat < 256 := a.toNat_lt
theorem of8 (n : Nat) (a : UInt8) (h : n = a.toNat) : UInt8.ofNat n = a := by rw [h]; simp
theorem enc_len : ∀ l : List UInt8, (enc64 l).length = (l.length + 2) / 3 * 4 := by
  intro l
  induction l using enc64.induct with
  | case1 => rfl
  | case2 a => simp [enc64]
  | case3 a b => simp [enc64]
  | case4 a b c r ih => simp only [enc64, List.length_cons, ih]; omega
theorem enc_ne (l : List UInt8) (h : l ≠ []) : 4 ≤ (enc64 l).length := by
  rw [enc_len]; have := List.length_pos_iff.2 h; omega
/-- what is encoded is decoded as it was -/
theorem dec_enc : ∀ l : List UInt8, dec64 (enc64 l) = some l := by
  intro l
  induction l using enc64.induct with
  | case1 => rfl
  | case2 a =>
    have ha := nat8 a
    rw [enc64, dec_last, if_pos rfl, if_pos rfl, sv_sg _ (by omega), sv_sg _ (by omega)]
    simp only
    rw [if_pos (by omega), of8 _ a (by omega)]
  | case3 a b =>
    have ha := nat8 a; have hb := nat8 b
    rw [enc64, dec_last, if_pos rfl, if_neg (sg61 _ (by omega)), sv_sg _ (by omega), sv_sg _ (by omega), sv_sg _ (by omega)]
    simp only
    rw [if_pos (by omega), of8 _ a (by omega), of8 _ b (by omega)]
  | case4 a b c r ih =>
    have ha := nat8 a; have hb := nat8 b; have hc := nat8 c
    have e : b3 (a.toNat / 4) (a.toNat % 4 * 16 + b.toNat / 16) (b.toNat % 16 * 4 + c.toNat / 64) (c.toNat % 64) = [a, b, c] := by
      unfold b3
      rw [of8 _ a (by omega), of8 _ b (by omega), of8 _ c (by omega)]
    rw [enc64]
    by_cases hr : r = []
    · subst hr
      rw [enc64, dec_last, if_neg (sg61 _ (by omega)), sv_sg _ (by omega), sv_sg _ (by omega), sv_sg _ (by omega), sv_sg _ (by omega)]
      simp only
      rw [e]
    · rw [dec_four _ _ _ _ _ (by have := enc_ne r hr; omega), sv_sg _ (by omega), sv_sg _ (by omega), sv_sg _ (by omega), sv_sg _ (by omega), ih]
      simp only
      rw [e]; rfl
/-- three bytes, as four signs -/
theorem enc_b3 (a b c d : UInt8) (p q s t : Nat) (m : List UInt8) (ha : sv a = some p) (hb : sv b = some q) (hc : sv c = some s) (hd : sv d = some t) : enc64 (b3 p q s t ++ m) = a :: b :: c :: d :: enc64 m := by
  obtain ⟨a1, a2⟩ := sg_sv a p ha; obtain ⟨b1, b2⟩ := sg_sv b q hb; obtain ⟨c1, c2⟩ := sg_sv c s hc; obtain ⟨d1, d2⟩ := sg_sv d t hd
  unfold b3
  show enc64 (_ :: _ :: _ :: m) = _
  rw [enc64]
  simp only [UInt8.toNat_ofNat']
  rw [show (p * 4 + q / 16) % 2 ^ 8 / 4 = p from by omega, show (p * 4 + q / 16) % 2 ^ 8 % 4 * 16 + (q % 16 * 16 + s / 4) % 2 ^ 8 / 16 = q from by omega,
    show (q % 16 * 16 + s / 4) % 2 ^ 8 % 16 * 4 + (s % 4 * 64 + t) % 2 ^ 8 / 64 = s from by omega, show (s % 4 * 64 + t) % 2 ^ 8 % 64 = t from by omega, a1, b1, c1, d1]
/-- what is decoded is the code of just that -/
theorem enc_dec : ∀ (n : Nat) (l m : List UInt8), l.length ≤ n → dec64 l = some m → enc64 m = l := by
  intro n
  induction n with
  | zero =>
    intro l m hl h
    have : l = [] := List.length_eq_zero_iff.1 (by omega)
    subst this; rw [dec_nil] at h; cases h; rfl
  | succ n ih =>
    intro l m hl h
    match l, h with
    | [], h => rw [dec_nil] at h; cases h; rfl
    | [_], h => rw [dec_odd _ (by simp)] at h; cases h
    | [_, _], h => rw [dec_odd _ (by simp)] at h; cases h
    | [_, _, _], h => rw [dec_odd _ (by simp)] at h; cases h
    | [a, b, c, d], h =>
      rw [dec_last] at h
      by_cases hd : d = 61
      · subst hd
        rw [if_pos rfl] at h
        by_cases hc : c = 61
        · subst hc
          rw [if_pos rfl] at h
          cases ha : sv a with
          | none => simp [ha] at h
          | some p =>
            cases hb : sv b with
            | none => simp [ha, hb] at h
            | some q =>
              simp only [ha, hb] at h
              split at h
              · cases h
                obtain ⟨a1, a2⟩ := sg_sv a p ha; obtain ⟨b1, b2⟩ := sg_sv b q hb
                rw [enc64]
                simp only [UInt8.toNat_ofNat']
                rw [show (p * 4 + q / 16) % 2 ^ 8 / 4 = p from by omega, show (p * 4 + q / 16) % 2 ^ 8 % 4 * 16 = q from by omega, a1, b1]
              · cases h
        · rw [if_neg hc] at h
          cases ha : sv a with
          | none => simp [ha] at h
          | some p =>
            cases hb : sv b with
            | none => simp [ha, hb] at h
            | some q =>
              cases hs : sv c with
              | none => simp [ha, hb, hs] at h
              | some s =>
                simp only [ha, hb, hs] at h
                split at h
                · cases h
                  obtain ⟨a1, a2⟩ := sg_sv a p ha; obtain ⟨b1, b2⟩ := sg_sv b q hb; obtain ⟨c1, c2⟩ := sg_sv c s hs
                  rw [enc64]
                  simp only [UInt8.toNat_ofNat']
                  rw [show (p * 4 + q / 16) % 2 ^ 8 / 4 = p from by omega, show (p * 4 + q / 16) % 2 ^ 8 % 4 * 16 + (q % 16 * 16 + s / 4) % 2 ^ 8 / 16 = q from by omega, show (q % 16 * 16 + s / 4) % 2 ^ 8 % 16 * 4 = s from by omega, a1, b1, c1]
                · cases h
      · rw [if_neg hd] at h
        cases ha : sv a with
        | none => simp [ha] at h
        | some p =>
          cases hb : sv b with
          | none => simp [ha, hb] at h
          | some q =>
            cases hs : sv c with
            | none => simp [ha, hb, hs] at h
            | some s =>
              cases ht : sv d with
              | none => simp [ha, hb, hs, ht] at h
              | some t =>
                simp only [ha, hb, hs, ht] at h
                cases h
                have := enc_b3 a b c d p q s t [] ha hb hs ht
                simpa [enc64] using this
    | a :: b :: c :: d :: e :: r, h =>
      by_cases h4 : (a :: b :: c :: d :: e :: r).length % 4 = 0
      · have hr : 2 ≤ (e :: r).length := by simp only [List.length_cons] at h4 ⊢; omega
        rw [dec_four _ _ _ _ _ hr] at h
        cases ha : sv a with
        | none => simp [ha] at h
        | some p =>
          cases hb : sv b with
          | none => simp [ha, hb] at h
          | some q =>
            cases hs : sv c with
            | none => simp [ha, hb, hs] at h
            | some s =>
              cases ht : sv d with
              | none => simp [ha, hb, hs, ht] at h
              | some t =>
                simp only [ha, hb, hs, ht, Option.map_eq_some_iff] at h
                obtain ⟨m', hm', rfl⟩ := h
                rw [enc_b3 a b c d p q s t m' ha hb hs ht, ih (e :: r) m' (by simp only [List.length_cons] at hl ⊢; omega) hm']
      · rw [dec_odd _ h4] at h; cases h
theorem enc_plain (l : List UInt8) : (enc64 l).all Cd.plain = true := by
  have f : ∀ n, n < 64 → Cd.plain (sg n) = true := by
    have : ∀ n : Fin 64, Cd.plain (sg n.1) = true := by decide +kernel
    intro n h; exact this ⟨n, h⟩
  have f61 : Cd.plain 61 = true := by decide
  induction l using enc64.induct with
  | case1 => rfl
  | case2 a =>
    have ha := nat8 a
    simp only [enc64, List.all_cons, List.all_nil, f61, f _ (show a.toNat / 4 < 64 by omega), f _ (show a.toNat % 4 * 16 < 64 by omega), Bool.and_true]
  | case3 a b =>
    have ha := nat8 a; have hb := nat8 b
    simp only [enc64, List.all_cons, List.all_nil, f61, f _ (show a.toNat / 4 < 64 by omega), f _ (show a.toNat % 4 * 16 + b.toNat / 16 < 64 by omega), f _ (show b.toNat % 16 * 4 < 64 by omega), Bool.and_true]
  | case4 a b c r ih =>
    have ha := nat8 a; have hb := nat8 b; have hc := nat8 c
    simp only [enc64, List.all_cons, ih, f _ (show a.toNat / 4 < 64 by omega), f _ (show a.toNat % 4 * 16 + b.toNat / 16 < 64 by omega), f _ (show b.toNat % 16 * 4 + c.toNat / 64 < 64 by omega), f _ (show c.toNat % 64 < 64 by omega), Bool.and_true]
end C6
end Go.Proofs.YtkhbfdokkmebhaaGreatDoor
