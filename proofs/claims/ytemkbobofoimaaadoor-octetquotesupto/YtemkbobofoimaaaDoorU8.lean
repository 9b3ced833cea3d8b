/- Plain facts on UTF-8: no program is read here. -/
import Derived.WalkKit
import Derived.Shelf.Unicode.DecodeSlow
namespace Go.Proofs.YtemkbobofoimaaaDoor
namespace U8
set_option linter.unusedVariables false

/-- a byte of 80 to BF (base 16) -/
def ct (b : UInt8) : Bool := 128 ≤ b.toNat && b.toNat ≤ 191
/-- the size of the sequence with which a text begins; 0: none does -/
def sl (l : List UInt8) : Nat :=
  match l with
  | [] => 0
  | a :: r =>
    if a.toNat < 128 then 1
    else if 194 ≤ a.toNat ∧ a.toNat ≤ 223 then
      match r with
      | b :: _ => if ct b then 2 else 0
      | [] => 0
    else if 224 ≤ a.toNat ∧ a.toNat ≤ 239 then
      match r with
      | b :: c :: _ => if (if a.toNat = 224 then 160 else 128) ≤ b.toNat ∧ b.toNat ≤ (if a.toNat = 237 then 159 else 191) ∧ ct c then 3 else 0
      | _ => 0
    else if 240 ≤ a.toNat ∧ a.toNat ≤ 244 then
      match r with
      | b :: c :: d :: _ => if (if a.toNat = 240 then 144 else 128) ≤ b.toNat ∧ b.toNat ≤ (if a.toNat = 244 then 143 else 191) ∧ ct c ∧ ct d then 4 else 0
      | _ => 0
    else 0

theorem sl_le (l : List UInt8) : sl l ≤ l.length := by
  unfold sl
  repeat' split
  all_goals simp
  all_goals omega

/-- what Go's decoder answers: an error just where no sequence begins -/
def fits (p : Nat × Nat) (k : Nat) : Prop := (k = 0 ∧ p.1 = 65533 ∧ p.2 = 1) ∨ (0 < k ∧ p.2 = k ∧ ¬ (p.1 = 65533 ∧ p.2 = 1))

theorem fits_no : fits (65533, 1) 0 := .inl ⟨rfl, rfl, rfl⟩
theorem fits_yes {c k : Nat} (hk : 0 < k) (h : ¬ (c = 65533 ∧ k = 1)) : fits (c, k) k := .inr ⟨hk, rfl, h⟩

/-- the decoder in plain numbers -/
def dec (n A B C D : Nat) : Nat × Nat :=
  if A < 128 then (A, 1)
  else if A / 32 = 6 ∧ 1 < n ∧ B / 64 = 2 then
    if 128 ≤ A % 32 * 64 + B % 64 then (A % 32 * 64 + B % 64, 2) else (65533, 1)
  else if A / 16 = 14 ∧ (1 < n ∧ B / 64 = 2) ∧ 2 < n ∧ C / 64 = 2 then
    if 2048 ≤ A % 16 * 4096 + B % 64 * 64 + C % 64 ∧ (A % 16 * 4096 + B % 64 * 64 + C % 64 < 55296 ∨ 57344 ≤ A % 16 * 4096 + B % 64 * 64 + C % 64 ∧ A % 16 * 4096 + B % 64 * 64 + C % 64 ≤ 1114111) then (A % 16 * 4096 + B % 64 * 64 + C % 64, 3) else (65533, 1)
  else if A / 8 = 30 ∧ (1 < n ∧ B / 64 = 2) ∧ (2 < n ∧ C / 64 = 2) ∧ 3 < n ∧ D / 64 = 2 then
    if 65536 ≤ A % 8 * 262144 + B % 64 * 4096 + C % 64 * 64 + D % 64 ∧ (A % 8 * 262144 + B % 64 * 4096 + C % 64 * 64 + D % 64 < 55296 ∨ 57344 ≤ A % 8 * 262144 + B % 64 * 4096 + C % 64 * 64 + D % 64 ∧ A % 8 * 262144 + B % 64 * 4096 + C % 64 * 64 + D % 64 ≤ 1114111) then (A % 8 * 262144 + B % 64 * 4096 + C % 64 * 64 + D % 64, 4) else (65533, 1)
  else (65533, 1)

theorem decode_dec (s : ByteArray) : Utf8.decode s 0 = dec s.size (s.get! 0).toNat (s.get! 1).toNat (s.get! 2).toNat (s.get! 3).toNat := by
  simp only [Utf8.decode, dec, Utf8.runeError, Utf8.valid, Nat.zero_add, Bool.and_eq_true, Bool.or_eq_true, beq_iff_eq, decide_eq_true_eq, and_assoc]
  have e : ∀ n : Nat, ((0 : Int) ≤ (n : Int) ∧ (n : Int) < 55296 ∨ (57344 : Int) ≤ (n : Int) ∧ (n : Int) ≤ 1114111) ↔ (n < 55296 ∨ 57344 ≤ n ∧ n ≤ 1114111) := by intro n; omega
  simp only [e]

/-- the sizes in plain numbers -/
def szs (n A B C D : Nat) : Nat :=
  if A < 128 then 1
  else if 194 ≤ A ∧ A ≤ 223 then (if 1 < n ∧ 128 ≤ B ∧ B ≤ 191 then 2 else 0)
  else if 224 ≤ A ∧ A ≤ 239 then (if 2 < n ∧ (if A = 224 then 160 else 128) ≤ B ∧ B ≤ (if A = 237 then 159 else 191) ∧ 128 ≤ C ∧ C ≤ 191 then 3 else 0)
  else if 240 ≤ A ∧ A ≤ 244 then (if 3 < n ∧ (if A = 240 then 144 else 128) ≤ B ∧ B ≤ (if A = 244 then 143 else 191) ∧ (128 ≤ C ∧ C ≤ 191) ∧ 128 ≤ D ∧ D ≤ 191 then 4 else 0)
  else 0

theorem dec_fits (n A B C D : Nat) (hA : A < 256) (hB : B < 256) (hC : C < 256) (hD : D < 256) : fits (dec n A B C D) (szs n A B C D) := by
  unfold dec szs
  by_cases h1 : A < 128
  · simp only [if_pos h1]; exact fits_yes (by omega) (by omega)
  simp only [if_neg h1]
  by_cases h2 : 194 ≤ A ∧ A ≤ 223
  · simp only [if_pos h2]
    by_cases hb : 1 < n ∧ 128 ≤ B ∧ B ≤ 191
    · rw [if_pos (show A / 32 = 6 ∧ 1 < n ∧ B / 64 = 2 by omega), if_pos (by omega), if_pos hb]; first | exact fits_no | exact fits_yes (by omega) (by omega)
    · rw [if_neg (by omega), if_neg (by omega), if_neg (by omega), if_neg hb]; first | exact fits_no | exact fits_yes (by omega) (by omega)
  simp only [if_neg h2]
  by_cases h3 : 224 ≤ A ∧ A ≤ 239
  · simp only [if_pos h3]
    rw [if_neg (by omega)]
    by_cases hb : 2 < n ∧ (if A = 224 then 160 else 128) ≤ B ∧ B ≤ (if A = 237 then 159 else 191) ∧ 128 ≤ C ∧ C ≤ 191
    · rw [if_pos hb]
      have hb1 : 128 ≤ B ∧ B ≤ 191 ∧ (A = 224 → 160 ≤ B) ∧ (A = 237 → B ≤ 159) := by
        obtain ⟨_, x, y, _⟩ := hb
        split at x <;> split at y <;> omega
      rw [if_pos (by omega), if_pos (by omega)]; first | exact fits_no | exact fits_yes (by omega) (by omega)
    · rw [if_neg hb]
      have hb1 : ¬ (2 < n ∧ (128 ≤ B ∧ B ≤ 191 ∧ (A = 224 → 160 ≤ B) ∧ (A = 237 → B ≤ 159)) ∧ 128 ≤ C ∧ C ≤ 191) := by
        intro h; apply hb; obtain ⟨p, ⟨q1, q2, q3, q4⟩, r⟩ := h
        refine ⟨p, ?_, ?_, r⟩ <;> split <;> omega
      by_cases hc : A / 16 = 14 ∧ (1 < n ∧ B / 64 = 2) ∧ 2 < n ∧ C / 64 = 2
      · rw [if_pos hc, if_neg (by omega)]; first | exact fits_no | exact fits_yes (by omega) (by omega)
      · rw [if_neg hc, if_neg (by omega)]; first | exact fits_no | exact fits_yes (by omega) (by omega)
  simp only [if_neg h3]
  by_cases h4 : 240 ≤ A ∧ A ≤ 244
  · simp only [if_pos h4]
    rw [if_neg (by omega), if_neg (by omega)]
    by_cases hb : 3 < n ∧ (if A = 240 then 144 else 128) ≤ B ∧ B ≤ (if A = 244 then 143 else 191) ∧ (128 ≤ C ∧ C ≤ 191) ∧ 128 ≤ D ∧ D ≤ 191
    · rw [if_pos hb]
      have hb1 : 128 ≤ B ∧ B ≤ 191 ∧ (A = 240 → 144 ≤ B) ∧ (A = 244 → B ≤ 143) := by
        obtain ⟨_, x, y, _⟩ := hb
        split at x <;> split at y <;> omega
      rw [if_pos (by omega), if_pos (by omega)]; first | exact fits_no | exact fits_yes (by omega) (by omega)
    · rw [if_neg hb]
      have hb1 : ¬ (3 < n ∧ (128 ≤ B ∧ B ≤ 191 ∧ (A = 240 → 144 ≤ B) ∧ (A = 244 → B ≤ 143)) ∧ (128 ≤ C ∧ C ≤ 191) ∧ 128 ≤ D ∧ D ≤ 191) := by
        intro h; apply hb; obtain ⟨p, ⟨q1, q2, q3, q4⟩, r⟩ := h
        refine ⟨p, ?_, ?_, r⟩ <;> split <;> omega
      by_cases hc : A / 8 = 30 ∧ (1 < n ∧ B / 64 = 2) ∧ (2 < n ∧ C / 64 = 2) ∧ 3 < n ∧ D / 64 = 2
      · rw [if_pos hc, if_neg (by omega)]; first | exact fits_no | exact fits_yes (by omega) (by omega)
      · rw [if_neg hc]; first | exact fits_no | exact fits_yes (by omega) (by omega)
  simp only [if_neg h4]
  by_cases hc : A / 32 = 6 ∧ 1 < n ∧ B / 64 = 2
  · rw [if_pos hc, if_neg (by omega)]; first | exact fits_no | exact fits_yes (by omega) (by omega)
  rw [if_neg hc, if_neg (by omega)]
  by_cases hc : A / 8 = 30 ∧ (1 < n ∧ B / 64 = 2) ∧ (2 < n ∧ C / 64 = 2) ∧ 3 < n ∧ D / 64 = 2
  · rw [if_pos hc, if_neg (by omega)]; first | exact fits_no | exact fits_yes (by omega) (by omega)
  · rw [if_neg hc]; first | exact fits_no | exact fits_yes (by omega) (by omega)

/-- the byte at a place, 0 behind the end -/
theorem get_list (s : ByteArray) (k : Nat) : s.get! k = s.data.toList.getD k 0 := by
  obtain ⟨⟨l⟩⟩ := s
  simp only [ByteArray.get!, List.getD]
  simp
  rfl

theorem sl_szs (l : List UInt8) (h : l ≠ []) : sl l = szs l.length (l.getD 0 0).toNat (l.getD 1 0).toNat (l.getD 2 0).toNat (l.getD 3 0).toNat := by
  match l, h with
  | [a], _ => simp [sl, szs]
  | [a, b], _ => simp [sl, szs, ct]
  | [a, b, c], _ => simp [sl, szs, ct]
  | a :: b :: c :: d :: r, _ => simp [sl, szs, ct, and_assoc]

theorem decodeGo_fits (s : ByteArray) (h : s.data.toList ≠ []) : fits (Lib.decodeGo s) (sl s.data.toList) := by
  have hs : ¬ s.size = 0 := by
    intro e; apply h; apply List.length_eq_zero_iff.1; simpa using e
  unfold Lib.decodeGo
  rw [if_neg hs, decode_dec, sl_szs _ h, get_list, get_list, get_list, get_list]
  rw [show s.data.toList.length = s.size from by simp]
  exact dec_fits _ _ _ _ _ (UInt8.toNat_lt _) (UInt8.toNat_lt _) (UInt8.toNat_lt _) (UInt8.toNat_lt _)

/-- more bytes behind a whole sequence change nothing -/
theorem sl_append (l r : List UInt8) (h : 0 < sl l) : sl (l ++ r) = sl l := by
  match l, h with
  | [], h => simp [sl] at h
  | [a], h =>
    simp only [sl] at h
    split at h
    · simp [sl, *]
    · repeat' split at h
      all_goals omega
  | [a, b], h =>
    simp only [sl, List.cons_append, List.nil_append] at *
    repeat' split at h
    all_goals first | omega | skip
    all_goals simp_all
  | [a, b, c], h =>
    simp only [sl, List.cons_append, List.nil_append] at *
    repeat' split at h
    all_goals first | omega | skip
    all_goals simp_all
  | a :: b :: c :: d :: t, h => simp [sl]

theorem szs_cut (n k A B C D B' C' D' : Nat) (h : 0 < szs n A B C D) (hk : szs n A B C D ≤ k) (hn : 1 ≤ n) (hB : 1 < k → B' = B) (hC : 2 < k → C' = C) (hD : 3 < k → D' = D) : szs (min k n) A B' C' D' = szs n A B C D := by
  unfold szs at *
  by_cases h1 : A < 128
  · simp only [if_pos h1]
  simp only [if_neg h1] at *
  by_cases h2 : 194 ≤ A ∧ A ≤ 223
  · simp only [if_pos h2] at *
    split at h
    · rename_i c
      rw [if_pos c] at hk
      rw [hB (by omega), if_pos c, if_pos (by omega)]
    · omega
  simp only [if_neg h2] at *
  by_cases h3 : 224 ≤ A ∧ A ≤ 239
  · simp only [if_pos h3] at *
    generalize (if A = 224 then 160 else 128) = lo at *
    generalize (if A = 237 then 159 else 191) = hi at *
    split at h
    · rename_i c
      rw [if_pos c] at hk
      rw [hB (by omega), hC (by omega), if_pos c, if_pos ⟨by omega, c.2⟩]
    · omega
  simp only [if_neg h3] at *
  by_cases h4 : 240 ≤ A ∧ A ≤ 244
  · simp only [if_pos h4] at *
    generalize (if A = 240 then 144 else 128) = lo at *
    generalize (if A = 244 then 143 else 191) = hi at *
    split at h
    · rename_i c
      rw [if_pos c] at hk
      rw [hB (by omega), hC (by omega), hD (by omega), if_pos c, if_pos ⟨by omega, c.2⟩]
    · omega
  · simp only [if_neg h4] at *

theorem getD_take (l : List UInt8) (k j : Nat) (h : j < k) : (l.take k).getD j 0 = l.getD j 0 := by
  simp [List.getD, h]

theorem sl_take (l : List UInt8) (k : Nat) (h : 0 < sl l) (hk : sl l ≤ k) : sl (l.take k) = sl l := by
  have hne : l ≠ [] := by intro e; subst e; simp [sl] at h
  have hl : 1 ≤ l.length := by cases l with | nil => exact absurd rfl hne | cons a r => simp
  have hne2 : l.take k ≠ [] := by
    intro e; have := congrArg List.length e; rw [List.length_take, List.length_nil] at this; omega
  rw [sl_szs l hne] at *
  rw [sl_szs _ hne2, List.length_take, getD_take l k 0 (by omega)]
  exact szs_cut _ _ _ _ _ _ _ _ _ h hk hl (fun h => by rw [getD_take l k 1 h]) (fun h => by rw [getD_take l k 2 h]) (fun h => by rw [getD_take l k 3 h])

/-- the first place at which no sequence begins -/
def badF : Nat → List UInt8 → Option Nat
  | 0, _ => none
  | f + 1, l => if l = [] then none else if sl l = 0 then some 0 else (badF f (l.drop (sl l))).map (· + sl l)

theorem badF_more : ∀ (f g : Nat) (l : List UInt8), l.length < f → l.length < g → badF f l = badF g l := by
  intro f
  induction f with
  | zero => intro g l h; omega
  | succ f ih =>
    intro g l h1 h2
    cases g with
    | zero => omega
    | succ g =>
      rw [badF, badF]
      split
      · rfl
      · split
        · rfl
        · rw [ih g (l.drop (sl l)) (by rw [List.length_drop]; have := sl_le l; omega) (by rw [List.length_drop]; have := sl_le l; omega)]

def bad (l : List UInt8) : Option Nat := badF (l.length + 1) l
theorem bad_nil : bad [] = none := rfl
theorem bad_zero {l : List UInt8} (h : l ≠ []) (h0 : sl l = 0) : bad l = some 0 := by
  unfold bad; rw [badF, if_neg h, if_pos h0]
theorem bad_step {l : List UInt8} (h0 : 0 < sl l) : bad l = (bad (l.drop (sl l))).map (· + sl l) := by
  have hne : l ≠ [] := by intro e; subst e; simp [sl] at h0
  have := sl_le l
  unfold bad
  rw [badF, if_neg hne, if_neg (by omega), badF_more l.length ((l.drop (sl l)).length + 1) _ (by rw [List.length_drop]; omega) (by omega)]

theorem bad_lt (n : Nat) : ∀ (l : List UInt8), l.length ≤ n → ∀ k, bad l = some k → k < l.length := by
  induction n with
  | zero =>
    intro l hl k h
    have : l = [] := List.length_eq_zero_iff.1 (by omega)
    subst this; cases h
  | succ n ih =>
    intro l hl k h
    by_cases hne : l = []
    · subst hne; cases h
    have hpos : 0 < l.length := List.length_pos_iff.2 hne
    by_cases h0 : sl l = 0
    · rw [bad_zero hne h0] at h; cases h; exact hpos
    · rw [bad_step (by omega), Option.map_eq_some_iff] at h
      obtain ⟨j, hj, rfl⟩ := h
      have := ih (l.drop (sl l)) (by rw [List.length_drop]; omega) j hj
      rw [List.length_drop] at this
      omega

/-- a right text ahead changes nothing -/
theorem bad_append (n : Nat) : ∀ (l r : List UInt8), l.length ≤ n → bad l = none → bad (l ++ r) = (bad r).map (· + l.length) := by
  induction n with
  | zero =>
    intro l r hl h
    have : l = [] := List.length_eq_zero_iff.1 (by omega)
    subst this; simp
  | succ n ih =>
    intro l r hl h
    by_cases hne : l = []
    · subst hne; simp
    by_cases h0 : sl l = 0
    · rw [bad_zero hne h0] at h; cases h
    · have hsl := sl_le l
      rw [bad_step (by omega), Option.map_eq_none_iff] at h
      have e := sl_append l r (by omega)
      rw [bad_step (by rw [e]; omega), e, List.drop_append_of_le_length hsl, ih _ r (by rw [List.length_drop]; omega) h, Option.map_map]
      congr 1
      funext x
      simp [List.length_drop]; omega

/-- up to the first place the text is right -/
theorem bad_take (n : Nat) : ∀ (l : List UInt8) (k : Nat), l.length ≤ n → bad l = some k → bad (l.take k) = none := by
  induction n with
  | zero =>
    intro l k hl h
    have : l = [] := List.length_eq_zero_iff.1 (by omega)
    subst this; cases h
  | succ n ih =>
    intro l k hl h
    by_cases hne : l = []
    · subst hne; cases h
    by_cases h0 : sl l = 0
    · rw [bad_zero hne h0] at h; cases h; rfl
    · have hsl := sl_le l
      rw [bad_step (by omega), Option.map_eq_some_iff] at h
      obtain ⟨j, hj, rfl⟩ := h
      have e := sl_take l (j + sl l) (by omega) (by omega)
      rw [bad_step (by rw [e]; omega), e, Option.map_eq_none_iff]
      have := ih (l.drop (sl l)) j (by rw [List.length_drop]; omega) hj
      rwa [List.drop_take, show j + sl l - sl l = j from by omega]

theorem bad_later (l r : List UInt8) (k : Nat) (h : bad l = some k) : bad (l ++ r) = none ∨ ∃ j, bad (l ++ r) = some j ∧ k ≤ j := by
  have h1 := bad_take l.length l k (Nat.le_refl _) h
  have hk := bad_lt l.length l (Nat.le_refl _) k h
  have e : l ++ r = l.take k ++ (l.drop k ++ r) := by rw [← List.append_assoc, List.take_append_drop]
  rw [e, bad_append _ _ _ (Nat.le_refl _) h1]
  cases bad (l.drop k ++ r) with
  | none => left; rfl
  | some j => right; exact ⟨j + (l.take k).length, rfl, by rw [List.length_take]; omega⟩

def isV (l : List UInt8) : Bool := (bad l).isNone
def atV (l : List UInt8) : Nat := (bad l).getD 0
end U8
end Go.Proofs.YtemkbobofoimaaaDoor
