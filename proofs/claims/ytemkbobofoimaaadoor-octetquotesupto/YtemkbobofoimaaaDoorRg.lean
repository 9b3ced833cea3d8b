/- Plain facts on the document's table of ranges. -/
import Derived.Test.YtemkbobofoimaaaDoorU8
namespace Go.Proofs.YtemkbobofoimaaaDoor
namespace Tb
set_option linter.unusedVariables false

/-- the table: rows of ranges -/
def T : List (List (Nat × Nat)) := [[(0, 127)], [(194, 223), (128, 191)], [(224, 224), (160, 191), (128, 191)], [(225, 236), (128, 191), (128, 191)], [(238, 239), (128, 191), (128, 191)], [(237, 237), (128, 159), (128, 191)], [(240, 240), (144, 191), (128, 191), (128, 191)], [(241, 243), (128, 191), (128, 191), (128, 191)], [(244, 244), (128, 143), (128, 191), (128, 191)]]
def row (k : Nat) : List (Nat × Nat) := T.getD k []
def m (k : Nat) : Nat := (row k).length
def lo (k i : Nat) : Nat := ((row k).getD i (0, 0)).1
def hi (k i : Nat) : Nat := ((row k).getD i (0, 0)).2
theorem m_bd : ∀ k : Fin 9, 1 ≤ m k.1 ∧ m k.1 ≤ 4 := by decide
theorem lo_bd : ∀ k : Fin 9, ∀ i : Fin 4, lo k.1 i.1 < 256 ∧ hi k.1 i.1 < 256 := by decide

/-- do the first i bytes fit the row? -/
def ok (l : List UInt8) (k : Nat) : Nat → Bool
  | 0 => decide (m k ≤ l.length)
  | i + 1 => ok l k i && (decide (lo k i ≤ (l.getD i 0).toNat) && decide ((l.getD i 0).toNat ≤ hi k i))
theorem ok_len {l : List UInt8} {k i : Nat} (h : ok l k i = true) : m k ≤ l.length := by
  induction i with
  | zero => simpa [ok] using h
  | succ i ih => simp only [ok, Bool.and_eq_true] at h; exact ih h.1
theorem ok_false {l : List UInt8} {k i j : Nat} (h : ok l k i = false) (hij : i ≤ j) : ok l k j = false := by
  induction j with
  | zero => obtain rfl : i = 0 := by omega
            exact h
  | succ j ih =>
    by_cases e : i = j + 1
    · subst e; exact h
    · simp only [ok, ih (by omega), Bool.false_and]

/-- the size that the first k rows tell -/
def n (l : List UInt8) : Nat → Nat
  | 0 => 0
  | k + 1 => if ok l k (m k) then m k else n l k

def b1 (A lo hi : Nat) : Prop := lo ≤ A ∧ A ≤ hi
theorem ok1 (l : List UInt8) (k : Nat) (h : m k = 1) : ok l k (m k) = true ↔ 1 ≤ l.length ∧ lo k 0 ≤ (l.getD 0 0).toNat ∧ (l.getD 0 0).toNat ≤ hi k 0 := by
  rw [h]; simp only [ok, h, Bool.and_eq_true, decide_eq_true_eq]
theorem ok2 (l : List UInt8) (k : Nat) (h : m k = 2) : ok l k (m k) = true ↔ 2 ≤ l.length ∧ (lo k 0 ≤ (l.getD 0 0).toNat ∧ (l.getD 0 0).toNat ≤ hi k 0) ∧ (lo k 1 ≤ (l.getD 1 0).toNat ∧ (l.getD 1 0).toNat ≤ hi k 1) := by
  rw [h]; simp only [ok, h, Bool.and_eq_true, decide_eq_true_eq, and_assoc]
theorem ok3 (l : List UInt8) (k : Nat) (h : m k = 3) : ok l k (m k) = true ↔ 3 ≤ l.length ∧ (lo k 0 ≤ (l.getD 0 0).toNat ∧ (l.getD 0 0).toNat ≤ hi k 0) ∧ (lo k 1 ≤ (l.getD 1 0).toNat ∧ (l.getD 1 0).toNat ≤ hi k 1) ∧ (lo k 2 ≤ (l.getD 2 0).toNat ∧ (l.getD 2 0).toNat ≤ hi k 2) := by
  rw [h]; simp only [ok, h, Bool.and_eq_true, decide_eq_true_eq, and_assoc]
theorem ok4 (l : List UInt8) (k : Nat) (h : m k = 4) : ok l k (m k) = true ↔ 4 ≤ l.length ∧ (lo k 0 ≤ (l.getD 0 0).toNat ∧ (l.getD 0 0).toNat ≤ hi k 0) ∧ (lo k 1 ≤ (l.getD 1 0).toNat ∧ (l.getD 1 0).toNat ≤ hi k 1) ∧ (lo k 2 ≤ (l.getD 2 0).toNat ∧ (l.getD 2 0).toNat ≤ hi k 2) ∧ (lo k 3 ≤ (l.getD 3 0).toNat ∧ (l.getD 3 0).toNat ≤ hi k 3) := by
  rw [h]; simp only [ok, h, Bool.and_eq_true, decide_eq_true_eq, and_assoc]

/-- the nine rows in plain numbers -/
def nums (x A B C D : Nat) : Nat :=
  if 4 ≤ x ∧ (244 ≤ A ∧ A ≤ 244) ∧ (128 ≤ B ∧ B ≤ 143) ∧ (128 ≤ C ∧ C ≤ 191) ∧ (128 ≤ D ∧ D ≤ 191) then 4
  else if 4 ≤ x ∧ (241 ≤ A ∧ A ≤ 243) ∧ (128 ≤ B ∧ B ≤ 191) ∧ (128 ≤ C ∧ C ≤ 191) ∧ (128 ≤ D ∧ D ≤ 191) then 4
  else if 4 ≤ x ∧ (240 ≤ A ∧ A ≤ 240) ∧ (144 ≤ B ∧ B ≤ 191) ∧ (128 ≤ C ∧ C ≤ 191) ∧ (128 ≤ D ∧ D ≤ 191) then 4
  else if 3 ≤ x ∧ (237 ≤ A ∧ A ≤ 237) ∧ (128 ≤ B ∧ B ≤ 159) ∧ (128 ≤ C ∧ C ≤ 191) then 3
  else if 3 ≤ x ∧ (238 ≤ A ∧ A ≤ 239) ∧ (128 ≤ B ∧ B ≤ 191) ∧ (128 ≤ C ∧ C ≤ 191) then 3
  else if 3 ≤ x ∧ (225 ≤ A ∧ A ≤ 236) ∧ (128 ≤ B ∧ B ≤ 191) ∧ (128 ≤ C ∧ C ≤ 191) then 3
  else if 3 ≤ x ∧ (224 ≤ A ∧ A ≤ 224) ∧ (160 ≤ B ∧ B ≤ 191) ∧ (128 ≤ C ∧ C ≤ 191) then 3
  else if 2 ≤ x ∧ (194 ≤ A ∧ A ≤ 223) ∧ (128 ≤ B ∧ B ≤ 191) then 2
  else if 1 ≤ x ∧ 0 ≤ A ∧ A ≤ 127 then 1
  else 0

theorem if_iff {p q : Prop} [Decidable p] [Decidable q] {a b : Nat} (h : p ↔ q) : (if p then a else b) = (if q then a else b) := by
  by_cases hp : p
  · rw [if_pos hp, if_pos (h.1 hp)]
  · rw [if_neg hp, if_neg (fun hq => hp (h.2 hq))]

theorem n_nums (l : List UInt8) : n l 9 = nums l.length (l.getD 0 0).toNat (l.getD 1 0).toNat (l.getD 2 0).toNat (l.getD 3 0).toNat := by
  unfold nums
  show (if ok l 8 (m 8) then m 8 else if ok l 7 (m 7) then m 7 else if ok l 6 (m 6) then m 6 else if ok l 5 (m 5) then m 5 else if ok l 4 (m 4) then m 4 else if ok l 3 (m 3) then m 3 else if ok l 2 (m 2) then m 2 else if ok l 1 (m 1) then m 1 else if ok l 0 (m 0) then m 0 else 0) = _
  rw [if_iff (ok4 l 8 rfl), if_iff (ok4 l 7 rfl), if_iff (ok4 l 6 rfl), if_iff (ok3 l 5 rfl), if_iff (ok3 l 4 rfl), if_iff (ok3 l 3 rfl), if_iff (ok3 l 2 rfl), if_iff (ok2 l 1 rfl), if_iff (ok1 l 0 rfl)]
  rfl

theorem nums_szs (x A B C D : Nat) (hx : 1 ≤ x) : nums x A B C D = U8.szs x A B C D := by
  unfold nums U8.szs
  by_cases h1 : A < 128
  · rw [if_neg (by omega), if_neg (by omega), if_neg (by omega), if_neg (by omega), if_neg (by omega), if_neg (by omega), if_neg (by omega), if_neg (by omega), if_pos (by omega), if_pos h1]
  rw [if_neg h1]
  by_cases h2 : 194 ≤ A ∧ A ≤ 223
  · rw [if_neg (by omega), if_neg (by omega), if_neg (by omega), if_neg (by omega), if_neg (by omega), if_neg (by omega), if_neg (by omega), if_pos h2]
    by_cases c : 1 < x ∧ 128 ≤ B ∧ B ≤ 191
    · rw [if_pos c, if_pos (by omega)]
    · rw [if_neg c, if_neg (by omega), if_neg (by omega)]
  rw [if_neg h2]
  by_cases h3 : 224 ≤ A ∧ A ≤ 239
  · rw [if_pos h3]
    have hd : A = 224 ∨ (225 ≤ A ∧ A ≤ 236) ∨ A = 237 ∨ (238 ≤ A ∧ A ≤ 239) := by omega
    rcases hd with rfl | hA | rfl | hA
    · rw [if_pos (show (224 : Nat) = 224 from rfl), if_neg (show ¬ (224 : Nat) = 237 by omega)]
      by_cases c : 2 < x ∧ 160 ≤ B ∧ B ≤ 191 ∧ 128 ≤ C ∧ C ≤ 191
      · rw [if_neg (by omega), if_neg (by omega), if_neg (by omega), if_neg (by omega), if_neg (by omega), if_neg (by omega), if_pos (by omega), if_pos c]
      · rw [if_neg (by omega), if_neg (by omega), if_neg (by omega), if_neg (by omega), if_neg (by omega), if_neg (by omega), if_neg (by omega), if_neg (by omega), if_neg (by omega), if_neg c]
    · rw [if_neg (show ¬ A = 224 by omega), if_neg (show ¬ A = 237 by omega)]
      by_cases c : 2 < x ∧ 128 ≤ B ∧ B ≤ 191 ∧ 128 ≤ C ∧ C ≤ 191
      · rw [if_neg (by omega), if_neg (by omega), if_neg (by omega), if_neg (by omega), if_neg (by omega), if_pos (by omega), if_pos c]
      · rw [if_neg (by omega), if_neg (by omega), if_neg (by omega), if_neg (by omega), if_neg (by omega), if_neg (by omega), if_neg (by omega), if_neg (by omega), if_neg (by omega), if_neg c]
    · rw [if_neg (show ¬ (237 : Nat) = 224 by omega), if_pos (show (237 : Nat) = 237 from rfl)]
      by_cases c : 2 < x ∧ 128 ≤ B ∧ B ≤ 159 ∧ 128 ≤ C ∧ C ≤ 191
      · rw [if_neg (by omega), if_neg (by omega), if_neg (by omega), if_pos (by omega), if_pos c]
      · rw [if_neg (by omega), if_neg (by omega), if_neg (by omega), if_neg (by omega), if_neg (by omega), if_neg (by omega), if_neg (by omega), if_neg (by omega), if_neg (by omega), if_neg c]
    · rw [if_neg (show ¬ A = 224 by omega), if_neg (show ¬ A = 237 by omega)]
      by_cases c : 2 < x ∧ 128 ≤ B ∧ B ≤ 191 ∧ 128 ≤ C ∧ C ≤ 191
      · rw [if_neg (by omega), if_neg (by omega), if_neg (by omega), if_neg (by omega), if_pos (by omega), if_pos c]
      · rw [if_neg (by omega), if_neg (by omega), if_neg (by omega), if_neg (by omega), if_neg (by omega), if_neg (by omega), if_neg (by omega), if_neg (by omega), if_neg (by omega), if_neg c]
  rw [if_neg h3]
  by_cases h4 : 240 ≤ A ∧ A ≤ 244
  · rw [if_pos h4]
    have hd : A = 240 ∨ (241 ≤ A ∧ A ≤ 243) ∨ A = 244 := by omega
    rcases hd with rfl | hA | rfl
    · rw [if_pos (show (240 : Nat) = 240 from rfl), if_neg (show ¬ (240 : Nat) = 244 by omega)]
      by_cases c : 3 < x ∧ 144 ≤ B ∧ B ≤ 191 ∧ (128 ≤ C ∧ C ≤ 191) ∧ 128 ≤ D ∧ D ≤ 191
      · rw [if_neg (by omega), if_neg (by omega), if_pos (by omega), if_pos c]
      · rw [if_neg (by omega), if_neg (by omega), if_neg (by omega), if_neg (by omega), if_neg (by omega), if_neg (by omega), if_neg (by omega), if_neg (by omega), if_neg (by omega), if_neg c]
    · rw [if_neg (show ¬ A = 240 by omega), if_neg (show ¬ A = 244 by omega)]
      by_cases c : 3 < x ∧ 128 ≤ B ∧ B ≤ 191 ∧ (128 ≤ C ∧ C ≤ 191) ∧ 128 ≤ D ∧ D ≤ 191
      · rw [if_neg (by omega), if_pos (by omega), if_pos c]
      · rw [if_neg (by omega), if_neg (by omega), if_neg (by omega), if_neg (by omega), if_neg (by omega), if_neg (by omega), if_neg (by omega), if_neg (by omega), if_neg (by omega), if_neg c]
    · rw [if_neg (show ¬ (244 : Nat) = 240 by omega), if_pos (show (244 : Nat) = 244 from rfl)]
      by_cases c : 3 < x ∧ 128 ≤ B ∧ B ≤ 143 ∧ (128 ≤ C ∧ C ≤ 191) ∧ 128 ≤ D ∧ D ≤ 191
      · rw [if_pos (by omega), if_pos c]
      · rw [if_neg (by omega), if_neg (by omega), if_neg (by omega), if_neg (by omega), if_neg (by omega), if_neg (by omega), if_neg (by omega), if_neg (by omega), if_neg (by omega), if_neg c]
  rw [if_neg h4]
  rw [if_neg (by omega), if_neg (by omega), if_neg (by omega), if_neg (by omega), if_neg (by omega), if_neg (by omega), if_neg (by omega), if_neg (by omega), if_neg (by omega)]

theorem n_sl (l : List UInt8) (h : l ≠ []) : n l 9 = U8.sl l := by
  rw [n_nums, U8.sl_szs l h, nums_szs]
  cases l with
  | nil => exact absurd rfl h
  | cons a r => simp
end Tb
end Go.Proofs.YtemkbobofoimaaaDoor
