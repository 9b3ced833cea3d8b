/- Plain facts on digits and numbers: no program is read here. -/
import Derived.WalkKit
namespace Go.Proofs.YtmgealcolofomaaDoor
namespace Num

/-- the value of a digit of base 16, small or capital; -1: none -/
def dig (c : Int) : Int :=
  if 48 ≤ c ∧ c ≤ 57 then c - 48 else if 97 ≤ c ∧ c ≤ 102 then c - 87 else if 65 ≤ c ∧ c ≤ 70 then c - 55 else -1

theorem dig_bd (c : Int) : -1 ≤ dig c ∧ dig c ≤ 15 := by unfold dig; repeat' split <;> omega

def step (base : Int) (o : Option Int) (c : UInt8) : Option Int :=
  match o with
  | none => none
  | some n => if dig c.toNat < 0 ∨ base ≤ dig c.toNat then none else some (n * base + dig c.toNat)

def num (base : Int) (l : List UInt8) : Option Int := l.foldl (step base) (some 0)

theorem num_snoc (base : Int) (l : List UInt8) (c : UInt8) : num base (l ++ [c]) = step base (num base l) c := by
  simp [num, List.foldl_append]

theorem step_none (base : Int) (l : List UInt8) : l.foldl (step base) none = none := by
  induction l with
  | nil => rfl
  | cons c r ih => simpa [step] using ih

theorem num_none (base : Int) (a b : List UInt8) (h : num base a = none) : num base (a ++ b) = none := by
  unfold num at *; rw [List.foldl_append, h, step_none]

theorem num_bd (base : Int) (h2 : 2 ≤ base) (h16 : base ≤ 16) (k : Nat) : ∀ (l : List UInt8) (n : Int), l.length = k → num base l = some n → 0 ≤ n ∧ n < 16 ^ k := by
  induction k with
  | zero =>
    intro l n hl hn
    have : l = [] := List.length_eq_zero_iff.1 hl
    subst this
    simp [num] at hn; subst hn; simp
  | succ k ih =>
    intro l n hl hn
    obtain ⟨a, c, rfl⟩ : ∃ a c, l = a ++ [c] := by
      have hne : l ≠ [] := by intro h; simp [h] at hl
      exact ⟨l.dropLast, l.getLast hne, (List.dropLast_concat_getLast hne).symm⟩
    simp at hl
    rw [num_snoc] at hn
    cases ha : num base a with
    | none => simp [step, ha] at hn
    | some m =>
      have hm := ih a m hl ha
      rw [ha] at hn
      simp only [step] at hn
      split at hn
      · simp at hn
      · rename_i hd
        simp at hn
        subst hn
        have p1 : 0 ≤ m * base := Int.mul_nonneg hm.1 (by omega)
        have p2 : (m + 1) * base ≤ 16 ^ k * 16 := by
          have := Int.mul_le_mul (a := m + 1) (b := base) (c := 16 ^ k) (d := 16) (by omega) h16 (by omega) (by omega)
          exact this
        rw [Int.add_mul] at p2
        rw [Int.pow_succ]
        omega

/-- what is answered: the number and the error's number -/
def ans (base : Int) (most : Nat) (l : List UInt8) : Int × Int :=
  if l.length < 1 ∨ most < l.length then (0, 4) else match num base l with
    | none => (0, 4)
    | some n => (n, 0)

theorem take_snoc (s : ByteArray) (k : Nat) (h : k < s.size) : s.data.toList.take (k + 1) = s.data.toList.take k ++ [s[k]] := by
  rw [List.take_succ_eq_append_getElem (by simpa using h)]; rfl

theorem take_all (s : ByteArray) (k : Nat) (h : s.size ≤ k) : s.data.toList.take k = s.data.toList := by
  rw [List.take_of_length_le (by simpa using h)]
end Num
end Go.Proofs.YtmgealcolofomaaDoor
