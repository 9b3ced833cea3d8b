/- Walks of Token and Trim. -/
import Derived.Test.YtgmpgacedmjgdaaDoorKd
import Derived.Test.YtgmpgacedmjgdaaDoorWl
import Derived.Test.YtgmpgacedmjgdaaDoorFnd
import Derived.Test.YtgmpgacedmjgdaaDoorShelf
import Derived.Shelf.Strings.SlTrimAscii
namespace Go.Proofs.YtgmpgacedmjgdaaDoor
open Go.RowKit
set_option linter.unusedVariables false
set_option maxRecDepth 20000

/-- the signs of a token that are no letters and no digits -/
def signs : List UInt8 := [33, 35, 36, 37, 38, 39, 42, 43, 45, 46, 94, 95, 124, 126, 96]
def tok8 (c : UInt8) : Bool := (decide (97 ≤ (low8 c).toNat) && decide ((low8 c).toNat ≤ 122)) || (decide (48 ≤ c.toNat) && decide (c.toNat ≤ 57)) || decide (0 ≤ Lib.indexByte signs c)
def tokenB (l : List UInt8) : Bool := !l.isEmpty && l.all tok8
theorem tok8_low (c : UInt8) : tok8 (low8 c) = tok8 c := by
  have := u8_all (p := fun c => tok8 (low8 c) == tok8 c) (by decide +kernel) c
  simpa using this
theorem tokenB_lower (l : List UInt8) : tokenB (lower l) = tokenB l := by
  unfold tokenB lower
  rw [List.all_map]
  congr 1
  · cases l <;> rfl
  · congr 1; funext c; exact tok8_low c

theorem ret_boolt {a b : Bool} (h : a = b) : Ending.returned (.bool a) = .returned (.bool b) := by rw [h]

theorem nat_int {a : UInt8} {n : Nat} (h : n ≤ a.toNat) : (n : Int) ≤ (a.toNat : Int) := by omega

theorem all_take (s : ByteArray) (k : Nat) (h : k < s.size) : (s.data.toList.take (k + 1)).all tok8 = ((s.data.toList.take k).all tok8 && tok8 s[k]) := by
  rw [List.take_succ_eq_append_getElem (by simpa using h), List.all_append]; simp; rfl
theorem all_bad (s : ByteArray) (k : Nat) (h : k < s.size) (hb : tok8 s[k] = false) : tokenB s.data.toList = false := by
  have : s.data.toList.all tok8 = false := by
    rw [← List.take_append_drop (k + 1) s.data.toList, List.all_append, all_take s k h, hb]; simp
  unfold tokenB; rw [this]; simp
theorem all_good (s : ByteArray) (k : Nat) (h : s.size ≤ k) (hb : (s.data.toList.take k).all tok8 = true) : tokenB s.data.toList = decide (0 < s.size) := by
  rw [List.take_of_length_le (by simpa using h)] at hb
  unfold tokenB; rw [hb, Bool.and_true]
  have hl : s.data.toList.length = s.size := by simp
  cases hs : s.data.toList with
  | nil => rw [hs, List.length_nil] at hl; rw [← hl]; rfl
  | cons a r => rw [hs, List.length_cons] at hl; rw [← hl]; simp

/-- without the bytes 9 and 32 at its ends -/
def trim (l : List UInt8) : List UInt8 := Lib.trimS l [9, 32]

theorem dw_head (p : UInt8 → Bool) : ∀ l : List UInt8, l.dropWhile p = [] ∨ ∃ a r, l.dropWhile p = a :: r ∧ p a = false
  | [] => .inl rfl
  | a :: r => by
    rw [List.dropWhile_cons]
    cases h : p a with
    | true => rw [if_pos rfl]; exact dw_head p r
    | false => rw [if_neg (by simp)]; exact .inr ⟨a, r, rfl, h⟩
theorem dw_suffix (p : UInt8 → Bool) (l : List UInt8) : ∃ u, l = u ++ l.dropWhile p := ⟨l.takeWhile p, (List.takeWhile_append_dropWhile).symm⟩
theorem dw_same (p : UInt8 → Bool) {a : UInt8} {r : List UInt8} (h : p a = false) : (a :: r).dropWhile p = a :: r := by
  rw [List.dropWhile_cons, h]; simp

theorem trim_trim (l : List UInt8) : trim (trim l) = trim l := by
  unfold trim Lib.trimS Lib.trimLeftS Lib.trimRightS
  generalize hp : (fun x : UInt8 => List.contains [9, 32] x) = p
  generalize hz : l.reverse.dropWhile p = z
  have hz2 := dw_head p l.reverse
  rw [hz] at hz2
  obtain ⟨u, hu⟩ := dw_suffix p z.reverse
  generalize hx : z.reverse.dropWhile p = x at hu
  have e1 : (x.reverse.dropWhile p) = x.reverse := by
    cases hxr : x.reverse with
    | nil => rfl
    | cons b r =>
      have : z = b :: (r ++ u.reverse) := by
        have := congrArg List.reverse hu
        rw [List.reverse_reverse, List.reverse_append, hxr] at this
        exact this
      rcases hz2 with h | ⟨a, r', h, ha⟩
      · rw [this] at h; cases h
      · rw [this] at h; cases h
        exact dw_same p ha
  rw [e1, List.reverse_reverse]
  have hx2 := dw_head p z.reverse
  rw [hx] at hx2
  rcases hx2 with h | ⟨a, r, h, ha⟩
  · rw [h]; rfl
  · rw [h]; exact dw_same p ha

theorem trim_piece (l : List UInt8) : ∃ u v, l = u ++ trim l ++ v := by
  unfold trim Lib.trimS Lib.trimLeftS Lib.trimRightS
  generalize (fun x : UInt8 => List.contains [9, 32] x) = p
  obtain ⟨v, hv⟩ := dw_suffix p l.reverse
  obtain ⟨u, hu⟩ := dw_suffix p (l.reverse.dropWhile p).reverse
  refine ⟨u, v.reverse, ?_⟩
  rw [← hu]
  have := congrArg List.reverse hv
  rwa [List.reverse_reverse, List.reverse_append] at this
theorem trim_len (l : List UInt8) : (trim l).length ≤ l.length := by
  obtain ⟨u, v, h⟩ := trim_piece l
  have := congrArg List.length h
  simp at this; omega

end Go.Proofs.YtgmpgacedmjgdaaDoor
