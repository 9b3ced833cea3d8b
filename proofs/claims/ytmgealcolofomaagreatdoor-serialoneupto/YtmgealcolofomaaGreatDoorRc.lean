/- The walk of the document's Low. -/
import Derived.Test.YtmgealcolofomaaGreatDoorRb
import Derived.Deep.QuietTactic
import Derived.BigQuiet
import Derived.WalkSmall
namespace Go.Proofs.YtmgealcolofomaaGreatDoor
open Go.RowKit
set_option linter.unusedVariables false
set_option maxRecDepth 20000

/-- a byte, small if it is one of the first m capital letters -/
def lowTo (b : UInt8) (m : Nat) : UInt8 := if 65 ≤ b.toNat ∧ b.toNat < 65 + m then b + 32 else b
theorem lowTo_zero (b : UInt8) : lowTo b 0 = b := by unfold lowTo; rw [if_neg (by omega)]
theorem lowTo_all (b : UInt8) : lowTo b 26 = low8 b := by
  have := u8_all (p := fun b => lowTo b 26 == low8 b) (by decide +kernel) b
  simpa using this
theorem lowTo_miss {b : UInt8} {m : Nat} (h : ¬ b.toNat = 65 + m) : lowTo b (m + 1) = lowTo b m := by
  unfold lowTo
  by_cases h1 : 65 ≤ b.toNat ∧ b.toNat < 65 + m
  · rw [if_pos h1, if_pos (by omega)]
  · rw [if_neg h1, if_neg (by omega)]
theorem up_tab : ∀ m : Fin 26, (({ data := #[65, 66, 67, 68, 69, 70, 71, 72, 73, 74, 75, 76, 77, 78, 79, 80, 81, 82, 83, 84, 85, 86, 87, 88, 89, 90] } : ByteArray)[m.1]'(m.2)).toNat = 65 + m.1 := by decide
theorem lo_tab : ∀ m : Fin 26, (({ data := #[97, 98, 99, 100, 101, 102, 103, 104, 105, 106, 107, 108, 109, 110, 111, 112, 113, 114, 115, 116, 117, 118, 119, 120, 121, 122] } : ByteArray).extract m.1 (m.1 + 1)) = ⟨#[lowTo (UInt8.ofNat (65 + m.1)) (m.1 + 1)]⟩ := by decide +kernel
theorem lowTo_hit {b : UInt8} {m : Nat} (hm : m < 26) (h : b.toNat = 65 + m) : (({ data := #[97, 98, 99, 100, 101, 102, 103, 104, 105, 106, 107, 108, 109, 110, 111, 112, 113, 114, 115, 116, 117, 118, 119, 120, 121, 122] } : ByteArray).extract m (m + 1)) = ⟨#[lowTo b (m + 1)]⟩ := by
  have := lo_tab ⟨m, hm⟩
  have e : UInt8.ofNat (65 + m) = b := by rw [← h]; simp
  rw [e] at this
  exact this
theorem up_eq {b : UInt8} {m : Nat} (hm : m < 26) (h : b.toNat = 65 + m) : ((b.toNat : Int) == ((({ data := #[65, 66, 67, 68, 69, 70, 71, 72, 73, 74, 75, 76, 77, 78, 79, 80, 81, 82, 83, 84, 85, 86, 87, 88, 89, 90] } : ByteArray)[m]'hm).toNat : Int)) = true := by
  have := up_tab ⟨m, hm⟩; simp only at this; rw [this, h]; simp
theorem up_ne {b : UInt8} {m : Nat} (hm : m < 26) (h : ¬ b.toNat = 65 + m) : ((b.toNat : Int) == ((({ data := #[65, 66, 67, 68, 69, 70, 71, 72, 73, 74, 75, 76, 77, 78, 79, 80, 81, 82, 83, 84, 85, 86, 87, 88, 89, 90] } : ByteArray)[m]'hm).toNat : Int)) = false := by
  have := up_tab ⟨m, hm⟩; simp only at this; rw [this, beq_eq_false_iff_ne]; omega

theorem one_byte (s : ByteArray) (k : Nat) (h : k < s.size) : s.extract k (k + 1) = ⟨#[s[k]]⟩ := by
  apply eq_list
  rw [Lib.extract_data, Nat.add_sub_cancel_left]
  have h' : k < s.data.toList.length := by simpa using h
  rw [List.drop_eq_getElem_cons h']
  rfl
theorem cat_byte (l : List UInt8) (c : UInt8) : ((⟨l.toArray⟩ : ByteArray) ++ (⟨#[c]⟩ : ByteArray)) = ⟨(l ++ [c]).toArray⟩ := by
  apply eq_list; simp
theorem mk_sz (l : List UInt8) : (⟨l.toArray⟩ : ByteArray).size = l.length := by simp [ByteArray.size]

/-- what stands of the first k bytes -/
def Ld (s : ByteArray) (k : Nat) : List UInt8 := lower (s.data.toList.take k)
theorem Ld_succ (s : ByteArray) (k : Nat) (h : k < s.size) : Ld s (k + 1) = Ld s k ++ [low8 s[k]] := by
  unfold Ld lower; rw [List.take_succ_eq_append_getElem (by simpa using h)]; simp; rfl
theorem Ld_len (s : ByteArray) (k : Nat) (h : k ≤ s.size) : (Ld s k).length = k := by
  unfold Ld lower; simp; omega
theorem Ld_all (s : ByteArray) (k : Nat) (h : s.size ≤ k) : Ld s k = lower s.data.toList := by
  unfold Ld; rw [List.take_of_length_le (by simpa using h)]

end Go.Proofs.YtmgealcolofomaaGreatDoor
