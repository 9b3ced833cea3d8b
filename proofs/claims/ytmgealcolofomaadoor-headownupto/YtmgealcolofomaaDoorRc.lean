/- The walk of the document's Low. -/
import Derived.Test.YtmgealcolofomaaDoorRb
import Derived.Deep.QuietTactic
import Derived.BigQuiet
import Derived.WalkSmall
namespace Go.Proofs.YtmgealcolofomaaDoor
open Go.RowKit
set_option linter.unusedVariables false
set_option maxRecDepth 20000

/-- a byte, small if it is one of the first m capital letters -/
def lowTo (b : UInt8) (m : Nat) : UInt8 := if 65 ≤ b.toNat ∧ b.toNat < 65 + m then b + 32 else b
theorem lowTo_zero (b : UInt8) : lowTo b 0 = b := by unfold lowTo; rw [if_neg (by omega)]
theorem lowTo_all (b : UInt8) : lowTo b 26 = low8 b := by
  have := u8_all (p := fun b => lowTo b 26 == low8 b) (by decide +kernel) b
  simpa using this
theorem lowTo_miss {b : UInt8} {m : Nat} (h : ¬ b.toNat = 65 + m) : lowTo b (m + 1) = lowTo b m := by
  unfold lowTo
  by_cases h1 : 65 ≤ b.toNat ∧ b.toNat < 65 + m
  · rw [if_pos h1, if_pos (by omega)]
  · rw [if_neg h1, if_neg (by omega)]
theorem up_tab : ∀ m : Fin 26, (({ data := #[65, 66, 67, 68, 69, 70, 71, 72, 73, 74, 75, 76, 77, 78, 79, 80, 81, 82, 83, 84, 85, 86, 87, 88, 89, 90] } : ByteArray)[m.1]'(m.2)).toNat = 65 + m.1 := by decide
theorem lo_tab : ∀ m : Fin 26, (({ data := #[97, 98, 99, 100, 101, 102, 103, 104, 105, 106, 107, 108, 109, 110, 111, 112, 113, 114, 115, 116, 117, 118, 119, 120, 121, 122] } : ByteArray).extract m.1 (m.1 + 1)) = ⟨#[lowTo (UInt8.ofNat (65 + m.1)) (m.1 + 1)]⟩ := by decide +kernel
theorem lowTo_hit {b : UInt8} {m : Nat} (hm : m < 26) (h : b.toNat = 65 + m) : (({ data := #[97, 98, 99, 100, 101, 102, 103, 104, 105, 106, 107, 108, 109, 110, 111, 112, 113, 114, 115, 116, 117, 118, 119, 120, 121, 122] } : ByteArray).extract m (m + 1)) = ⟨#[lowTo b (m + 1)]⟩ := by
  have := lo_tab ⟨m, hm⟩
  have e : UInt8.ofNat (65 + m) = b := by rw [← h]; simp
  rw [e] at this
  exact this
theorem up_eq {b : UInt8} {m : Nat} (hm : m < 26) (h : b.toNat = 65 + m) : ((b.toNat : Int) == ((({ data := #[65, 66, 67, 68, 69, 70, 71, 72, 73, 74, 75, 76, 77, 78, 79, 80, 81, 82, 83, 84, 85, 86, 87, 88, 89, 90] } : ByteArray)[m]'hm).toNat : Int)) = true := by
  have := up_tab ⟨m, hm⟩; simp only at this; rw [this, h]; simp
theorem up_ne {b : UInt8} {m : Nat} (hm : m < 26) (h : ¬ b.toNat = 65 + m) : ((b.toNat : Int) == ((({ data := #[65, 66, 67, 68, 69, 70, 71, 72, 73, 74, 75, 76, 77, 78, 79, 80, 81, 82, 83, 84, 85, 86, 87, 88, 89, 90] } : ByteArray)[m]'hm).toNat : Int)) = false := by
  have := up_tab ⟨m, hm⟩; simp only at this; rw [this, beq_eq_false_iff_ne]; omega

theorem one_byte (s : ByteArray) (k : Nat) (h : k < s.size) : s.extract k (k + 1) = ⟨#[s[k]]⟩ := by
  apply eq_list
  rw [Lib.extract_data, Nat.add_sub_cancel_left]
  have h' : k < s.data.toList.length := by simpa using h
  rw [List.drop_eq_getElem_cons h']
  rfl
theorem cat_byte (l : List UInt8) (c : UInt8) : ((⟨l.toArray⟩ : ByteArray) ++ (⟨#[c]⟩ : ByteArray)) = ⟨(l ++ [c]).toArray⟩ := by
  apply eq_list; simp
theorem mk_sz (l : List UInt8) : (⟨l.toArray⟩ : ByteArray).size = l.length := by simp [ByteArray.size]

/-- what stands of the first k bytes -/
def Ld (s : ByteArray) (k : Nat) : List UInt8 := lower (s.data.toList.take k)
theorem Ld_succ (s : ByteArray) (k : Nat) (h : k < s.size) : Ld s (k + 1) = Ld s k ++ [low8 s[k]] := by
  unfold Ld lower; rw [List.take_succ_eq_append_getElem (by simpa using h)]; simp; rfl
theorem Ld_len (s : ByteArray) (k : Nat) (h : k ≤ s.size) : (Ld s k).length = k := by
  unfold Ld lower; simp; omega
theorem Ld_all (s : ByteArray) (k : Nat) (h : s.size ≤ k) : Ld s k = lower s.data.toList := by
  unfold Ld; rw [List.take_of_length_le (by simpa using h)]

set_option maxHeartbeats 4000000 in
theorem rlow_any (s : ByteArray) (w : World) (hs : s.size ≤ 1099511627776) :
    Calls Tryd.prog 33 #[.string s] w fun e w' => e = .returned (.string ⟨(lower s.data.toList).toArray⟩) ∧ Below w.heap.size w w' := by
  go_enter Tryd.func33, Tryd.ntmps33
  go_wp2
  go_loopw [3, 4] (fun v i wr => ∃ (k : Nat) (o : ByteArray), k ≤ s.size ∧ i = .int .i64 k ∧ v = .string o ∧ o = ⟨(Ld s k).toArray⟩ ∧ Below w.heap.size w wr) (fun _ i _ => s.size - (intOf i).toNat)
  case atStart => exact ⟨0, _, Nat.zero_le _, rfl, rfl, rfl, Below.refl _ _⟩
  case round =>
    obtain ⟨k, o, hk, rfl, rfl, ho, hbel⟩ := hrel
    have HB := hide hbel
    have HO := hide ho
    have hos : o.size = k := by rw [ho, mk_sz, Ld_len s k hk]
    have hos' : o.size ≤ 1099511627776 := by omega
    have HOS := hide hos
    clear hbel ho hos
    by_cases hlt : k < s.size
    · have HX := hide (one_byte s k hlt)
      go_wp2
      go_loopw [5, 6] (fun v i wr => ∃ (m : Nat) (c : ByteArray), m ≤ 26 ∧ i = .int .i64 m ∧ v = .string c ∧ c = ⟨#[lowTo s[k] m]⟩ ∧ Below w.heap.size w wr) (fun _ i _ => 26 - (intOf i).toNat)
      case atStart => exact ⟨0, _, Nat.zero_le _, rfl, rfl, by rw [lowTo_zero]; exact unhide HX, unhide HB⟩
      case round =>
        obtain ⟨m, c, hm, rfl, rfl, hc, hbel⟩ := hrel
        have HB2 := hide hbel
        have HC := hide hc
        clear hbel hc
        have hlt' : (k : Int) < (s.size : Int) := by omega
        by_cases hm2 : m < 26
        · have hm2' : (m : Int) < 26 := by omega
          by_cases he : s[k].toNat = 65 + m
          · have hb := up_eq hm2 he
            have HH := hide (lowTo_hit hm2 he)
            clear he
            go_wp2
            go_quiet (fail)
            go_wp2
            exact ⟨⟨m + 1, _, by omega, by go_num, rfl, unhide HH, Go.below_drewN (unhide HB2) _⟩, by simp [intOf]; omega⟩
          · have hb := up_ne hm2 he
            have HH := hide (lowTo_miss he)
            clear he
            go_wp2
            go_quiet (fail)
            go_wp2
            exact ⟨⟨m + 1, c, by omega, by go_num, rfl, by rw [unhide HH]; exact unhide HC, Go.below_drewN (unhide HB2) _⟩, by simp [intOf]; omega⟩
        · obtain rfl : m = 26 := by omega
          have HE : Hid (o ++ c = ⟨(Ld s (k + 1)).toArray⟩) := hide (by rw [unhide HO, unhide HC, lowTo_all, cat_byte, Ld_succ s k hlt])
          have hcs : c.size = 1 := by rw [unhide HC]; rfl
          go_wp2
          exact ⟨⟨k + 1, _, by omega, by go_num, rfl, unhide HE, unhide HB2⟩, by simp [intOf]; omega⟩
    · have HE := hide (Ld_all s k (by omega))
      go_wp2
      go_ret
      exact ⟨ret_str (by rw [← unhide HE]; exact unhide HO), unhide HB⟩
end Go.Proofs.YtmgealcolofomaaDoor
