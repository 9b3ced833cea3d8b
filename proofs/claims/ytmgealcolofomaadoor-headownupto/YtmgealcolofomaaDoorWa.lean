/- Walks of digits: digit, value. -/
import Derived.Test.YtmgealcolofomaaDoorWs
import Derived.Test.YtmgealcolofomaaDoorNum
import Derived.WalkKit
import Derived.WalkSpells
namespace Go.Proofs.YtmgealcolofomaaDoor
open Go.RowKit
set_option linter.unusedVariables false
set_option maxRecDepth 20000

/-- the digit of base 16, small letters alone -/
def digS (c : Int) : Int := if 48 ≤ c ∧ c ≤ 57 then c - 48 else if 97 ≤ c ∧ c ≤ 102 then c - 87 else -1
def digV (c : Int) : Int := if digS c < 0 then 0 else digS c
def digB (c : Int) : Bool := decide (0 ≤ digS c)

theorem ret_int_bool {k : IntKind} {a b : Int} {p q : Bool} (h : a = b) (g : p = q) : Ending.returned (.tuple #[.int k a, .bool p]) = .returned (.tuple #[.int k b, .bool q]) := by rw [h, g]

set_option maxHeartbeats 800000 in
theorem digit_any (c : Int) (w : World) (h0 : 0 ≤ c) (h1 : c ≤ 255) :
    Calls Tryd.prog 112 #[.int .u8 c] w fun e w' => e = .returned (.tuple #[.int .i64 (digV c), .bool (digB c)]) ∧ w' = w := by
  by_cases ha : 48 ≤ c <;> by_cases hb : c ≤ 57 <;> by_cases hc : 97 ≤ c <;> by_cases hd : c ≤ 102 <;> try omega
  all_goals
    go_enter Tryd.func112, Tryd.ntmps112
    go_wp2
    go_ret2
    refine ⟨ret_int_bool ?_ ?_, rfl⟩
    · unfold digV digS; repeat' split <;> omega
    · unfold digB digS; first | (refine dec_t ?_; repeat' split <;> omega) | (refine dec_f ?_; repeat' split <;> omega)

theorem tab_s : ∀ k : Fin 16, (({ data := #[48, 49, 50, 51, 52, 53, 54, 55, 56, 57, 97, 98, 99, 100, 101, 102] } : ByteArray)[k.1]'(k.2)).toNat = if k.1 < 10 then 48 + k.1 else 87 + k.1 := by decide
theorem tab_c : ∀ k : Fin 16, (({ data := #[48, 49, 50, 51, 52, 53, 54, 55, 56, 57, 65, 66, 67, 68, 69, 70] } : ByteArray)[k.1]'(k.2)).toNat = if k.1 < 10 then 48 + k.1 else 55 + k.1 := by decide

theorem val_s (k : Nat) (hk : k < 16) (c : Int) (h : c = ↑(({ data := #[48, 49, 50, 51, 52, 53, 54, 55, 56, 57, 97, 98, 99, 100, 101, 102] } : ByteArray)[k]'hk).toNat) : (k : Int) = Num.dig c := by
  have := tab_s ⟨k, hk⟩; simp only at this; rw [this] at h; unfold Num.dig; subst h; repeat' split <;> omega
theorem val_c (k : Nat) (hk : k < 16) (c : Int) (h : c = ↑(({ data := #[48, 49, 50, 51, 52, 53, 54, 55, 56, 57, 65, 66, 67, 68, 69, 70] } : ByteArray)[k]'hk).toNat) : (k : Int) = Num.dig c := by
  have := tab_c ⟨k, hk⟩; simp only at this; rw [this] at h; unfold Num.dig; subst h; repeat' split <;> omega
theorem val_sc (k : Nat) (hk : k < 16) (c : Int) (h : (c == ↑(({ data := #[48, 49, 50, 51, 52, 53, 54, 55, 56, 57, 97, 98, 99, 100, 101, 102] } : ByteArray)[k]'hk).toNat) = true ∨ (c == ↑(({ data := #[48, 49, 50, 51, 52, 53, 54, 55, 56, 57, 65, 66, 67, 68, 69, 70] } : ByteArray)[k]'hk).toNat) = true) : (k : Int) = Num.dig c := by
  rcases h with h | h
  · exact val_s k hk c (by simpa using h)
  · exact val_c k hk c (by simpa using h)
theorem val_no (k : Nat) (hk : k < 16) (c : Int) (hd : Num.dig c < 0 ∨ (k : Int) ≤ Num.dig c) (h : (c == ↑(({ data := #[48, 49, 50, 51, 52, 53, 54, 55, 56, 57, 97, 98, 99, 100, 101, 102] } : ByteArray)[k]'hk).toNat) = false ∧ (c == ↑(({ data := #[48, 49, 50, 51, 52, 53, 54, 55, 56, 57, 65, 66, 67, 68, 69, 70] } : ByteArray)[k]'hk).toNat) = false) :
    Num.dig c < 0 ∨ ((k + 1 : Nat) : Int) ≤ Num.dig c := by
  have e1 := tab_s ⟨k, hk⟩; have e2 := tab_c ⟨k, hk⟩; simp only at e1 e2
  simp only [beq_eq_false_iff_ne, ne_eq] at h
  rw [e1, e2] at h
  unfold Num.dig at *
  repeat' split
  all_goals (repeat' split at hd) <;> (repeat' split at h) <;> omega

set_option maxHeartbeats 800000 in
theorem value_any (c : Int) (w : World) (h0 : 0 ≤ c) (h1 : c ≤ 255) :
    Calls Tryd.prog 81 #[.int .u8 c] w fun e w' => e = .returned (.int .i64 (Num.dig c)) ∧ w' = w := by
  go_enter Tryd.func81, Tryd.ntmps81
  go_wp2
  go_loop [3] (fun i => ∃ k : Nat, k ≤ 16 ∧ i = .int .i64 k ∧ (Num.dig c < 0 ∨ k ≤ Num.dig c)) (fun i => 16 - (intOf i).toNat)
  case atStart => exact ⟨0, by omega, rfl, by omega⟩
  case round =>
    obtain ⟨k, hk, rfl, hd⟩ := hrel
    by_cases hlt : k < 16
    · go_wp2
      · go_ret
        exact ⟨ret_int (val_s k hlt _ rfl), rfl⟩
      · go_ret
        exact ⟨ret_int (val_sc k hlt c ‹_›), rfl⟩
      · exact ⟨⟨k + 1, by omega, by go_num, val_no k hlt c hd ‹_›⟩, by simp [intOf]; omega⟩
    · go_wp2
      go_ret
      exact ⟨ret_int (by have := Num.dig_bd c; omega), rfl⟩
end Go.Proofs.YtmgealcolofomaaDoor
