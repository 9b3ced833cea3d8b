/- The walk of Quote. -/
import Derived.Test.YtemkbobofoimaaaDoorWq
namespace Go.Proofs.YtemkbobofoimaaaDoor
open Go.RowKit
set_option linter.unusedVariables false

theorem ret_string {a b : ByteArray} (h : a = b) : Ending.returned (.string a) = .returned (.string b) := by rw [h]

/-- a row of bytes of the call's own, as a string -/
theorem own_string {w : World} {B n : Nat} {v : Value} {l : List UInt8} (h : w.ownsRow B 5 1 v n (cells l)) : (convert 37 9 v).run Tryd.prog w = .ok (.string ⟨l.toArray⟩) w := by
  have hl : l.length = n := by have := h.1; rw [cells_length] at this; omega
  rcases h.2 with ⟨rfl, h0⟩ | ⟨g, cap, cur, rfl, _⟩
  · have : l = [] := List.length_eq_zero_iff.1 (by omega)
    subst this
    exact run_convert_bytes_nil w 37 5 Tryd.underlying37 Tryd.underlying5 0 0 9 Tryd.underlying9
  · subst hl
    refine run_convert_bytes_back w 37 9 5 ⟨g, 0, none⟩ cap l Tryd.underlying37 Tryd.underlying5 Tryd.underlying9 fun j hj => ?_
    exact h.cells rfl j _ (by simp [cells, List.getElem?_eq_getElem hj])

theorem take_snoc' (s : ByteArray) (k : Nat) (h : k < s.size) : s.data.toList.take (k + 1) = s.data.toList.take k ++ [s[k]] := by
  rw [List.take_succ_eq_append_getElem (by simpa using h)]; rfl

/-- what has been written of the first k bytes -/
def Qd (s : ByteArray) (k : Nat) : List UInt8 := (s.data.toList.take k).flatMap Qt.q1
theorem Qd_succ (s : ByteArray) (k : Nat) (h : k < s.size) : Qd s (k + 1) = Qd s k ++ Qt.q1 s[k] := by
  unfold Qd; rw [take_snoc' s k h, Qt.flat_snoc]
theorem Qd_len (s : ByteArray) (k : Nat) : (Qd s k).length ≤ 4 * k := by
  unfold Qd; have := Qt.flat_len (s.data.toList.take k); rw [List.length_take] at this; omega
theorem Qd_all (s : ByteArray) (k : Nat) (h : s.size ≤ k) : Qd s k = s.data.toList.flatMap Qt.q1 := by
  unfold Qd; rw [List.take_of_length_le (by simpa using h)]

set_option maxHeartbeats 2000000 in
theorem quote_any (s : ByteArray) (w : World) (hs : s.size ≤ 68719476736) :
    Calls Tryd.prog 18 #[.string s] w fun e w' => e = .returned (.string ⟨(Qt.quote s.data.toList).toArray⟩) ∧ Below w.heap.size w w' := by
  by_cases h0 : s.data.toList = []
  · obtain rfl : s = ⟨#[]⟩ := by obtain ⟨⟨l⟩⟩ := s; simp at h0; subst h0; rfl
    go_enter Tryd.func18, Tryd.ntmps18
    go_wp2
    go_ret
    exact ⟨rfl, Below.refl _ _⟩
  by_cases h1 : s.data.toList = [45]
  · obtain rfl : s = ⟨#[45]⟩ := by obtain ⟨⟨l⟩⟩ := s; simp at h1; subst h1; rfl
    go_enter Tryd.func18, Tryd.ntmps18
    go_wp2
    go_ret
    exact ⟨rfl, Below.refl _ _⟩
  have HR : Hid (Qt.quote s.data.toList = s.data.toList.flatMap Qt.q1) := by
    show _ = _
    unfold Qt.quote; rw [if_neg h0, if_neg h1]
  have e0 : (s.toList == []) = false := by rw [ByteArray.toList_eq]; simpa using h0
  have e1 : (s.toList == [45]) = false := by rw [ByteArray.toList_eq]; simpa using h1
  clear h0 h1
  go_enter Tryd.func18, Tryd.ntmps18
  go_wp2
  go_loopw [3, 12] (fun v i wr => ∃ k : Nat, k ≤ s.size ∧ i = .int .i64 k ∧ wr.ownsRow w.heap.size 5 1 v (Qd s k).length (cells (Qd s k)) ∧ Below w.heap.size w wr) (fun _ i _ => s.size - (intOf i).toNat)
  case atStart => exact ⟨0, Nat.zero_le _, rfl, World.ownsRow_nil _ _ _ _, Below.refl _ _⟩
  case round =>
    obtain ⟨k, hk, rfl, hown, hbel⟩ := hrel
    have hB := hbel.size
    have hq := Qd_len s k
    by_cases hlt : k < s.size
    · have HC := hid (appendQuoted_any _ _ _ _ s[k] _ hB (by omega) hown)
      rw [← Qd_succ s k hlt, ← List.length_append, ← Qd_succ s k hlt] at HC
      have HB := hid hbel
      clear hown hbel
      go_wp2_with (go_at_call 35; refine HC.out.mono ?_; rintro e w1 ⟨v1, rfl, own1, bel1⟩)
      exact ⟨⟨k + 1, by omega, by go_num, own1, HB.out.trans bel1⟩, by simp [intOf]; omega⟩
    · have HS := hid (own_string hown)
      have HB := hid hbel
      rw [Qd_all s k (by omega)] at HS
      have hcv := HS.out
      clear hown hbel
      go_wp2
      go_ret
      exact ⟨ret_string (by rw [HR.out]), HB.out⟩
end Go.Proofs.YtemkbobofoimaaaDoor
