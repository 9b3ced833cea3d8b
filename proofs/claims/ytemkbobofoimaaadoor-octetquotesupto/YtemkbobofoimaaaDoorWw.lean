/- The walk of Unquote. -/
import Derived.Test.YtemkbobofoimaaaDoorWv
namespace Go.Proofs.YtemkbobofoimaaaDoor
open Go.RowKit
set_option linter.unusedVariables false

def uqV (l : List UInt8) : List UInt8 := (Qt.unquote l).getD []
def uqE (l : List UInt8) : Int := if (Qt.unquote l).isSome then 0 else 3
theorem ret_str_int {a b : ByteArray} {c d : Int} (h : a = b) (g : c = d) : Ending.returned (.tuple #[.string a, .int .i64 c]) = .returned (.tuple #[.string b, .int .i64 d]) := by rw [h, g]

theorem one_none {l : List UInt8} (h : Qt.one l = none) : oneV l = 0 ∧ oneK l = 0 := by simp [oneV, oneK, h]
theorem one_some {l : List UInt8} {c : UInt8} {k : Nat} (h : Qt.one l = some (c, k)) : oneV l = c.toNat ∧ oneK l = k := by simp [oneV, oneK, h]

theorem uq_no {l : List UInt8} {k : Nat} {out : List UInt8} (h0 : l ≠ []) (h1 : l ≠ [45]) (hu : Qt.unq l = (Qt.unq (l.drop k)).map (out ++ ·)) (hk : l.drop k ≠ []) (ho : Qt.one (l.drop k) = none) : uqV l = [] ∧ uqE l = 3 := by
  have : Qt.unquote l = none := by unfold Qt.unquote; rw [if_neg h0, if_neg h1, hu, Qt.unq_none hk ho]; rfl
  simp [uqV, uqE, this]
theorem uq_end {l : List UInt8} {k : Nat} {out : List UInt8} (h0 : l ≠ []) (h1 : l ≠ [45]) (hu : Qt.unq l = (Qt.unq (l.drop k)).map (out ++ ·)) (hk : l.drop k = []) : uqV l = out ∧ uqE l = 0 := by
  have : Qt.unquote l = some out := by unfold Qt.unquote; rw [if_neg h0, if_neg h1, hu, hk, Qt.unq_nil]; simp
  simp [uqV, uqE, this]
theorem uq_step {l : List UInt8} {k j : Nat} {c : UInt8} {out : List UInt8} (hu : Qt.unq l = (Qt.unq (l.drop k)).map (out ++ ·)) (ho : Qt.one (l.drop k) = some (c, j)) : Qt.unq l = (Qt.unq (l.drop (k + j))).map (out ++ [c] ++ ·) := by
  rw [hu, Qt.unq_some ho, List.drop_drop, Option.map_map]
  congr 1
  funext x
  simp

set_option maxHeartbeats 2000000 in
theorem unquote_any (s : ByteArray) (w : World) (hs : s.size ≤ 68719476736) :
    Calls Tryd.prog 16 #[.string s] w fun e w' => e = .returned (.tuple #[.string ⟨(uqV s.data.toList).toArray⟩, .int .i64 (uqE s.data.toList)]) ∧ Below w.heap.size w w' := by
  by_cases h0 : s.data.toList = []
  · obtain rfl : s = ⟨#[]⟩ := by obtain ⟨⟨l⟩⟩ := s; simp at h0; subst h0; rfl
    go_enter Tryd.func16, Tryd.ntmps16
    go_wp2
    go_ret2
    exact ⟨rfl, Below.refl _ _⟩
  by_cases h1 : s.data.toList = [45]
  · obtain rfl : s = ⟨#[45]⟩ := by obtain ⟨⟨l⟩⟩ := s; simp at h1; subst h1; rfl
    go_enter Tryd.func16, Tryd.ntmps16
    go_wp2
    go_ret2
    exact ⟨rfl, Below.refl _ _⟩
  have e0 : (s.toList == []) = false := by rw [ByteArray.toList_eq]; simpa using h0
  have e1 : (s.toList == [45]) = false := by rw [ByteArray.toList_eq]; simpa using h1
  have H0 := hid h0
  have H1 := hid h1
  obtain ⟨i0, hi, hz0, hz1, hz2⟩ := info_parts Tryd.infoU8
  clear h0 h1
  go_enter Tryd.func16, Tryd.ntmps16
  go_wp2
  go_loopw [4, 5] (fun v i wr => ∃ (k : Nat) (out : List UInt8), k ≤ s.size ∧ out.length ≤ k ∧ i = .int .i64 k ∧ wr.ownsRow w.heap.size 5 1 v out.length (cells out) ∧ Below w.heap.size w wr ∧ Qt.unq s.data.toList = (Qt.unq (s.data.toList.drop k)).map (out ++ ·)) (fun _ i _ => s.size - (intOf i).toNat)
  case atStart => exact ⟨0, [], Nat.zero_le _, Nat.zero_le _, rfl, World.ownsRow_nil _ _ _ _, Below.refl _ _, by simp⟩
  case round =>
    obtain ⟨k, out, hk, hok, rfl, hown, hbel, hu⟩ := hrel
    have hB := hbel.size
    have HB := hid hbel
    have HU := hid hu
    have OWN := hid hown
    clear hbel hu hown
    by_cases hlt : k < s.size
    · have HC := hid (unquoted_any (s.extract k s.size) wr (by unfold maxLen; simp; omega) (by simp; omega))
      rw [Lib.extract_to_end] at HC
      rcases ho : Qt.one (s.data.toList.drop k) with _ | ⟨c, j⟩
      · have HR := hid (uq_no H0.out H1.out HU.out (by intro e; have := congrArg List.length e; simp at this; omega) ho)
        rw [(one_none ho).1, (one_none ho).2] at HC
        clear ho
        go_wp2_with (go_at_call 33; refine HC.out.mono ?_; rintro e wx ⟨rfl, rfl⟩)
        go_ret2
        exact ⟨ret_str_int (by rw [HR.out.1]) (by rw [HR.out.2]), HB.out⟩
      · have HR := hid (uq_step HU.out ho)
        have hj := Qt.one_pos ho
        have hj2 : k + j ≤ s.size := by have := hj.2; simp at this; omega
        have hj1 : 1 ≤ j := hj.1
        rw [(one_some ho).1, (one_some ho).2] at HC
        have b3 : out.length + 1 ≤ maxLen := by unfold maxLen; omega
        have b4 : (out.length + 1) * 1 ≤ 140737488355328 := by omega
        have hj0 : ((j : Int) == 0) = false := by rw [beq_eq_false_iff_ne]; omega
        clear ho hj
        go_wp2_with (first | (go_at_call 33; refine HC.out.mono ?_; rintro e wx ⟨rfl, rfl⟩) | (at_builtin; refine wpList_append_own _ rfl _ _ 37 rfl w.heap.size 5 i0 (.int .u8 0) 1 1 Tryd.underlying37 hi hz0 hz1 hz2 rfl (by decide) _ out.length (cells out) rfl (OWN.out.alloc _) _ 1 1 _ rfl rfl (cell_one_new _ _ _) (by simp [Value.oneCell']) b3 b4 (by simp; omega) ?_; intro v1 w1 own1 grow1 _))
        refine ⟨⟨k + j, out ++ [c], by omega, by simp; omega, by go_num, ?_, ?_, ?_⟩, by simp [intOf]; omega⟩
        · rw [List.length_append, cells_append]; exact own1
        · exact (HB.out.alloc hB _).grown grow1 (by simp; omega) (own_lt OWN.out)
        · exact HR.out
    · have HR := hid (uq_end H0.out H1.out HU.out (by rw [List.drop_eq_nil_iff]; simp; omega))
      have hcv := own_string OWN.out
      go_wp2
      go_ret2
      exact ⟨ret_str_int (by rw [HR.out.1]) (by rw [HR.out.2]), HB.out⟩
end Go.Proofs.YtemkbobofoimaaaDoor
