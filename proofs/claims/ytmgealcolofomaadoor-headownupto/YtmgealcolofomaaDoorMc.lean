/- Walks: what is wrong with a head (the program's). -/
import Derived.Test.YtmgealcolofomaaDoorMb
import Derived.Test.YtmgealcolofomaaDoorWt
import Derived.BigQuiet
import Derived.Deep.QuietTactic
namespace Go.Proofs.YtmgealcolofomaaDoor
open Go.RowKit Kb
set_option linter.unusedVariables false
set_option maxRecDepth 20000
open Mh (Fl)

theorem all_takeP (p : UInt8 → Bool) (s : ByteArray) (k : Nat) (h : k < s.size) : (s.data.toList.take (k + 1)).all p = ((s.data.toList.take k).all p && p s[k]) := by
  rw [List.take_succ_eq_append_getElem (by simpa using h), List.all_append]; simp; rfl
theorem all_badP (p : UInt8 → Bool) (s : ByteArray) (k : Nat) (h : k < s.size) (hb : p s[k] = false) : s.data.toList.all p = false := by
  rw [← List.take_append_drop (k + 1) s.data.toList, List.all_append, all_takeP p s k h, hb]; simp
theorem all_goodP (p : UInt8 → Bool) (s : ByteArray) (k : Nat) (h : s.size ≤ k) (hb : (s.data.toList.take k).all p = true) : s.data.toList.all p = true := by
  rwa [List.take_of_length_le (by simpa using h)] at hb
theorem beqT {a : UInt8} {n : Nat} (h : a.toNat = n) : ((a.toNat : Int) == (n : Int)) = true := by rw [h]; simp
theorem beqF {a : UInt8} {n : Nat} (h : ¬ a.toNat = n) : ((a.toNat : Int) == (n : Int)) = false := by rw [beq_eq_false_iff_ne]; omega
theorem empty_not (s : ByteArray) : s.data.toList.isEmpty = decide (s.size = 0) := by
  rw [← len_data s]
  cases s.data.toList <;> simp
set_option maxHeartbeats 400000 in
theorem isMethod_any (s : ByteArray) (w : World) (hs : s.size ≤ maxLen) :
    Calls Tryd.prog 73 #[.string s] w fun e w' => e = .returned (.bool (Mh.methodB s.data.toList)) ∧ w' = w := by
  have HT := hide (token_any s w hs)
  have HM : Hid (Mh.methodB s.data.toList = (decide (s.size ≤ 20) && tokenB s.data.toList)) := hide (by unfold Mh.methodB; rw [len_data])
  obtain ⟨b, hb⟩ : ∃ b, tokenB s.data.toList = b := ⟨_, rfl⟩
  rw [hb] at HT HM
  clear hb
  unfold maxLen at hs
  by_cases h : s.size ≤ 20
  · have h' : (s.size : Int) ≤ 20 := by omega
    go_enter Tryd.func73, Tryd.ntmps73
    go_wp2_with (go_at_call 92; refine (unhide HT).mono ?_; rintro e wx ⟨rfl, rfl⟩)
    go_ret
    exact ⟨ret_bool (by rw [unhide HM, decide_eq_true h]; simp), rfl⟩
  · have h' : ¬ (s.size : Int) ≤ 20 := by omega
    go_enter Tryd.func73, Tryd.ntmps73
    go_wp2_with (go_at_call 92; refine (unhide HT).mono ?_; rintro e wx ⟨rfl, rfl⟩)
    go_ret
    exact ⟨ret_bool (by rw [unhide HM, decide_eq_false h]; simp), rfl⟩
set_option maxHeartbeats 1000000 in
theorem isTarget_any (s : ByteArray) (w : World) (hs : s.size ≤ maxLen) :
    Calls Tryd.prog 74 #[.string s] w fun e w' => e = .returned (.bool (Mh.targetB s.data.toList)) ∧ w' = w := by
  unfold maxLen at hs
  go_enter Tryd.func74, Tryd.ntmps74
  go_wp2
  go_loop [6] (fun i => ∃ k : Nat, k ≤ s.size ∧ i = .int .i64 k ∧ (s.data.toList.take k).all Mh.visT = true) (fun i => s.size - (intOf i).toNat)
  case atStart => exact ⟨0, Nat.zero_le _, rfl, rfl⟩
  case round =>
    obtain ⟨k, hk, rfl, ha⟩ := hrel
    have HA := hide ha
    clear ha
    by_cases hlt : k < s.size
    · obtain ⟨c, hc⟩ : ∃ c, s[k] = c := ⟨_, rfl⟩
      have HR := hide (all_takeP Mh.visT s k hlt)
      have HB := hide (all_badP Mh.visT s k hlt)
      rw [hc] at HR HB
      have hv : Mh.visT c = (decide (33 ≤ c.toNat) && decide (c.toNat ≤ 126)) := rfl
      by_cases h1 : c.toNat < 33
      · have HX : Hid (Mh.targetB s.data.toList = false) := hide (by unfold Mh.targetB; rw [unhide HB (by rw [hv, decide_eq_false (by omega)]; rfl)]; rfl)
        clear HR HB hv
        go_wp2
        go_ret
        exact ⟨ret_bool (unhide HX).symm, rfl⟩
      · by_cases h2 : 126 < c.toNat
        · have HX : Hid (Mh.targetB s.data.toList = false) := hide (by unfold Mh.targetB; rw [unhide HB (by rw [hv, decide_eq_false (show ¬ c.toNat ≤ 126 by omega)]; simp)]; rfl)
          clear HR HB hv
          go_wp2
          go_ret
          exact ⟨ret_bool (unhide HX).symm, rfl⟩
        · have HX : Hid ((s.data.toList.take (k + 1)).all Mh.visT = true) := hide (by rw [unhide HR, unhide HA, hv, decide_eq_true (by omega), decide_eq_true (by omega)]; rfl)
          clear HR HB hv
          go_wp2
          exact ⟨⟨k + 1, by omega, by go_num, unhide HX⟩, by simp [intOf]; omega⟩
    · have HX : Hid (Mh.targetB s.data.toList = !decide (s.size = 0)) := hide (by unfold Mh.targetB; rw [all_goodP Mh.visT s k (by omega) (unhide HA), empty_not]; rfl)
      by_cases h0 : s.size = 0
      · have he : s.toList.isEmpty = true := by rw [Lib.toList_data, empty_not, decide_eq_true h0]
        rw [decide_eq_true h0] at HX
        go_wp2
        go_ret
        exact ⟨ret_bool (unhide HX).symm, rfl⟩
      · have he : s.toList.isEmpty = false := by rw [Lib.toList_data, empty_not, decide_eq_false h0]
        rw [decide_eq_false h0] at HX
        go_wp2
        go_ret
        exact ⟨ret_bool (unhide HX).symm, rfl⟩
set_option maxHeartbeats 400000 in
theorem inValue_any (c : UInt8) (w : World) :
    Calls Tryd.prog 114 #[.int .u8 c.toNat] w fun e w' => e = .returned (.bool (Mh.valB c)) ∧ w' = w := by
  have hc := c.toNat_lt
  have hv : Mh.valB c = (decide (c.toNat = 9) || (decide (32 ≤ c.toNat) && !decide (c.toNat = 127))) := by
    unfold Mh.valB
    rw [show (c == 9) = decide (c.toNat = 9) by rw [Bool.eq_iff_iff, beq_iff_eq, decide_eq_true_eq, ← UInt8.toNat_inj]; rfl,
      show (c == 127) = decide (c.toNat = 127) by rw [Bool.eq_iff_iff, beq_iff_eq, decide_eq_true_eq, ← UInt8.toNat_inj]; rfl]
  have HV := hide hv
  clear hv
  by_cases h9 : c.toNat = 9
  · have hb : ((c.toNat : Int) == 9) = true := beqT h9
    rw [decide_eq_true h9] at HV
    clear h9
    go_enter Tryd.func114, Tryd.ntmps114
    go_wp2
    go_ret
    exact ⟨ret_bool (by rw [unhide HV]; rfl), rfl⟩
  · have hb : ((c.toNat : Int) == 9) = false := beqF h9
    rw [decide_eq_false h9] at HV
    by_cases h32 : 32 ≤ c.toNat
    · rw [decide_eq_true h32] at HV
      have h32' : (32 : Int) ≤ c.toNat := by omega
      by_cases h127 : c.toNat = 127
      · have hb2 : ((c.toNat : Int) == 127) = true := beqT h127
        rw [decide_eq_true h127] at HV
        clear h127
        go_enter Tryd.func114, Tryd.ntmps114
        go_wp2
        go_ret
        exact ⟨ret_bool (by rw [unhide HV, bne, hb2]; rfl), rfl⟩
      · have hb2 : ((c.toNat : Int) == 127) = false := beqF h127
        rw [decide_eq_false h127] at HV
        go_enter Tryd.func114, Tryd.ntmps114
        go_wp2
        go_ret
        exact ⟨ret_bool (by rw [unhide HV, bne, hb2]; rfl), rfl⟩
    · rw [decide_eq_false h32] at HV
      have h32' : ¬ (32 : Int) ≤ c.toNat := by omega
      go_enter Tryd.func114, Tryd.ntmps114
      go_wp2
      go_ret
      exact ⟨ret_bool (by rw [unhide HV]; rfl), rfl⟩
set_option maxHeartbeats 1000000 in
theorem isValue_any (s : ByteArray) (w : World) (hs : s.size ≤ 68719476736) :
    Calls Tryd.prog 93 #[.string s] w fun e w' => e = .returned (.bool (Mh.valueB s.data.toList)) ∧ Below w.heap.size w w' := by
  have HT := hide (fun W => trim_any s W hs)
  go_enter Tryd.func93, Tryd.ntmps93
  go_wp2
  go_loop [6] (fun i => ∃ k : Nat, k ≤ s.size ∧ i = .int .i64 k ∧ (s.data.toList.take k).all Mh.valB = true) (fun i => s.size - (intOf i).toNat)
  case atStart => exact ⟨0, Nat.zero_le _, rfl, rfl⟩
  case round =>
    obtain ⟨k, hk, rfl, ha⟩ := hrel
    have HA := hide ha
    clear ha
    by_cases hlt : k < s.size
    · have HC := hide (inValue_any s[k] w)
      have HR := hide (all_takeP Mh.valB s k hlt)
      have HB := hide (all_badP Mh.valB s k hlt)
      obtain ⟨b, hb⟩ : ∃ b, Mh.valB s[k] = b := ⟨_, rfl⟩
      rw [hb] at HC HR HB
      clear hb
      cases b
      · have HX : Hid (Mh.valueB s.data.toList = false) := hide (by unfold Mh.valueB; rw [unhide HB rfl]; rfl)
        clear HR HB
        go_wp2_with (go_at_call 114; refine (unhide HC).mono ?_; rintro e wx ⟨rfl, rfl⟩)
        go_ret
        exact ⟨ret_bool (unhide HX).symm, Below.refl _ _⟩
      · have HX : Hid ((s.data.toList.take (k + 1)).all Mh.valB = true) := hide (by rw [unhide HR, unhide HA]; rfl)
        clear HR HB
        go_wp2_with (go_at_call 114; refine (unhide HC).mono ?_; rintro e wx ⟨rfl, rfl⟩)
        exact ⟨⟨k + 1, by omega, by go_num, unhide HX⟩, by simp [intOf]; omega⟩
    · have HX : Hid (Mh.valueB s.data.toList = decide (trim s.data.toList = s.data.toList)) := hide (by unfold Mh.valueB; rw [all_goodP Mh.valB s k (by omega) (unhide HA)]; rfl)
      obtain ⟨q, hq⟩ : ∃ q : ByteArray, (⟨(trim s.data.toList).toArray⟩ : ByteArray) = q := ⟨_, rfl⟩
      rw [hq] at HT
      have hql : q.data.toList = trim s.data.toList := by rw [← hq]
      rw [← hql] at HX
      clear hq hql HA
      by_cases hqs : q = s
      · subst hqs
        rw [decide_eq_true rfl] at HX
        go_wp2_with (go_at_call 55; refine ((unhide HT) _).mono ?_; rintro e wx ⟨rfl, b1⟩)
        go_ret
        exact ⟨ret_bool (unhide HX).symm, b1⟩
      · have hne := str_f hqs
        rw [decide_eq_false (fun e => hqs (eq_of_lists e))] at HX
        go_wp2_with (go_at_call 55; refine ((unhide HT) _).mono ?_; rintro e wx ⟨rfl, b1⟩)
        go_ret
        exact ⟨ret_bool (unhide HX).symm, b1⟩
end Go.Proofs.YtmgealcolofomaaDoor
