/- Walks of the document's answers on texts: in, At, Find. -/
import Derived.Test.YtmgealcolofomaaDoorKb
import Derived.Test.YtmgealcolofomaaDoorFnd
import Derived.Test.YtmgealcolofomaaDoorCh
namespace Go.Proofs.YtmgealcolofomaaDoor
open Go.RowKit Kb
set_option linter.unusedVariables false
set_option maxRecDepth 20000

/-- does a byte stand in a text? -/
def has (l : List UInt8) (c : UInt8) : Bool := l.contains c

set_option maxHeartbeats 1000000 in
theorem in_any (c : UInt8) (s : ByteArray) (w : World) (hs : s.size ≤ maxLen) :
    Calls Tryd.prog 80 #[.int .u8 c.toNat, .string s] w fun e w' => e = .returned (.bool (has s.data.toList c)) ∧ w' = w := by
  unfold maxLen at hs
  go_enter Tryd.func80, Tryd.ntmps80
  go_wp2
  go_loop [5] (fun i => ∃ k : Nat, k ≤ s.size ∧ i = .int .i64 k ∧ has (s.data.toList.take k) c = false) (fun i => s.size - (intOf i).toNat)
  case atStart => exact ⟨0, Nat.zero_le _, rfl, rfl⟩
  case round =>
    obtain ⟨k, hk, rfl, ha⟩ := hrel
    have HA := hide ha
    clear ha
    by_cases hlt : k < s.size
    · have ht : s.data.toList.take (k + 1) = s.data.toList.take k ++ [s[k]] := by
        rw [List.take_succ_eq_append_getElem (by simpa using hlt)]; rfl
      by_cases he : s[k] = c
      · have HR : Hid (has s.data.toList c = true) := by
          show _ = _
          unfold has
          rw [← List.take_append_drop (k + 1) s.data.toList, ht]; simp [he]
        have hb : ((s[k].toNat : Int) == (c.toNat : Int)) = true := by rw [he]; simp
        clear he ht
        go_wp2
        go_ret
        exact ⟨Kb.ret_bool (by rw [unhide HR]), rfl⟩
      · have HR : Hid (has (s.data.toList.take (k + 1)) c = false) := by
          show _ = _
          have h2 := unhide HA
          unfold has at *
          rw [ht]; simp at h2 ⊢; exact ⟨h2, fun e => he e.symm⟩
        have hb : ((s[k].toNat : Int) == (c.toNat : Int)) = false := by
          rw [beq_eq_false_iff_ne]; intro e; exact he (UInt8.toNat_inj.1 (by omega))
        clear he ht
        go_wp2
        exact ⟨⟨k + 1, by omega, by go_num, unhide HR⟩, by simp [intOf]; omega⟩
    · have HR : Hid (has s.data.toList c = false) := by
        show _ = _
        have h2 := unhide HA
        rwa [List.take_of_length_le (by simp; omega)] at h2
      go_wp2
      go_ret
      exact ⟨Kb.ret_bool (by rw [unhide HR]), rfl⟩

set_option maxHeartbeats 1000000 in
theorem at_in (s t : ByteArray) (k : Nat) (w : World) (hs : s.size ≤ maxLen) (hts : t.size ≤ maxLen) (hk : k ≤ s.size) :
    Calls Tryd.prog 110 #[.string s, .int .i64 k, .string t] w fun e w' => e = .returned (.bool (Lib.occAt s.data.toList t.data.toList k)) ∧ w' = w := by
  unfold maxLen at hs hts
  by_cases hr : t.size ≤ s.size - k
  · have HR : Hid (Lib.occAt s.data.toList t.data.toList k = ((s.extract k (k + t.size)).toList == t.toList)) := by
      show _ = _
      rw [Lib.occAt_iff_take _ _ _ (by simp; omega), Lib.extract_toList, ByteArray.toList_eq, show k + t.size - k = t.data.toList.length from by simp]
    go_enter Tryd.func110, Tryd.ntmps110
    go_wp2
    all_goals
      go_ret
      first | exact ⟨Kb.ret_bool (by rw [unhide HR]), rfl⟩ | exact ⟨Kb.ret_bool (by rw [unhide HR]; simp [*]), rfl⟩
  · have HR : Hid (Lib.occAt s.data.toList t.data.toList k = false) := by
      show _ = _
      rcases h : Lib.occAt s.data.toList t.data.toList k with _ | _
      · rfl
      · rcases Lib.occAt_room h with h | h
        · simp at h; omega
        · have h2 := congrArg List.length h; rw [Array.length_toList, List.length_nil] at h2; have h3 : t.size = 0 := h2; omega
    go_enter Tryd.func110, Tryd.ntmps110
    go_wp2
    all_goals
      go_ret
      first | exact ⟨Kb.ret_bool (by rw [unhide HR]), rfl⟩ | exact ⟨Kb.ret_bool (by rw [unhide HR]; simp), rfl⟩ | exact ⟨Kb.ret_bool (by rw [unhide HR]; simp; omega), rfl⟩

theorem ret_i64t {a b : Int} (h : a = b) : Ending.returned (.int .i64 a) = .returned (.int .i64 b) := by rw [h]

/-- from place a on; the rest of Find's rounds -/
theorem find_none {s t : List UInt8} {frm : Int} (h : ∀ j : Nat, max frm 0 ≤ j → j ≤ s.length → Lib.occAt s t j = false) : Fnd.find s t frm = -1 := by
  rcases Fnd.find_spec s t frm with ⟨g, _⟩ | ⟨k, g1, g2, g3, g4, g5⟩
  · exact g
  · have := h k g2 g3; rw [g4] at this; cases this

set_option maxHeartbeats 1000000 in
theorem rfind_at (s t : ByteArray) (frm : Int) (w : World) (hs : s.size ≤ 1099511627776) (hts : t.size ≤ maxLen) (h0 : 0 ≤ frm) (hf : frm ≤ 9223372036854775807) :
    Calls Tryd.prog 84 #[.string s, .string t, .int .i64 frm] w fun e w' => e = .returned (.int .i64 (Fnd.find s.data.toList t.data.toList frm)) ∧ w' = w := by
  have hlen : s.data.toList.length = s.size := by simp
  have Hl := hide hlen
  clear hlen
  go_enter Tryd.func84, Tryd.ntmps84
  go_wp2
  go_loop [7] (fun i => ∃ k : Nat, i = .int .i64 k ∧ frm ≤ k ∧ (k ≤ s.size + 1 ∨ (k : Int) = frm) ∧ ∀ j : Nat, frm ≤ j → j < k → Lib.occAt s.data.toList t.data.toList j = false) (fun i => s.size + 1 - (intOf i).toNat)
  case atStart => exact ⟨frm.toNat, by rw [Int.toNat_of_nonneg h0], by omega, by omega, fun j a b => by omega⟩
  case round =>
    obtain ⟨k, rfl, hk1, hk2, hk3⟩ := hrel
    have HK := hide hk3
    clear hk3
    by_cases hle : k ≤ s.size
    · have HC := hide (at_in s t k w (by unfold maxLen; omega) hts hle)
      rcases ho : Lib.occAt s.data.toList t.data.toList k with _ | _
      · have HR : Hid (∀ j : Nat, frm ≤ j → j < k + 1 → Lib.occAt s.data.toList t.data.toList j = false) := hide (fun j a b => by
          by_cases e : j = k
          · subst e; exact ho
          · exact (unhide HK) j a (by omega))
        rw [ho] at HC
        clear ho
        have hb : (k : Int) + 1 ≤ 1099511627777 := by omega
        go_wp2_with (go_at_call 110; refine (unhide HC).mono ?_; rintro e wx ⟨rfl, rfl⟩)
        exact ⟨⟨k + 1, by go_num, by omega, by omega, unhide HR⟩, by simp [intOf]; omega⟩
      · have HR : Hid (Fnd.find s.data.toList t.data.toList frm = k) := hide (Fnd.find_unique _ _ _ k (by omega) (by rw [unhide Hl]; exact hle) ho (fun j a b => (unhide HK) j (by omega) b))
        rw [ho] at HC
        clear ho
        go_wp2_with (go_at_call 110; refine (unhide HC).mono ?_; rintro e wx ⟨rfl, rfl⟩)
        go_ret
        exact ⟨ret_i64t (by rw [unhide HR]), rfl⟩
    · have HR : Hid (Fnd.find s.data.toList t.data.toList frm = -1) := hide (find_none (fun j a b => (unhide HK) j (by omega) (by rw [unhide Hl] at b; omega)))
      go_wp2
      go_ret
      exact ⟨ret_i64t (by rw [unhide HR]), rfl⟩

set_option maxHeartbeats 1000000 in
theorem rfind_neg (s t : ByteArray) (frm : Int) (w : World) (hs : s.size ≤ 1099511627776) (hts : t.size ≤ maxLen) (h0 : frm < 0) (hf : -9223372036854775808 ≤ frm) :
    Calls Tryd.prog 84 #[.string s, .string t, .int .i64 frm] w fun e w' => e = .returned (.int .i64 (Fnd.find s.data.toList t.data.toList frm)) ∧ w' = w := by
  have e0 : Fnd.find s.data.toList t.data.toList frm = Fnd.find s.data.toList t.data.toList 0 := by
    unfold Fnd.find; rw [show max frm 0 = max 0 0 from by omega]
  rw [e0]
  have hlen : s.data.toList.length = s.size := by simp
  have Hl := hide hlen
  clear hlen e0
  go_enter Tryd.func84, Tryd.ntmps84
  go_wp2
  go_loop [7] (fun i => ∃ k : Nat, i = .int .i64 k ∧ k ≤ s.size + 1 ∧ ∀ j : Nat, j < k → Lib.occAt s.data.toList t.data.toList j = false) (fun i => s.size + 1 - (intOf i).toNat)
  case atStart => exact ⟨0, rfl, by omega, fun j a => by omega⟩
  case round =>
    obtain ⟨k, rfl, hk2, hk3⟩ := hrel
    have HK := hide hk3
    clear hk3
    by_cases hle : k ≤ s.size
    · have HC := hide (at_in s t k w (by unfold maxLen; omega) hts hle)
      rcases ho : Lib.occAt s.data.toList t.data.toList k with _ | _
      · have HR : Hid (∀ j : Nat, j < k + 1 → Lib.occAt s.data.toList t.data.toList j = false) := hide (fun j b => by
          by_cases e : j = k
          · subst e; exact ho
          · exact (unhide HK) j (by omega))
        rw [ho] at HC
        clear ho
        have hb : (k : Int) + 1 ≤ 1099511627777 := by omega
        go_wp2_with (go_at_call 110; refine (unhide HC).mono ?_; rintro e wx ⟨rfl, rfl⟩)
        exact ⟨⟨k + 1, by go_num, by omega, unhide HR⟩, by simp [intOf]; omega⟩
      · have HR : Hid (Fnd.find s.data.toList t.data.toList 0 = k) := hide (Fnd.find_unique _ _ _ k (by omega) (by rw [unhide Hl]; exact hle) ho (fun j a b => (unhide HK) j b))
        rw [ho] at HC
        clear ho
        go_wp2_with (go_at_call 110; refine (unhide HC).mono ?_; rintro e wx ⟨rfl, rfl⟩)
        go_ret
        exact ⟨ret_i64t (by rw [unhide HR]), rfl⟩
    · have HR : Hid (Fnd.find s.data.toList t.data.toList 0 = -1) := hide (find_none (fun j a b => (unhide HK) j (by rw [unhide Hl] at b; omega)))
      go_wp2
      go_ret
      exact ⟨ret_i64t (by rw [unhide HR]), rfl⟩

theorem rfind_any (s t : ByteArray) (frm : Int) (w : World) (hs : s.size ≤ 1099511627776) (hts : t.size ≤ maxLen) (h0 : -9223372036854775808 ≤ frm) (hf : frm ≤ 9223372036854775807) :
    Calls Tryd.prog 84 #[.string s, .string t, .int .i64 frm] w fun e w' => e = .returned (.int .i64 (Fnd.find s.data.toList t.data.toList frm)) ∧ w' = w := by
  by_cases h : 0 ≤ frm
  · exact rfind_at s t frm w hs hts h hf
  · exact rfind_neg s t frm w hs hts (by omega) h0


theorem occ_at0 (s t : List UInt8) (k : Nat) (h : k ≤ s.length) : Lib.occAt s t k = Ch.at0 (s.drop k) t := by
  by_cases hr : t.length ≤ s.length - k
  · rw [Lib.occAt_iff_take _ _ _ (by omega)]; rfl
  · have e1 : Lib.occAt s t k = false := by
      rcases ho : Lib.occAt s t k with _ | _
      · rfl
      · rcases Lib.occAt_room ho with h | h
        · omega
        · subst h; simp at hr
    rw [e1]
    have : Ch.at0 (s.drop k) t = false := by
      unfold Ch.at0
      rw [beq_eq_false_iff_ne]
      intro e
      have := congrArg List.length e
      rw [List.length_take, List.length_drop] at this; omega
    rw [this]
set_option maxHeartbeats 1000000 in
theorem at_far (s t : ByteArray) (k : Int) (w : World) (hs : s.size ≤ maxLen) (hk : s.size < k) (hk2 : k ≤ 9223372036854775807) :
    Calls Tryd.prog 110 #[.string s, .int .i64 k, .string t] w fun e w' => e = .returned (.bool false) ∧ w' = w := by
  unfold maxLen at hs
  go_enter Tryd.func110, Tryd.ntmps110
  go_wp2
  all_goals
    go_ret
    first | exact ⟨rfl, rfl⟩ | exact ⟨Kb.ret_bool (by simp), rfl⟩ | exact ⟨Kb.ret_bool (by simp; omega), rfl⟩
/-- At at a place that may lie behind the text's end -/
theorem at_drop (s t : ByteArray) (k : Nat) (b : Bool) (w : World) (hs : s.size ≤ 1099511627776) (hts : t.size ≤ 1099511627776) (hne : 1 ≤ t.size) (hk : k ≤ 1099511627776) (hb : Ch.at0 (s.data.toList.drop k) t.data.toList = b) :
    Calls Tryd.prog 110 #[.string s, .int .i64 k, .string t] w fun e w' => e = .returned (.bool b) ∧ w' = w := by
  by_cases h : k ≤ s.size
  · have := at_in s t k w (by unfold maxLen; omega) (by unfold maxLen; omega) h
    rwa [occ_at0 _ _ _ (by simpa using h), hb] at this
  · have e : b = false := by
      rw [← hb, Kb.drop_end s k (by omega)]
      unfold Ch.at0
      rw [beq_eq_false_iff_ne]
      intro e
      have := congrArg List.length e
      simp at this
      have h2 : 0 = t.size := this
      omega
    rw [e]
    exact at_far s t k w (by unfold maxLen; omega) (by omega) (by omega)
end Go.Proofs.YtmgealcolofomaaDoor
