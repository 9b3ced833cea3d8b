/- Walks of the document's answers on texts: in, At, Find, Token, Trim. -/
import Derived.Test.YtmgealcolofomaaDoorWt
namespace Go.Proofs.YtmgealcolofomaaDoor
open Go.RowKit
set_option linter.unusedVariables false
set_option maxRecDepth 20000

/-- does a byte stand in a text? -/
def has (l : List UInt8) (c : UInt8) : Bool := l.contains c

set_option maxHeartbeats 1000000 in
theorem in_any (c : UInt8) (s : ByteArray) (w : World) (hs : s.size ≤ maxLen) :
    Calls Tryd.prog 80 #[.int .u8 c.toNat, .string s] w fun e w' => e = .returned (.bool (has s.data.toList c)) ∧ w' = w := by
  unfold maxLen at hs
  go_enter Tryd.func80, Tryd.ntmps80
  go_wp2
  go_loop [5] (fun i => ∃ k : Nat, k ≤ s.size ∧ i = .int .i64 k ∧ has (s.data.toList.take k) c = false) (fun i => s.size - (intOf i).toNat)
  case atStart => exact ⟨0, Nat.zero_le _, rfl, rfl⟩
  case round =>
    obtain ⟨k, hk, rfl, ha⟩ := hrel
    have HA := hide ha
    clear ha
    by_cases hlt : k < s.size
    · have ht : s.data.toList.take (k + 1) = s.data.toList.take k ++ [s[k]] := by
        rw [List.take_succ_eq_append_getElem (by simpa using hlt)]; rfl
      by_cases he : s[k] = c
      · have HR : Hid (has s.data.toList c = true) := by
          show _ = _
          unfold has
          rw [← List.take_append_drop (k + 1) s.data.toList, ht]; simp [he]
        have hb : ((s[k].toNat : Int) == (c.toNat : Int)) = true := by rw [he]; simp
        clear he ht
        go_wp2
        go_ret
        exact ⟨ret_boolt (by rw [unhide HR]), rfl⟩
      · have HR : Hid (has (s.data.toList.take (k + 1)) c = false) := by
          show _ = _
          have h2 := unhide HA
          unfold has at *
          rw [ht]; simp at h2 ⊢; exact ⟨h2, fun e => he e.symm⟩
        have hb : ((s[k].toNat : Int) == (c.toNat : Int)) = false := by
          rw [beq_eq_false_iff_ne]; intro e; exact he (UInt8.toNat_inj.1 (by omega))
        clear he ht
        go_wp2
        exact ⟨⟨k + 1, by omega, by go_num, unhide HR⟩, by simp [intOf]; omega⟩
    · have HR : Hid (has s.data.toList c = false) := by
        show _ = _
        have h2 := unhide HA
        rwa [List.take_of_length_le (by simp; omega)] at h2
      go_wp2
      go_ret
      exact ⟨ret_boolt (by rw [unhide HR]), rfl⟩

set_option maxHeartbeats 1000000 in
theorem at_in (s t : ByteArray) (k : Nat) (w : World) (hs : s.size ≤ maxLen) (hts : t.size ≤ maxLen) (hk : k ≤ s.size) :
    Calls Tryd.prog 110 #[.string s, .int .i64 k, .string t] w fun e w' => e = .returned (.bool (Lib.occAt s.data.toList t.data.toList k)) ∧ w' = w := by
  unfold maxLen at hs hts
  by_cases hr : t.size ≤ s.size - k
  · have HR : Hid (Lib.occAt s.data.toList t.data.toList k = ((s.extract k (k + t.size)).toList == t.toList)) := by
      show _ = _
      rw [Lib.occAt_iff_take _ _ _ (by simp; omega), Lib.extract_toList, ByteArray.toList_eq, show k + t.size - k = t.data.toList.length from by simp]
    go_enter Tryd.func110, Tryd.ntmps110
    go_wp2
    all_goals
      go_ret
      first | exact ⟨ret_boolt (by rw [unhide HR]), rfl⟩ | exact ⟨ret_boolt (by rw [unhide HR]; simp [*]), rfl⟩
  · have HR : Hid (Lib.occAt s.data.toList t.data.toList k = false) := by
      show _ = _
      rcases h : Lib.occAt s.data.toList t.data.toList k with _ | _
      · rfl
      · rcases Lib.occAt_room h with h | h
        · simp at h; omega
        · have h2 := congrArg List.length h; rw [Array.length_toList, List.length_nil] at h2; have h3 : t.size = 0 := h2; omega
    go_enter Tryd.func110, Tryd.ntmps110
    go_wp2
    all_goals
      go_ret
      first | exact ⟨ret_boolt (by rw [unhide HR]), rfl⟩ | exact ⟨ret_boolt (by rw [unhide HR]; simp), rfl⟩ | exact ⟨ret_boolt (by rw [unhide HR]; simp; omega), rfl⟩

theorem ret_i64t {a b : Int} (h : a = b) : Ending.returned (.int .i64 a) = .returned (.int .i64 b) := by rw [h]

/-- from place a on; the rest of Find's rounds -/
theorem find_none {s t : List UInt8} {frm : Int} (h : ∀ j : Nat, max frm 0 ≤ j → j ≤ s.length → Lib.occAt s t j = false) : Fnd.find s t frm = -1 := by
  rcases Fnd.find_spec s t frm with ⟨g, _⟩ | ⟨k, g1, g2, g3, g4, g5⟩
  · exact g
  · have := h k g2 g3; rw [g4] at this; cases this

set_option maxHeartbeats 1000000 in
theorem rfind_at (s t : ByteArray) (frm : Int) (w : World) (hs : s.size ≤ 1099511627776) (hts : t.size ≤ maxLen) (h0 : 0 ≤ frm) (hf : frm ≤ 9223372036854775807) :
    Calls Tryd.prog 84 #[.string s, .string t, .int .i64 frm] w fun e w' => e = .returned (.int .i64 (Fnd.find s.data.toList t.data.toList frm)) ∧ w' = w := by
  have hlen : s.data.toList.length = s.size := by simp
  have Hl := hide hlen
  clear hlen
  go_enter Tryd.func84, Tryd.ntmps84
  go_wp2
  go_loop [7] (fun i => ∃ k : Nat, i = .int .i64 k ∧ frm ≤ k ∧ (k ≤ s.size + 1 ∨ (k : Int) = frm) ∧ ∀ j : Nat, frm ≤ j → j < k → Lib.occAt s.data.toList t.data.toList j = false) (fun i => s.size + 1 - (intOf i).toNat)
  case atStart => exact ⟨frm.toNat, by rw [Int.toNat_of_nonneg h0], by omega, by omega, fun j a b => by omega⟩
  case round =>
    obtain ⟨k, rfl, hk1, hk2, hk3⟩ := hrel
    have HK := hide hk3
    clear hk3
    by_cases hle : k ≤ s.size
    · have HC := hide (at_in s t k w (by unfold maxLen; omega) hts hle)
      rcases ho : Lib.occAt s.data.toList t.data.toList k with _ | _
      · have HR : Hid (∀ j : Nat, frm ≤ j → j < k + 1 → Lib.occAt s.data.toList t.data.toList j = false) := hide (fun j a b => by
          by_cases e : j = k
          · subst e; exact ho
          · exact (unhide HK) j a (by omega))
        rw [ho] at HC
        clear ho
        have hb : (k : Int) + 1 ≤ 1099511627777 := by omega
        go_wp2_with (go_at_call 110; refine (unhide HC).mono ?_; rintro e wx ⟨rfl, rfl⟩)
        exact ⟨⟨k + 1, by go_num, by omega, by omega, unhide HR⟩, by simp [intOf]; omega⟩
      · have HR : Hid (Fnd.find s.data.toList t.data.toList frm = k) := hide (Fnd.find_unique _ _ _ k (by omega) (by rw [unhide Hl]; exact hle) ho (fun j a b => (unhide HK) j (by omega) b))
        rw [ho] at HC
        clear ho
        go_wp2_with (go_at_call 110; refine (unhide HC).mono ?_; rintro e wx ⟨rfl, rfl⟩)
        go_ret
        exact ⟨ret_i64t (by rw [unhide HR]), rfl⟩
    · have HR : Hid (Fnd.find s.data.toList t.data.toList frm = -1) := hide (find_none (fun j a b => (unhide HK) j (by omega) (by rw [unhide Hl] at b; omega)))
      go_wp2
      go_ret
      exact ⟨ret_i64t (by rw [unhide HR]), rfl⟩

set_option maxHeartbeats 1000000 in
theorem rfind_neg (s t : ByteArray) (frm : Int) (w : World) (hs : s.size ≤ 1099511627776) (hts : t.size ≤ maxLen) (h0 : frm < 0) (hf : -9223372036854775808 ≤ frm) :
    Calls Tryd.prog 84 #[.string s, .string t, .int .i64 frm] w fun e w' => e = .returned (.int .i64 (Fnd.find s.data.toList t.data.toList frm)) ∧ w' = w := by
  have e0 : Fnd.find s.data.toList t.data.toList frm = Fnd.find s.data.toList t.data.toList 0 := by
    unfold Fnd.find; rw [show max frm 0 = max 0 0 from by omega]
  rw [e0]
  have hlen : s.data.toList.length = s.size := by simp
  have Hl := hide hlen
  clear hlen e0
  go_enter Tryd.func84, Tryd.ntmps84
  go_wp2
  go_loop [7] (fun i => ∃ k : Nat, i = .int .i64 k ∧ k ≤ s.size + 1 ∧ ∀ j : Nat, j < k → Lib.occAt s.data.toList t.data.toList j = false) (fun i => s.size + 1 - (intOf i).toNat)
  case atStart => exact ⟨0, rfl, by omega, fun j a => by omega⟩
  case round =>
    obtain ⟨k, rfl, hk2, hk3⟩ := hrel
    have HK := hide hk3
    clear hk3
    by_cases hle : k ≤ s.size
    · have HC := hide (at_in s t k w (by unfold maxLen; omega) hts hle)
      rcases ho : Lib.occAt s.data.toList t.data.toList k with _ | _
      · have HR : Hid (∀ j : Nat, j < k + 1 → Lib.occAt s.data.toList t.data.toList j = false) := hide (fun j b => by
          by_cases e : j = k
          · subst e; exact ho
          · exact (unhide HK) j (by omega))
        rw [ho] at HC
        clear ho
        have hb : (k : Int) + 1 ≤ 1099511627777 := by omega
        go_wp2_with (go_at_call 110; refine (unhide HC).mono ?_; rintro e wx ⟨rfl, rfl⟩)
        exact ⟨⟨k + 1, by go_num, by omega, unhide HR⟩, by simp [intOf]; omega⟩
      · have HR : Hid (Fnd.find s.data.toList t.data.toList 0 = k) := hide (Fnd.find_unique _ _ _ k (by omega) (by rw [unhide Hl]; exact hle) ho (fun j a b => (unhide HK) j b))
        rw [ho] at HC
        clear ho
        go_wp2_with (go_at_call 110; refine (unhide HC).mono ?_; rintro e wx ⟨rfl, rfl⟩)
        go_ret
        exact ⟨ret_i64t (by rw [unhide HR]), rfl⟩
    · have HR : Hid (Fnd.find s.data.toList t.data.toList 0 = -1) := hide (find_none (fun j a b => (unhide HK) j (by rw [unhide Hl] at b; omega)))
      go_wp2
      go_ret
      exact ⟨ret_i64t (by rw [unhide HR]), rfl⟩

theorem rfind_any (s t : ByteArray) (frm : Int) (w : World) (hs : s.size ≤ 1099511627776) (hts : t.size ≤ maxLen) (h0 : -9223372036854775808 ≤ frm) (hf : frm ≤ 9223372036854775807) :
    Calls Tryd.prog 84 #[.string s, .string t, .int .i64 frm] w fun e w' => e = .returned (.int .i64 (Fnd.find s.data.toList t.data.toList frm)) ∧ w' = w := by
  by_cases h : 0 ≤ frm
  · exact rfind_at s t frm w hs hts h hf
  · exact rfind_neg s t frm w hs hts (by omega) h0

/-- a text whose bytes are just those of a token -/
theorem has_tok (l : List UInt8) (h : (List.range 256).all (fun n => has l (UInt8.ofNat n) == tok8 (UInt8.ofNat n)) = true) (c : UInt8) : has l c = tok8 c := by
  have := u8_all (p := fun c => has l c == tok8 c) h c
  simpa using this
theorem in_tok (c : UInt8) (b : Bool) (s : ByteArray) (w : World) (hs : s.size ≤ maxLen) (hb : tok8 c = b) (h : (List.range 256).all (fun n => has s.data.toList (UInt8.ofNat n) == tok8 (UInt8.ofNat n)) = true) :
    Calls Tryd.prog 80 #[.int .u8 c.toNat, .string s] w fun e w' => e = .returned (.bool b) ∧ w' = w := by
  have := in_any c s w hs
  rwa [has_tok _ h, hb] at this

set_option maxHeartbeats 1000000 in
theorem rtoken_any (s : ByteArray) (w : World) (hs : s.size ≤ maxLen) :
    Calls Tryd.prog 52 #[.string s] w fun e w' => e = .returned (.bool (tokenB s.data.toList)) ∧ w' = w := by
  unfold maxLen at hs
  go_enter Tryd.func52, Tryd.ntmps52
  go_wp2
  go_loop [3] (fun i => ∃ k : Nat, k ≤ s.size ∧ i = .int .i64 k ∧ (s.data.toList.take k).all tok8 = true) (fun i => s.size - (intOf i).toNat)
  case atStart => exact ⟨0, Nat.zero_le _, rfl, rfl⟩
  case round =>
    obtain ⟨k, hk, rfl, ha⟩ := hrel
    have HA := hide ha
    clear ha
    by_cases hlt : k < s.size
    · rcases ht : tok8 s[k] with _ | _
      · have HR := hide (all_bad s k hlt ht)
        have HT := hide ht
        clear ht
        go_wp2_with fail
        refine (in_tok s[k] false _ _ ?_ (unhide HT) ?_).mono ?_
        · decide
        · decide +kernel
        rintro e wx ⟨rfl, rfl⟩
        go_wp2_with fail
        go_ret
        exact ⟨ret_boolt (by rw [unhide HR]), rfl⟩
      · have HR := hide (all_take s k hlt)
        rw [unhide HA, ht] at HR
        have HT := hide ht
        clear ht
        go_wp2_with fail
        refine (in_tok s[k] true _ _ ?_ (unhide HT) ?_).mono ?_
        · decide
        · decide +kernel
        rintro e wx ⟨rfl, rfl⟩
        go_wp2_with fail
        exact ⟨⟨k + 1, by omega, by go_num, unhide HR⟩, by simp [intOf]; omega⟩
    · have HR := hide (all_good s k (by omega) (unhide HA))
      go_wp2
      go_ret
      exact ⟨ret_boolt (by rw [unhide HR]), rfl⟩
end Go.Proofs.YtmgealcolofomaaDoor
