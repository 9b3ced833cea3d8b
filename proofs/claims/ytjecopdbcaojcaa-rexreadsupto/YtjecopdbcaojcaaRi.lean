/- Walks of the document's answers on texts: in, At, Find. -/
import Derived.Test.YtjecopdbcaojcaaKb
import Derived.Test.YtjecopdbcaojcaaFnd
import Derived.Test.YtjecopdbcaojcaaCh
namespace Go.Proofs.Ytjecopdbcaojcaa
open Go.RowKit Kb
set_option linter.unusedVariables false
set_option maxRecDepth 20000

/-- does a byte stand in a text? -/
def has (l : List UInt8) (c : UInt8) : Bool := l.contains c

set_option maxHeartbeats 1000000 in
theorem in_any (c : UInt8) (s : ByteArray) (w : World) (hs : s.size ≤ maxLen) :
    Calls Try.prog 71 #[.int .u8 c.toNat, .string s] w fun e w' => e = .returned (.bool (has s.data.toList c)) ∧ w' = w := by
  unfold maxLen at hs
  go_enter Try.func71, Try.ntmps71
  go_wp2
  go_loop [5] (fun i => ∃ k : Nat, k ≤ s.size ∧ i = .int .i64 k ∧ has (s.data.toList.take k) c = false) (fun i => s.size - (intOf i).toNat)
  case atStart => exact ⟨0, Nat.zero_le _, rfl, rfl⟩
  case round =>
    obtain ⟨k, hk, rfl, ha⟩ := hrel
    have HA := hide ha
    clear ha
    by_cases hlt : k < s.size
    · have ht : s.data.toList.take (k + 1) = s.data.toList.take k ++ [s[k]] := by
        rw [List.take_succ_eq_append_getElem (by simpa using hlt)]; rfl
      by_cases he : s[k] = c
      · have HR : Hid (has s.data.toList c = true) := by
          show _ = _
          unfold has
          rw [← List.take_append_drop (k + 1) s.data.toList, ht]; simp [he]
        have hb : ((s[k].toNat : Int) == (c.toNat : Int)) = true := by rw [he]; simp
        clear he ht
        go_wp2
        go_ret
        exact ⟨Kb.ret_bool (by rw [unhide HR]), rfl⟩
      · have HR : Hid (has (s.data.toList.take (k + 1)) c = false) := by
          show _ = _
          have h2 := unhide HA
          unfold has at *
          rw [ht]; simp at h2 ⊢; exact ⟨h2, fun e => he e.symm⟩
        have hb : ((s[k].toNat : Int) == (c.toNat : Int)) = false := by
          rw [beq_eq_false_iff_ne]; intro e; exact he (UInt8.toNat_inj.1 (by omega))
        clear he ht
        go_wp2
        exact ⟨⟨k + 1, by omega, by go_num, unhide HR⟩, by simp [intOf]; omega⟩
    · have HR : Hid (has s.data.toList c = false) := by
        show _ = _
        have h2 := unhide HA
        rwa [List.take_of_length_le (by simp; omega)] at h2
      go_wp2
      go_ret
      exact ⟨Kb.ret_bool (by rw [unhide HR]), rfl⟩

theorem ret_i64t {a b : Int} (h : a = b) : Ending.returned (.int .i64 a) = .returned (.int .i64 b) := by rw [h]

/-- from place a on; the rest of Find's rounds -/
theorem find_none {s t : List UInt8} {frm : Int} (h : ∀ j : Nat, max frm 0 ≤ j → j ≤ s.length → Lib.occAt s t j = false) : Fnd.find s t frm = -1 := by
  rcases Fnd.find_spec s t frm with ⟨g, _⟩ | ⟨k, g1, g2, g3, g4, g5⟩
  · exact g
  · have := h k g2 g3; rw [g4] at this; cases this

theorem occ_at0 (s t : List UInt8) (k : Nat) (h : k ≤ s.length) : Lib.occAt s t k = Ch.at0 (s.drop k) t := by
  by_cases hr : t.length ≤ s.length - k
  · rw [Lib.occAt_iff_take _ _ _ (by omega)]; rfl
  · have e1 : Lib.occAt s t k = false := by
      rcases ho : Lib.occAt s t k with _ | _
      · rfl
      · rcases Lib.occAt_room ho with h | h
        · omega
        · subst h; simp at hr
    rw [e1]
    have : Ch.at0 (s.drop k) t = false := by
      unfold Ch.at0
      rw [beq_eq_false_iff_ne]
      intro e
      have := congrArg List.length e
      rw [List.length_take, List.length_drop] at this; omega
    rw [this]
end Go.Proofs.Ytjecopdbcaojcaa
