/- The program's reader: does a row end here? -/
import Derived.Test.YtjecopdbcaojcaaKp
namespace Go.Proofs.Ytjecopdbcaojcaa
open Go.RowKit Kb
set_option linter.unusedVariables false
set_option maxRecDepth 20000

theorem pk_beq (s : ByteArray) (a : Nat) (c : UInt8) : (((pkB s a).toNat : Int) == (c.toNat : Int)) = decide (pkB s a = c) := by
  by_cases h : pkB s a = c
  · rw [h]; simp
  · have : (pkB s a).toNat ≠ c.toNat := fun e => h (UInt8.toNat_inj.1 e)
    rw [decide_eq_false h, beq_eq_false_iff_ne]; omega
set_option maxHeartbeats 1000000 in
theorem peekQ_any (w : World) (B g : Nat) (s : ByteArray) (a op : Nat) (h : Rd w B g s a op) (hs : s.size ≤ 100000) (ha : a ≤ s.size) :
    Calls Try.prog 40 #[.pointer (some ⟨g, 0, none⟩)] w fun e w' => e = .returned (.int .u8 (pkB s a).toNat) ∧ ∃ m, w' = w.drewN m := by
  obtain ⟨c0, c1, c2⟩ := h.cells
  clear h
  by_cases hl : a < s.size
  · have HP : Hid (pkB s a = s[a]) := hide (by unfold pkB; rw [dif_pos hl])
    obtain ⟨x, hx⟩ : ∃ x, pkB s a = x := ⟨_, rfl⟩
    rw [hx] at HP ⊢
    clear hx
    have hb : ((a : Int) == (s.size : Int)) = false := by rw [beq_eq_false_iff_ne]; omega
    have hI : 0 ≤ (a : Int) ∧ (a : Int) < s.size := by omega
    go_enter Try.func40, Try.ntmps40
    go_wp2
    go_quiet (fail)
    go_wp2
    go_quiet (fail)
    go_wp2
    go_ret
    exact ⟨by rw [unhide HP]; rfl, _, World.drewN_drewN _ _ _⟩
  · obtain rfl : a = s.size := by omega
    have HP : Hid (pkB s s.size = 0) := hide (by unfold pkB; rw [dif_neg hl])
    obtain ⟨x, hx⟩ : ∃ x, pkB s s.size = x := ⟨_, rfl⟩
    rw [hx] at HP ⊢
    clear hx
    go_enter Try.func40, Try.ntmps40
    go_wp2
    go_quiet (fail)
    go_wp2
    go_ret
    exact ⟨by rw [unhide HP]; rfl, _, rfl⟩
set_option maxHeartbeats 2000000 in
theorem rowEnds_any (w : World) (B g : Nat) (s : ByteArray) (a op : Nat) (h : Rd w B g s a op) (hs : s.size ≤ 100000) (ha : a ≤ s.size) :
    Calls Try.prog 38 #[.pointer (some ⟨g, 0, none⟩)] w fun e w' => e = .returned (.bool (rowE s a)) ∧ Below w.heap.size w w' := by
  obtain ⟨l0, l1, l2⟩ := h.cells
  have hlt := h.lt.2
  have HPK := hide (fun n => peekQ_any (w.drewN n) B g s a op (h.below (Go.below_drewN (Below.refl _ _) n)) hs ha)
  have q1 := pk_beq s a 124
  have q2 := pk_beq s a 41
  have HRE : Hid (rowE s a = (decide (a = s.size) || decide (pkB s a = 124) || decide (pkB s a = 41))) := hide rfl
  obtain ⟨pb, hpb⟩ : ∃ pb, pkB s a = pb := ⟨_, rfl⟩
  rw [hpb] at HPK q1 q2 HRE
  obtain ⟨re, hre⟩ : ∃ re, rowE s a = re := ⟨_, rfl⟩
  rw [hre] at HRE ⊢
  rw [show ((124 : UInt8).toNat : Int) = 124 from rfl] at q1
  rw [show ((41 : UInt8).toNat : Int) = 41 from rfl] at q2
  clear hpb hre h l2
  by_cases h1 : a = s.size
  · have e1 : ((a : Int) == (s.size : Int)) = true := by rw [h1]; simp
    rw [decide_eq_true h1] at HRE
    have HE := hide h1
    clear h1 q1 q2
    go_enter Try.func38, Try.ntmps38
    go_wp2_with fail
    go_quiet (fail)
    all_goals (
      go_wp2
      go_ret
      exact ⟨ret_bool (by rw [unhide HRE]; rfl), Go.below_drewN (Below.refl _ _) _⟩)
  have e1 : ((a : Int) == (s.size : Int)) = false := by rw [beq_eq_false_iff_ne]; omega
  rw [decide_eq_false h1] at HRE
  clear h1
  by_cases h2 : pb = 124
  · rw [decide_eq_true h2] at q1 HRE
    clear h2 q2
    go_enter Try.func38, Try.ntmps38
    go_wp2_with fail
    go_quiet (first | (go_at_call 40; exact Calls.quiet_of ((unhide HPK) _)))
    all_goals (
      go_wp2
      go_ret
      exact ⟨ret_bool (by rw [unhide HRE]; rfl), Go.below_drewN (Below.refl _ _) _⟩)
  · rw [decide_eq_false h2] at q1 HRE
    clear h2
    obtain ⟨t, ht⟩ : ∃ t, decide (pb = 41) = t := ⟨_, rfl⟩
    rw [ht] at q2 HRE
    clear ht
    go_enter Try.func38, Try.ntmps38
    go_wp2_with fail
    go_quiet (first | (go_at_call 40; exact Calls.quiet_of ((unhide HPK) _)))
    all_goals (
      go_wp2
      go_ret
      exact ⟨ret_bool (by rw [unhide HRE]; cases t <;> rfl), Go.below_drewN (Below.refl _ _) _⟩)
end Go.Proofs.Ytjecopdbcaojcaa
