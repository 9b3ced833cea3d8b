/- The program's iterator over places, at the wide fence. -/
import Derived.RangeFuncNested
import Derived.RangeFuncBound
import Derived.RangeFuncCalls
import Derived.RangeFuncLeaves
import Derived.Shelf.Abstract
import Derived.Shelf.RegionOpen
import Derived.WalkKit
import Derived.OwnWalkIn
import Derived.TacticsInMore
import Derived.LoopNIn
import Derived.LoopIn
import Derived.Test.YtmgealcolofomaaDoorZd
namespace Go.Proofs.YtmgealcolofomaaDoor
open Go.RowKit Kb Go.Shelf
attribute [local go_sem] Oper.semAt_some
set_option linter.unusedVariables false
set_option maxRecDepth 20000
open Sp

set_option maxHeartbeats 4000000 in
theorem each_in (n l : Nat) (f : Nat → Bool) (J Jx : List Nat → World → Prop) (hT : ∀ pre W, J pre W → TZ W)
    (hY : ∀ pre x W, pre ++ [x] <+: plc f 320 → x < 320 → f x = true → J pre W → YieldAt .wide (n - 1) Tryd.prog l #[.int .i64 x] W fun e W' => (e = .returned (.bool true) ∧ J (pre ++ [x]) W') ∨ (e = .returned (.bool false) ∧ Jx (pre ++ [x]) W'))
    (W : World) (h0 : ∀ o, J [] (W.alloc o)) :
    CallsIn .wide n Tryd.prog 69 #[plV f, .func (.yield l) #[] #[]] W fun e W' => (∃ v, e = .returned v) ∧
      (J (plc f 320) W' ∨ ∃ pre, pre <+: plc f 320 ∧ Jx pre W') := by
  have hget : ∀ k, k < 5 → (#[.int .u64 (wd f 0), .int .u64 (wd f 1), .int .u64 (wd f 2), .int .u64 (wd f 3), .int .u64 (wd f 4)] : Array Value)[k]? = some (.int .u64 (wd f k)) := by
    intro k hk
    match k, hk with
    | 0, _ => rfl
    | 1, _ => rfl
    | 2, _ => rfl
    | 3, _ => rfl
    | 4, _ => rfl
  have HG := hide hget
  unfold plV
  obtain ⟨v0, hv0⟩ : ∃ v : Int, (wd f 0 : Int) = v := ⟨_, rfl⟩
  obtain ⟨v1, hv1⟩ : ∃ v : Int, (wd f 1 : Int) = v := ⟨_, rfl⟩
  obtain ⟨v2, hv2⟩ : ∃ v : Int, (wd f 2 : Int) = v := ⟨_, rfl⟩
  obtain ⟨v3, hv3⟩ : ∃ v : Int, (wd f 3 : Int) = v := ⟨_, rfl⟩
  obtain ⟨v4, hv4⟩ : ∃ v : Int, (wd f 4 : Int) = v := ⟨_, rfl⟩
  rw [hv0, hv1, hv2, hv3, hv4] at HG ⊢
  clear hget hv0 hv1 hv2 hv3 hv4
  have HY := hide hY
  have HT := hide hT
  clear hY hT
  refine callsIn_of_wp Tryd.func69 rfl trivial ?_ rfl
  simp only [Tryd.ntmps69, List.size_toArray, List.length_cons, List.length_nil, Nat.reduceAdd, Nat.reduceSub, Array.replicate_succ, Array.replicate_zero, List.push_toArray, List.append_toArray, List.nil_append, List.cons_append]
  gi_wp2
  have H0 := hide (h0 (.cells #[.int .u64 v0, .int .u64 v1, .int .u64 v2, .int .u64 v3, .int .u64 v4] 86))
  clear h0
  gi_loopw [7] (fun x wr => ∃ k : Nat, x = .int .i64 k ∧ k ≤ 5 ∧ J (plc f (64 * k)) wr) (fun x _ => 5 - (intOf x).toNat)
  case atStart => exact ⟨0, rfl, by omega, unhide H0⟩
  case round =>
    clear H0
    obtain ⟨k, rfl, hk, hj⟩ := hrel
    have HJ := hide hj
    clear hj
    by_cases hlt : k < 5
    · have hI : (k : Int) < 5 := by omega
      have hg := unhide HG k hlt
      have hwl := wd_lt f k
      obtain ⟨y0, hy0⟩ : ∃ y, wd f k = y := ⟨_, rfl⟩
      rw [hy0] at hg hwl
      have HY0 := hide hy0
      clear hy0
      have hix : ∀ W, (Instr.index 86 (.agg #[.int .u64 v0, .int .u64 v1, .int .u64 v2, .int .u64 v3, .int .u64 v4]) (.int .i64 k)).run Tryd.prog W = .ok (.int .u64 y0) W := by
        intro W
        have hl : [Value.int .u64 v0, .int .u64 v1, .int .u64 v2, .int .u64 v3, .int .u64 v4][k]'(by simpa using hlt) = .int .u64 (y0 : Int) := by
          have h := (List.getElem?_eq_some_iff (l := [Value.int .u64 v0, .int .u64 v1, .int .u64 v2, .int .u64 v3, .int .u64 v4])).1 (by simpa using hg)
          exact h.2
        simp [Instr.index, go_sem, hlt, hl]
      gi_wp2
      clear hg
      gi_loopw [5] (fun x wr => ∃ (y p : Nat), x = .int .u64 y ∧ y < 18446744073709551616 ∧ p ≤ 64 ∧ (∀ b, b < 64 → y.testBit b = (f (64 * k + b) && decide (p ≤ b))) ∧ J (plc f (64 * k + p)) wr) (fun x _ => (intOf x).toNat)
      case atStart => exact ⟨y0, 0, rfl, hwl, by omega, fun b hb => by rw [← unhide HY0, wd_bit f k b hb]; simp, unhide HJ⟩
      case round =>
        obtain ⟨y, p, rfl, hyl, hp, hbits, hj⟩ := hrel
        have HB := hide hbits
        have HJ2 := hide hj
        clear HJ hbits hj
        by_cases hy : y = 0
        · subst hy
          have HE : Hid (plc f (64 * k + 64) = plc f (64 * k + p)) := hide (plc_to _ (by omega) (fun j h1 h2 => by
            have := (unhide HB) (j - 64 * k) (by omega)
            rw [Nat.zero_testBit, decide_eq_true (by omega : p ≤ j - 64 * k), Bool.and_true, show 64 * k + (j - 64 * k) = j by omega] at this
            exact this.symm))
          gi_wp2
          refine ⟨⟨k + 1, by go_num, by omega, ?_⟩, by simp [intOf]; omega⟩
          rw [show 64 * (k + 1) = 64 * k + 64 by omega, unhide HE]; exact unhide HJ2
        · have hne : ((y : Int) != 0) = true := by simp; omega
          have HTZ := hide (fun W hW => tz_any y hyl hy W hW)
          have HZ := hide ((unhide HT) _ _ (unhide HJ2))
          obtain ⟨c, hc⟩ : ∃ c, Lib.ctz 64 y = c := ⟨_, rfl⟩
          obtain ⟨hb1, hb2⟩ := ctz_bit hyl hy
          have hlow := low_off hyl hy
          have hcl : c < 64 := by rw [← hc]; exact (ctz_spec hyl hy).elim fun m h => h.2
          rw [hc] at HTZ hb1 hb2 hlow
          have hfc : f (64 * k + c) = true ∧ p ≤ c := by
            have := (unhide HB) c hcl
            rw [hb1] at this
            have h := this.symm
            rw [Bool.and_eq_true, decide_eq_true_eq] at h
            exact h
          have hpl : plc f (64 * k + c + 1) = plc f (64 * k + p) ++ [64 * k + c] := by
            rw [plc_succ, hfc.1, if_pos rfl, plc_to (f := f) (a := 64 * k + p) (64 * k + c) (by omega) (fun j h1 h2 => by
              have := (unhide HB) (j - 64 * k) (by omega)
              rw [hb2 (j - 64 * k) (by omega), decide_eq_true (by omega : p ≤ j - 64 * k), Bool.and_true, show 64 * k + (j - 64 * k) = j by omega] at this
              exact this.symm)]
          have hpre : plc f (64 * k + p) ++ [64 * k + c] <+: plc f 320 := by rw [← hpl]; exact plc_pre f _ _ (by omega)
          have HYD := hide (unhide HY (plc f (64 * k + p)) (64 * k + c) wr hpre (by omega) hfc.1 (unhide HJ2))
          have hsub := bits_sub hyl hy
          have hand := bits_and_u64_nat y (y - 1) hyl (by omega)
          rw [show ((64 * k + c : Nat) : Int) = (k : Int) * 64 + c by omega] at HYD
          obtain ⟨y2, hy2⟩ : ∃ z, y &&& (y - 1) = z := ⟨_, rfl⟩
          rw [hy2] at hand hlow
          have hy2l : y2 < y := by rw [← hy2]; exact Nat.lt_of_le_of_lt Nat.and_le_right (by omega)
          have HB3 : Hid (∀ b, b < 64 → y2.testBit b = (f (64 * k + b) && decide (c + 1 ≤ b))) := hide fun b hb => by
            rw [hlow, (unhide HB) b hb]
            by_cases e1 : b < c
            · have e2 := (unhide HB) b hb
              rw [hb2 b e1] at e2
              rw [← e2, Bool.false_and, decide_eq_false (by omega : ¬ c + 1 ≤ b), Bool.and_false]
            · by_cases e2 : b = c
              · rw [decide_eq_true e2, decide_eq_false (by omega : ¬ c + 1 ≤ b)]; simp
              · rw [decide_eq_false e2, decide_eq_true (by omega : c + 1 ≤ b), decide_eq_true (by omega : p ≤ b)]; simp
          have HPL := hide hpl
          have HPR := hide hpre
          have hpc := hfc.2
          clear hb1 hb2 hlow hfc hpl hpre hc hy2 HB
          obtain ⟨fn, tmps, assign, body, hyy, hR⟩ := unhide HYD
          gi_wp2
          refine ⟨trivial, fun h => by simp [Fence.wide] at h, ?_⟩
          refine (callsIn_wide.2 ((unhide HTZ) wr (unhide HZ))).mono ?_
          rintro e wx ⟨rfl, hwx⟩; rw [hwx]; clear hwx wx
          gi_wp2
          refine ⟨fun h => by simp [Fence.wide] at h, ?_⟩
          refine hR.mono ?_
          rintro e W' (⟨rfl, hJ'⟩ | ⟨rfl, hJx'⟩)
          · have HJ3 : Hid (J (plc f (64 * k + (c + 1))) W') := hide (by rw [← Nat.add_assoc, unhide HPL]; exact hJ')
            clear hR hJ' HYD
            gi_wp2
            exact ⟨⟨y2, c + 1, rfl, by omega, by omega, unhide HB3, unhide HJ3⟩, by simp [intOf]; omega⟩
          · have HJ3 : Hid (∃ pre, pre <+: plc f 320 ∧ Jx pre W') := hide ⟨_, unhide HPR, hJx'⟩
            clear hR hJx' HYD
            gi_wp2
            refine bodyPost_ret (results_none rfl _ _ _) rfl ?_
            exact ⟨⟨_, rfl⟩, .inr (unhide HJ3)⟩
    · have h5 : k = 5 := by omega
      subst h5
      have hI : ¬ ((5 : Int) < 5) := by omega
      gi_wp2
      go_end0
      exact ⟨⟨_, rfl⟩, .inl (unhide HJ)⟩
end Go.Proofs.YtmgealcolofomaaDoor
