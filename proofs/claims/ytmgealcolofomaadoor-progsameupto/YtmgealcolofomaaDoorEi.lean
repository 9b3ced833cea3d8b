/- Walks: is the machine done? Check of a list of instructions (the program's). -/
import Derived.Test.YtmgealcolofomaaDoorEh
namespace Go.Proofs.YtmgealcolofomaaDoor
open Go.RowKit Kb
set_option linter.unusedVariables false
set_option maxRecDepth 20000
theorem done_any (W0 : World) (N : Nat) (pv : Value) (s : ByteArray) (st : Pm.St) (nv : Value) (nl : List (Nat × Nat)) (xv : Value) (w : World) (hM : MX W0 w N pv s st nv nl xv) :
    Calls Tryd.prog 43 #[.pointer (some ⟨N, 0, none⟩)] w fun e w' => e = .returned (.bool (st.found.isSome && decide (st.next = []))) ∧ w' = w := by
  obtain ⟨xo, xc, rfl⟩ := own_forms hM.next
  obtain ⟨_, _, _, k3, _, _, k6⟩ := hM.fields
  obtain ⟨b, hb⟩ : ∃ b, st.found.isSome = b := ⟨_, rfl⟩
  obtain ⟨n, hn⟩ : ∃ n, st.next.length = n := ⟨_, rfl⟩
  have hd : decide (st.next = []) = decide (n = 0) := by rw [← hn]; exact decide_eq_decide.2 List.length_eq_zero_iff.symm
  rw [hb] at k6 ⊢
  rw [hn] at k3
  rw [hd]
  clear hb hn hd hM
  cases b
  · go_enter Tryd.func43, Tryd.ntmps43
    go_wp2_with fail
    go_ret
    exact ⟨rfl, rfl⟩
  · by_cases h0 : n = 0
    · subst h0
      go_enter Tryd.func43, Tryd.ntmps43
      go_wp2_with fail
      go_ret
      exact ⟨rfl, rfl⟩
    · have h0b : ((n : Int) == 0) = false := by rw [beq_eq_false_iff_ne]; omega
      have hd : decide (n = 0) = false := by simpa using h0
      rw [hd]
      go_enter Tryd.func43, Tryd.ntmps43
      go_wp2_with fail
      go_ret
      exact ⟨rfl, rfl⟩
theorem below_anyP (n b : Int) (w : World) :
    Calls Tryd.prog 71 #[.int .i64 n, .int .i64 b] w fun e w' => e = .returned (.bool (decide (0 ≤ n) && decide (n < b))) ∧ w' = w := by
  by_cases h1 : 0 ≤ n
  · by_cases h2 : n < b
    · rw [decide_eq_true h1, decide_eq_true h2]
      go_enter Tryd.func71, Tryd.ntmps71
      go_wp2_with fail
      go_ret
      exact ⟨rfl, rfl⟩
    · rw [decide_eq_true h1, decide_eq_false h2]
      go_enter Tryd.func71, Tryd.ntmps71
      go_wp2_with fail
      go_ret
      exact ⟨rfl, rfl⟩
  · rw [decide_eq_false h1]
    go_enter Tryd.func71, Tryd.ntmps71
    go_wp2_with fail
    go_ret
    exact ⟨rfl, rfl⟩
namespace Pm
/-- does an instruction lead nowhere but to others? -/
def formed (n i : Nat) (x : In) : Bool :=
  if x.k = 1 ∨ x.k = 4 ∨ x.k = 5 then decide (i + 1 < n) else if x.k = 2 then (decide (0 ≤ x.a) && decide (x.a < (n : Int))) && (decide (0 ≤ x.b) && decide (x.b < (n : Int))) else if x.k = 3 then decide (0 ≤ x.a) && decide (x.a < (n : Int)) else decide (x.k = 6)
/-- are the instructions from number k on formed? -/
def allF (n : Nat) : Nat → List In → Bool
  | _, [] => true
  | k, x :: r => formed n k x && allF n (k + 1) r
theorem allF_at (n : Nat) : ∀ (r : List In) (k : Nat), allF n k r = true → ∀ j x, r[j]? = some x → formed n (k + j) x = true := by
  intro r
  induction r with
  | nil => intro k _ j x h; simp at h
  | cons y r ih =>
    intro k h j x hj
    rw [allF, Bool.and_eq_true] at h
    cases j with
    | zero => simp at hj; subst hj; exact h.1
    | succ j =>
      have := ih (k + 1) h.2 j x (by simpa using hj)
      rwa [show k + 1 + j = k + (j + 1) by omega] at this
/-- what is wrong with a list -/
def chk (p : List In) : Int := if 400 < p.length then 2 else if p.length = 0 then 1 else if allF p.length 0 p = true then 0 else 1
theorem good_of_chk {p : List In} (h : chk p = 0) : Good p := by
  unfold chk at h
  split at h
  · cases h
  rename_i h1
  split at h
  · cases h
  rename_i h2
  split at h
  · rename_i h3
    refine ⟨by omega, by omega, fun i x hx => ?_⟩
    have hf := allF_at p.length p 0 h3 i x hx
    rw [Nat.zero_add] at hf
    unfold formed at hf
    by_cases a1 : x.k = 1 ∨ x.k = 4 ∨ x.k = 5
    · rw [if_pos a1] at hf; have := of_decide_eq_true hf; omega
    · rw [if_neg a1] at hf
      by_cases a2 : x.k = 2
      · rw [if_pos a2] at hf
        simp only [Bool.and_eq_true, decide_eq_true_eq] at hf
        exact .inr (.inl ⟨a2, hf.1, hf.2⟩)
      · rw [if_neg a2] at hf
        by_cases a3 : x.k = 3
        · rw [if_pos a3] at hf
          simp only [Bool.and_eq_true, decide_eq_true_eq] at hf
          exact .inr (.inr (.inl ⟨a3, hf.1, hf.2⟩))
        · rw [if_neg a3] at hf
          exact .inr (.inr (.inr (.inr (.inr (of_decide_eq_true hf)))))
  · cases h
end Pm
set_option maxHeartbeats 2000000 in
theorem pformed_any (pv : Value) (p : List In) (i : Nat) (x : In) (w : World) (hI : Insts w pv p) (hx : p[i]? = some x) (hn : p.length ≤ 1099511627776) :
    Calls Tryd.prog 45 #[pv, .int .i64 i] w fun e w' => e = .returned (.bool (Pm.formed p.length i x)) ∧ w' = w := by
  have hi := (List.getElem?_eq_some_iff.1 hx).1
  obtain ⟨gp, off, cp, rfl, hgp, hcp⟩ := hI.at_ (by intro e; rw [e] at hi; cases hi)
  obtain ⟨c0, c1, c2, _⟩ := hcp i x hx
  obtain ⟨xk, xa, xb, sx⟩ := x
  dsimp only at c0 c1 c2
  have hiI : (i : Int) < p.length := by omega
  have HA := hide (fun W => below_anyP xa p.length W)
  have HB := hide (fun W => below_anyP xb p.length W)
  obtain ⟨ba, hba⟩ : ∃ b, (decide (0 ≤ xa) && decide (xa < (p.length : Int))) = b := ⟨_, rfl⟩
  obtain ⟨bb, hbb⟩ : ∃ b, (decide (0 ≤ xb) && decide (xb < (p.length : Int))) = b := ⟨_, rfl⟩
  rw [hba] at HA
  rw [hbb] at HB
  obtain ⟨r, hr⟩ : ∃ r, Pm.formed p.length i ⟨xk, xa, xb, sx⟩ = r := ⟨_, rfl⟩
  have hr2 := hr
  unfold Pm.formed at hr2
  dsimp only at hr2
  rw [hba, hbb] at hr2
  rw [hr]
  have HR := hide hr2
  clear hr hr2 hba hbb hI hcp hx
  by_cases h145 : xk = 1 ∨ xk = 4 ∨ xk = 5
  · have HE : Hid (r = decide (i + 1 < p.length)) := hide (by rw [← unhide HR, if_pos h145])
    clear HR HA HB
    have fin : ∀ b : Bool, decide (i + 1 < p.length) = b → r = b := fun b h => by rw [unhide HE]; exact h
    have HF := hide fin
    clear fin HE
    by_cases hl : i + 1 < p.length
    · have hlI : (i : Int) + 1 < p.length := by omega
      have HF2 := hide ((unhide HF) true (decide_eq_true hl))
      rcases h145 with rfl | rfl | rfl <;>
      · go_enter Tryd.func45, Tryd.ntmps45
        go_wp2_with fail
        go_ret
        exact ⟨by rw [unhide HF2]; rfl, rfl⟩
    · have hlI : ¬ (i : Int) + 1 < p.length := by omega
      have HF2 := hide ((unhide HF) false (decide_eq_false hl))
      rcases h145 with rfl | rfl | rfl <;>
      · go_enter Tryd.func45, Tryd.ntmps45
        go_wp2_with fail
        go_ret
        exact ⟨by rw [unhide HF2]; rfl, rfl⟩
  have n1 : (xk == 1) = false := by rw [beq_eq_false_iff_ne]; omega
  have n4 : (xk == 4) = false := by rw [beq_eq_false_iff_ne]; omega
  have n5 : (xk == 5) = false := by rw [beq_eq_false_iff_ne]; omega
  by_cases h2 : xk = 2
  · have HE : Hid (r = (ba && bb)) := hide (by rw [← unhide HR, if_neg h145, if_pos h2])
    subst h2
    clear HR h145 n1 n4 n5
    cases ba
    · go_enter Tryd.func45, Tryd.ntmps45
      go_wp2_with fail
      refine ((unhide HA) _).mono ?_; rintro e wx ⟨rfl, rfl⟩
      go_wp2_with fail
      go_ret
      exact ⟨by rw [unhide HE]; rfl, rfl⟩
    · go_enter Tryd.func45, Tryd.ntmps45
      go_wp2_with fail
      refine ((unhide HA) _).mono ?_; rintro e wx ⟨rfl, rfl⟩
      go_wp2_with fail
      refine ((unhide HB) _).mono ?_; rintro e wx ⟨rfl, rfl⟩
      go_wp2_with fail
      go_ret
      exact ⟨by rw [unhide HE]; rfl, rfl⟩
  have n2 : (xk == 2) = false := by rw [beq_eq_false_iff_ne]; exact h2
  by_cases h3 : xk = 3
  · have HE : Hid (r = ba) := hide (by rw [← unhide HR, if_neg h145, if_neg h2, if_pos h3])
    subst h3
    clear HR h145 n1 n4 n5 n2 h2
    go_enter Tryd.func45, Tryd.ntmps45
    go_wp2_with fail
    refine ((unhide HA) _).mono ?_; rintro e wx ⟨rfl, rfl⟩
    go_wp2_with fail
    go_ret
    exact ⟨by rw [unhide HE]; rfl, rfl⟩
  have n3 : (xk == 3) = false := by rw [beq_eq_false_iff_ne]; exact h3
  have HE : Hid (r = decide (xk = 6)) := hide (by rw [← unhide HR, if_neg h145, if_neg h2, if_neg h3])
  clear HR h145 h2 h3 HA HB
  by_cases h6 : xk = 6
  · subst h6
    go_enter Tryd.func45, Tryd.ntmps45
    go_wp2_with fail
    go_ret
    exact ⟨by rw [unhide HE]; rfl, rfl⟩
  · have n6 : (xk == 6) = false := by rw [beq_eq_false_iff_ne]; exact h6
    have HE2 : Hid (r = false) := hide (by rw [unhide HE, decide_eq_false h6])
    clear HE
    go_enter Tryd.func45, Tryd.ntmps45
    go_wp2_with fail
    go_ret
    exact ⟨by rw [unhide HE2]; rfl, rfl⟩
theorem allF_drop (p : List In) (k : Nat) (x : In) (h : p[k]? = some x) : Pm.allF p.length k (p.drop k) = (Pm.formed p.length k x && Pm.allF p.length (k + 1) (p.drop (k + 1))) := by
  have hk := (List.getElem?_eq_some_iff.1 h).1
  rw [List.drop_eq_getElem_cons hk, Pm.allF]
  have : p[k] = x := (List.getElem?_eq_some_iff.1 h).2
  rw [this]
set_option maxHeartbeats 2000000 in
theorem pcheck_any (pv : Value) (p : List In) (w : World) (hI : Insts w pv p) (hn : p.length ≤ 1099511627776) :
    Calls Tryd.prog 16 #[pv] w fun e w' => e = .returned (.int .i64 (Pm.chk p)) ∧ w' = w := by
  have HI := hide hI
  obtain ⟨o, c, rfl, hc⟩ := hI.form
  obtain ⟨r, hr⟩ : ∃ r, Pm.chk p = r := ⟨_, rfl⟩
  rw [hr]
  unfold Pm.chk at hr
  have HR := hide hr
  clear hr hI
  by_cases h4 : 400 < p.length
  · have h4I : (400 : Int) < p.length := by omega
    have HE : Hid (r = 2) := hide (by rw [← unhide HR, if_pos h4])
    go_enter Tryd.func16, Tryd.ntmps16
    go_wp2_with fail
    go_ret
    exact ⟨by rw [unhide HE]; rfl, rfl⟩
  have h4I : ¬ (400 : Int) < p.length := by omega
  by_cases h0 : p.length = 0
  · have h0b : ((p.length : Int) == 0) = true := by rw [beq_iff_eq]; omega
    have HE : Hid (r = 1) := hide (by rw [← unhide HR, if_neg h4, if_pos h0])
    clear HR h0
    go_enter Tryd.func16, Tryd.ntmps16
    go_wp2_with fail
    go_ret
    exact ⟨by rw [unhide HE]; rfl, rfl⟩
  have h0b : ((p.length : Int) == 0) = false := by rw [beq_eq_false_iff_ne]; omega
  have HE : Hid (r = if Pm.allF p.length 0 (p.drop 0) = true then 0 else 1) := hide (by rw [← unhide HR, if_neg h4, if_neg h0, List.drop_zero])
  clear HR h0
  go_enter Tryd.func16, Tryd.ntmps16
  go_wp2_with fail
  go_loopw [12] (fun x wr => ∃ k : Nat, x = .int .i64 k ∧ k ≤ p.length ∧ wr = w ∧ Pm.allF p.length 0 (p.drop 0) = Pm.allF p.length k (p.drop k)) (fun x _ => p.length - (intOf x).toNat)
  case atStart => exact ⟨0, rfl, Nat.zero_le _, rfl, rfl⟩
  case round =>
    obtain ⟨k, rfl, hk, hwr, hal⟩ := hrel
    subst hwr
    have HAL := hide hal
    clear hal
    by_cases hlt : k < p.length
    · obtain ⟨x, hx⟩ : ∃ x, p[k]? = some x := ⟨p[k], List.getElem?_eq_getElem hlt⟩
      have HF := hide (pformed_any _ p k x wr (unhide HI) hx hn)
      have HD := hide (allF_drop p k x hx)
      obtain ⟨b, hb⟩ : ∃ b, Pm.formed p.length k x = b := ⟨_, rfl⟩
      rw [hb] at HF HD
      clear hb hx
      have hkI : (k : Int) < p.length := by omega
      cases b
      · have HE1 : Hid (r = 1) := hide (by rw [unhide HE, unhide HAL, unhide HD]; rfl)
        clear HE HAL HD
        go_wp2_with fail
        refine (unhide HF).mono ?_; rintro e wx ⟨rfl, hwx⟩; rw [hwx]; clear hwx wx
        go_wp2_with fail
        go_ret
        exact ⟨by rw [unhide HE1]; rfl, rfl⟩
      · have HAL2 : Hid (Pm.allF p.length 0 (p.drop 0) = Pm.allF p.length (k + 1) (p.drop (k + 1))) := hide (by rw [unhide HAL, unhide HD, Bool.true_and])
        clear HAL HD
        go_wp2_with fail
        refine (unhide HF).mono ?_; rintro e wx ⟨rfl, hwx⟩; rw [hwx]; clear hwx wx
        go_wp2_with fail
        exact ⟨⟨k + 1, by go_num, by omega, (by first | trivial | rfl), unhide HAL2⟩, by simp [intOf]; omega⟩
    · obtain rfl : k = p.length := by omega
      have HE1 : Hid (r = 0) := hide (by rw [unhide HE, unhide HAL, List.drop_length]; rfl)
      clear HE HAL
      go_wp2_with fail
      go_ret
      exact ⟨by rw [unhide HE1]; rfl, rfl⟩
/-- ready: Check first, then the text's size -/
theorem ready_any (pv : Value) (p : List In) (s : ByteArray) (w : World) (hI : Insts w pv p) (hn : p.length ≤ 1099511627776) :
    Calls Tryd.prog 42 #[pv, .string s] w fun e w' => e = .returned (.int .i64 (if Pm.chk p ≠ 0 then Pm.chk p else if 8192 < s.size then 2 else 0)) ∧ w' = w := by
  have HC := hide (pcheck_any pv p w hI hn)
  obtain ⟨r, hr⟩ : ∃ r : Int, (if Pm.chk p ≠ 0 then Pm.chk p else if 8192 < s.size then 2 else 0) = r := ⟨_, rfl⟩
  rw [hr]
  obtain ⟨o, c, rfl, hc⟩ := hI.form
  obtain ⟨q, hq⟩ : ∃ q, Pm.chk p = q := ⟨_, rfl⟩
  rw [hq] at HC hr
  have HR := hide hr
  clear hr hq hI
  by_cases h0 : q = 0
  · subst h0
    by_cases hs : 8192 < s.size
    · have hsI : (8192 : Int) < s.size := by omega
      have HE : Hid (r = 2) := hide (by rw [← unhide HR, if_neg (by simp), if_pos hs])
      clear HR
      go_enter Tryd.func42, Tryd.ntmps42
      go_wp2_with fail
      refine (unhide HC).mono ?_; rintro e wx ⟨rfl, hwx⟩; rw [hwx]; clear hwx wx
      go_wp2_with fail
      go_ret
      exact ⟨by rw [unhide HE]; rfl, rfl⟩
    · have hsI : ¬ (8192 : Int) < s.size := by omega
      have HE : Hid (r = 0) := hide (by rw [← unhide HR, if_neg (by simp), if_neg hs])
      clear HR
      go_enter Tryd.func42, Tryd.ntmps42
      go_wp2_with fail
      refine (unhide HC).mono ?_; rintro e wx ⟨rfl, hwx⟩; rw [hwx]; clear hwx wx
      go_wp2_with fail
      go_ret
      exact ⟨by rw [unhide HE]; rfl, rfl⟩
  · have hqb : (q != 0) = true := by simpa using h0
    have HE : Hid (r = q) := hide (by rw [← unhide HR, if_pos h0])
    clear HR h0
    go_enter Tryd.func42, Tryd.ntmps42
    go_wp2_with fail
    refine (unhide HC).mono ?_; rintro e wx ⟨rfl, hwx⟩; rw [hwx]; clear hwx wx
    go_wp2_with fail
    go_ret
    exact ⟨by rw [unhide HE]; rfl, rfl⟩
end Go.Proofs.YtmgealcolofomaaDoor
