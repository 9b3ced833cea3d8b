/- A beginning of chunks asks for more; what is whole is told the same, whatever stands behind; a wider bound changes nothing: whatever is handed in.
   Conditions: what is handed in is of bulk at most 1048576. -/
import Derived.Test.YtgmpgacedmjgdaaRows
import Derived.WalkKit
import Derived.ProofKit
import Derived.OpenShut
import Derived.ShutString
import Derived.JoinedCond
import Derived.Test.YtgmpgacedmjgdaaTe
import Derived.Test.YtgmpgacedmjgdaaWrap
namespace Go.Proofs.Ytgmpgacedmjgdaa
open Go.RowKit Kb
set_option linter.unusedVariables false
set_option maxRecDepth 20000
namespace Cu
theorem go_err {most : Int} : ∀ (f : Nat) (l out : L8) (a : Nat) (e : Int), go most f l out a = .error e → e ≠ 0 := by
  intro f
  induction f with
  | zero => intro l out a e h; cases h; decide
  | succ f ih =>
    intro l out a e h
    rw [go] at h
    rcases hc : chunk (most - out.length) l with x | ⟨p, u⟩
    · rw [hc] at h
      have hx := chunk_err hc
      cases h
      omega
    · rw [hc] at h
      dsimp only at h
      split at h
      · cases h
      · exact ih _ _ _ _ h
theorem go_len {most : Int} : ∀ (f : Nat) (l out : L8) (a : Nat) (q : L8) (n : Nat), go most f l out a = .ok (q, n) → q.length ≤ out.length + l.length := by
  intro f
  induction f with
  | zero => intro l out a q n h; cases h
  | succ f ih =>
    intro l out a q n h
    rw [go] at h
    rcases hc : chunk (most - out.length) l with x | ⟨p, u⟩
    · rw [hc] at h; cases h
    · rw [hc] at h
      have hx := chunk_used hc
      dsimp only at h
      split at h
      · cases h; omega
      · have := ih _ _ _ _ _ h
        rw [List.length_append, List.length_drop] at this
        omega
theorem chunks_len {most : Int} {l q : L8} {n : Nat} (h : chunks most l = .ok (q, n)) : q.length ≤ l.length := by
  have := go_len _ _ _ _ _ _ h; simpa using this
theorem chunks_err {most : Int} {l : L8} {e : Int} (h : chunks most l = .error e) : e ≠ 0 := go_err _ _ _ _ _ h
end Cu
theorem rest_big (n m : Int) (hn : -9223372036854775808 ≤ n ∧ n ≤ 9223372036854775807) (hm : 0 < m) (hm2 : m ≤ 1099511627776) (w : World) :
    Calls Try.prog 10 #[.int .i64 n, .int .i64 m] w fun e w' => e = .returned (.int .i64 (n % m)) ∧ w' = w := by
  have h1 : Int.tmod n m = if n % m = 0 then 0 else if 0 ≤ n then n % m else n % m - m := by
    rcases Int.lt_or_le n 0 with h | h
    · have e := Int.tmod_eq_emod (a := n) (b := m)
      rw [e]
      by_cases hd : m ∣ n
      · have : n % m = 0 := Int.emod_eq_zero_of_dvd hd
        simp [this, hd]
      · have h0 : n % m ≠ 0 := fun e => hd (Int.dvd_of_emod_eq_zero e)
        rw [if_neg (by rintro (h' | h'); omega; exact hd h'), if_neg h0, if_neg (by omega)]
        omega
    · rw [Int.tmod_eq_emod_of_nonneg h, if_pos h]; split <;> omega
  have hb := Int.emod_nonneg n (by omega : m ≠ 0)
  have hb2 := Int.emod_lt_of_pos n hm
  obtain ⟨r, hr⟩ : ∃ r, n % m = r := ⟨_, rfl⟩
  rw [hr] at h1 hb hb2 ⊢
  obtain ⟨t, ht⟩ : ∃ t, Int.tmod n m = t := ⟨_, rfl⟩
  rw [ht] at h1
  have hm0 : ¬ m = 0 := by omega
  have hw : IntKind.i64.wrap t = t := by rw [IntKind.wrap_i64]; split at h1 <;> (try split at h1) <;> omega
  have H1 := hide h1
  by_cases hneg : t < 0
  · have hs : t + m = r := by rw [unhide H1]; split at h1 <;> (try split at h1) <;> omega
    clear h1
    go_enter Try.func10, Try.ntmps10
    go_wp2_with fail
    go_ret
    exact ⟨rfl, rfl⟩
  · have hs : t = r := by rw [unhide H1]; split at h1 <;> (try split at h1) <;> omega
    clear h1
    subst hs
    go_enter Try.func10, Try.ntmps10
    go_wp2_with fail
    go_ret
    exact ⟨rfl, rfl⟩
end Go.Proofs.Ytgmpgacedmjgdaa
namespace Go.Proofs.Ytgmpgacedmjgdaa.frameCuts
open Go.ChangeShapes Go.WideShapes Go.ChangeAt Go.RowKit
open Go.ChangeMaps (open_string shut_string)
open Kb
set_option linter.unusedVariables false

theorem eq_self_s (q : ByteArray) : (q.toList == q.toList) = true := by simp
set_option maxHeartbeats 4000000 in
theorem walk (s : ByteArray) (most at_ : Int) (more : ByteArray) (hb : s.size + more.size ≤ 1048576) (hi1 : -9223372036854775808 ≤ most ∧ most ≤ 9223372036854775807) (hi2 : -9223372036854775808 ≤ at_ ∧ at_ ≤ 9223372036854775807) (w : World) :
    Calls Try.prog 4 #[.string s, .int .i64 most, .int .i64 at_, .string more] w fun e w' => e = .returned (.bool true) ∧ Below w.heap.size w w' := by
  have H0 := hide (chunks_any ⟨#[49, 13, 10, 97]⟩ 5 w (by decide) (by decide) ([], 0, 7) (by decide +kernel))
  have HS := hide (fun W => chunks_any s most W (by omega) hi1 _ rfl)
  rcases hc : Cu.chunks most s.data.toList with e | ⟨q', n⟩
  · have he := Cu.chunks_err hc
    rw [hc] at HS
    dsimp only [Cu.tell] at HS
    have e0 : mk [] = ByteArray.empty := rfl
    rw [e0] at HS H0
    clear hc hi1 hi2
    go_enter Try.func4, Try.ntmps4
    go_wp2_with fail
    refine (unhide H0).mono ?_; rintro e1 w1 ⟨rfl, b1⟩
    go_wp2_with fail
    refine ((unhide HS) w1).mono ?_; rintro e1 w2 ⟨rfl, b2⟩
    go_wp2_with fail
    go_ret
    exact ⟨rfl, bel_trans b1 b2⟩
  · obtain ⟨h1, hnl, hA, hB⟩ := Cu.chunks_cuts hc
    rw [len_data] at hnl
    have hqb := Cu.chunks_len hc
    rw [len_data] at hqb
    rw [hc] at HS
    dsimp only [Cu.tell] at HS
    obtain ⟨q, hq⟩ := ex_list q'
    have HM := hide (fun W => chunks_any (s ++ more) most W (by simp; omega) hi1 (q', (n : Int), 0) (by rw [cat_data, hA most _ (Int.le_refl _)]; rfl))
    have HW := hide (fun (m : Int) (hm : most ≤ m) (hm2 : m ≤ 9223372036854775807) W => chunks_any s m W (by omega) ⟨by omega, hm2⟩ (q', (n : Int), 0) (by have := hA m [] hm; rw [List.append_nil] at this; rw [this]; rfl))
    obtain ⟨j, hj⟩ : ∃ j : Nat, at_ % (n : Int) = j := ⟨(at_ % (n : Int)).toNat, (Int.toNat_of_nonneg (Int.emod_nonneg _ (by omega))).symm⟩
    have hjn : j < n := by have := Int.emod_lt_of_pos at_ (show 0 < (n : Int) by omega); omega
    have HP := hide (fun W => chunks_any (s.extract 0 j) most W (by simp; omega) hi1 ([], 0, 7) (by rw [take_data, hB j hjn]; rfl))
    have HR := hide (fun W => rest_big at_ n hi2 (by omega) (by omega) W)
    rw [hj] at HR
    have hqb2 : q.size ≤ 1099511627776 := by rw [← len_data, hq]; omega
    clear hqb
    rw [← hq, mk_data] at HS
    dsimp only at HM HW HP
    rw [← hq, mk_data] at HM HW
    have e0 : mk [] = ByteArray.empty := rfl
    rw [e0] at H0 HP
    clear hc hA hB hj hq
    obtain ⟨M, hM⟩ : ∃ M : Int, max most (q.size : Int) = M := ⟨_, rfl⟩
    have hMb : most ≤ M ∧ M ≤ 9223372036854775807 := by
      omega
    have hN : max (1 : Int) (n : Int) = n := by omega
    clear hi2
    by_cases hbig : M < 1099511627776
    · have HV := hide ((unhide HW) (M + 1) (by omega) (by omega))
      clear HW
      go_enter Try.func4, Try.ntmps4
      go_wp2_with fail
      refine (unhide H0).mono ?_; rintro e1 w1 ⟨rfl, b1⟩
      go_wp2_with fail
      refine ((unhide HS) w1).mono ?_; rintro e1 w2 ⟨rfl, b2⟩
      go_wp2_with fail
      refine ((unhide HM) w2).mono ?_; rintro e1 w3 ⟨rfl, b3⟩
      go_wp2_with fail
      refine ((unhide HV) w3).mono ?_; rintro e1 w4 ⟨rfl, b4⟩
      go_wp2_with fail
      refine ((unhide HR) w4).mono ?_; rintro e1 wx ⟨rfl, rfl⟩
      go_wp2_with fail
      refine ((unhide HP) wx).mono ?_; rintro e1 w5 ⟨rfl, b5⟩
      go_wp2_with fail
      go_ret
      exact ⟨rfl, bel_trans b1 (bel_trans b2 (bel_trans b3 (bel_trans b4 b5)))⟩
    · have HV := hide ((unhide HW) M (by omega) (by omega))
      clear HW
      go_enter Try.func4, Try.ntmps4
      go_wp2_with fail
      refine (unhide H0).mono ?_; rintro e1 w1 ⟨rfl, b1⟩
      go_wp2_with fail
      refine ((unhide HS) w1).mono ?_; rintro e1 w2 ⟨rfl, b2⟩
      go_wp2_with fail
      refine ((unhide HM) w2).mono ?_; rintro e1 w3 ⟨rfl, b3⟩
      go_wp2_with fail
      refine ((unhide HV) w3).mono ?_; rintro e1 w4 ⟨rfl, b4⟩
      go_wp2_with fail
      refine ((unhide HR) w4).mono ?_; rintro e1 wx ⟨rfl, rfl⟩
      go_wp2_with fail
      refine ((unhide HP) wx).mono ?_; rintro e1 w5 ⟨rfl, b5⟩
      go_wp2_with fail
      go_ret
      exact ⟨rfl, bel_trans b1 (bel_trans b2 (bel_trans b3 (bel_trans b4 b5)))⟩
theorem own : ownKnob Try.prog.godebug = none := by kernel_rfl

theorem small_of {H : Type} {a0 : ByteArray} {a1 : Int} {a2 : Int} {a3 : ByteArray} (hk : Rows.uptoSmall H ([.lit (.string a0.data.toList), .lit (.int .i64 a1), .lit (.int .i64 a2), .lit (.string a3.data.toList)] ++ []) = true) : a0.size + a3.size ≤ 1048576 := by
  have h := of_decide_eq_true hk
  simp only [Rows.uptoBulkAll, Rows.uptoBulk, List.append_nil, Array.length_toList, ByteArray.size_data] at h
  omega

set_option maxRecDepth 100000 in
theorem contract (H : Type) (enc : TypeId × Value → H) (W : World) (base : Nat) (args : Array Value) (ds gs : List (DataW H)) (before : List MemPlace) (hsh : W.ShapedOpen Try.prog)
    (hval0 : ∀ (j : Nat) t v, Try.f4.params[j]? = some t → args[j]? = some v → Value.okWide Try.prog W .any base t v)
    (hW : DataW.Whole enc Try.prog Try.f4.params.toList Rows.frameCutsSpec.vars false W args.toList ds gs before) (hk : Rows.uptoSmall H (ds ++ gs) = true) :
    Calls Try.prog 4 args W fun e W' => ∃ v, e = .returned v ∧ Rows.frameCutsSpec.post enc Try.prog Try.f4 false true false false W args v W' := by
  have hval : ∀ (j : Nat) t v, Try.f4.params[j]? = some t → args[j]? = some v → Value.okWide Try.prog W .any base t v := hval0
  have hW' := hW
  obtain ⟨p, q, hA0, hV, rfl, hfz, hnd⟩ := hW
  have hA : DataW.TrodAll enc Try.prog W 0 (fun _ => true) true Try.f4.params.toList args.toList ds p := hA0
  rw [Try.params4] at hA hval
  obtain ⟨v0, vs0, d0, ds0, p0, q0, hargs, rfl, rfl, h0, r0⟩ := trodAll_cons hA
  obtain ⟨v1, vs1, d1, ds1, p1, q1, rfl, rfl, rfl, h1, r1⟩ := trodAll_cons r0
  obtain ⟨v2, vs2, d2, ds2, p2, q2, rfl, rfl, rfl, h2, r2⟩ := trodAll_cons r1
  obtain ⟨v3, vs3, d3, ds3, p3, q3, rfl, rfl, rfl, h3, r3⟩ := trodAll_cons r2
  obtain ⟨rfl, rfl, rfl⟩ := trodAll_nil r3
  obtain rfl : args = #[v0, v1, v2, v3] := by cases args; simp_all
  obtain ⟨rfl, rfl⟩ := trodVars_none hV
  obtain ⟨a0, rfl, rfl, rfl, w0⟩ := open_string Try.underlying9 (hval 0 9 v0 rfl rfl) h0
  obtain ⟨a1, rfl, rfl, rfl, w1⟩ := open_int Try.underlying3 (hval 1 3 v1 rfl rfl) h1
  obtain ⟨a2, rfl, rfl, rfl, w2⟩ := open_int Try.underlying3 (hval 2 3 v2 rfl rfl) h2
  obtain ⟨a3, rfl, rfl, rfl, w3⟩ := open_string Try.underlying9 (hval 3 9 v3 rfl rfl) h3
  clear hA0 hval0
  simp only [List.append_nil] at hW'
  have hi1 : -9223372036854775808 ≤ a1 ∧ a1 ≤ 9223372036854775807 := by simpa [Lit.wf, IntKind.min, IntKind.max, IntKind.signed, IntKind.bits] using w1
  have hi2 : -9223372036854775808 ≤ a2 ∧ a2 ≤ 9223372036854775807 := by simpa [Lit.wf, IntKind.min, IntKind.max, IntKind.signed, IntKind.bits] using w2
  refine (walk a0 a1 a2 a3 (small_of hk) hi1 hi2 W).mono fun e W' ⟨he, hb⟩ => ?_
  subst he
  exact ⟨_, rfl, _, _, _, [], [], [], hW', (trodAll_cons_mk (shut_bool Try.underlying4 _) trodAll_mk0), (trodAll_cons_mk (shut_string Try.underlying9 w0) (trodAll_cons_mk (shut_int Try.underlying3 w1) (trodAll_cons_mk (shut_int Try.underlying3 w2) (trodAll_cons_mk (shut_string Try.underlying9 w3) trodAll_mk0)))), rfl, hb.frame _, fun h => by cases h⟩

set_option maxRecDepth 100000 in
set_option maxRecDepth 100000 in
theorem lifted (os : Os) (started : os.Started) (H : Type) (enc : TypeId × Value → H) (F : Stop.Interp) :
    ReturnsInHanded {} Try.checked os 4 .any ((Rows.OpenSpec.upto Rows.frameCutsSpec).pre6 enc Try.prog Try.f4 Rows.frameCutsUptoRow.domain false) (((Rows.OpenSpec.upto Rows.frameCutsSpec).at F).post enc Try.prog Try.f4 false true false false) := by
  refine cond_shaped (C := Try.checked) (s := Rows.OpenSpec.upto Rows.frameCutsSpec) (k := Rows.uptoSmall) rfl own started (by kernel_rfl) Try.func4
    (OpenSpec.witness (enc := enc) (C := Try.checked) (s := Rows.OpenSpec.upto Rows.frameCutsSpec) (k := Rows.uptoSmall) rfl false ⟨#[], #[.string ByteArray.empty, .int .i64 0, .int .i64 0, .string ByteArray.empty], []⟩ 8 (by kernel_rfl) (by kernel_rfl) (by kernel_rfl)
      (x := ([.lit (.string []), .lit (.int .i64 0), .lit (.int .i64 0), .lit (.string [])], [], [])) (by kernel_rfl) rfl (by kernel_rfl)) ?_
  intro W base args ds gs before hsh hval hW hk
  exact contract H enc W base args ds gs before hsh hval hW hk

set_option maxRecDepth 100000 in
theorem over : Rows.FrameCutsUptoSaid :=
  OpenClaim.holds_of_cond 4 Try.f4 rfl rfl rfl rfl rfl rfl rfl ⟨rfl, rfl, rfl, rfl, rfl⟩ rfl rfl rfl rfl rfl (by kernel_rfl) Try.func4 (by kernel_rfl)
    (of_decide_eq_true (by kernel_rfl)) (by unfold Func.isWrapper; first | (rw [if_pos (by decide +kernel)]; kernel_rfl) | (rw [if_neg (by decide +kernel)]; exact ⟨rfl, rfl⟩))
    (fun os started H enc _ F => lifted os started H enc F)
end Go.Proofs.Ytgmpgacedmjgdaa.frameCuts
namespace Go.Proofs.Ytgmpgacedmjgdaa
theorem frameCuts_holds : Rows.FrameCutsUptoSaid := frameCuts.over
#print axioms frameCuts_holds
end Go.Proofs.Ytgmpgacedmjgdaa
