/- For every text s of bulk at most 1048576, the call of CodingOne returns true and leaves its argument as it was; the condition is the bulk. -/
import Derived.Test.YtejjbnbaholbbaaRows
import Derived.WalkKit
import Derived.ProofKit
import Derived.OpenShut
import Derived.ShutString
import Derived.JoinedCond
import Derived.Test.YtejjbnbaholbbaaWk
import Derived.Test.YtejjbnbaholbbaaWl
import Derived.Test.YtejjbnbaholbbaaWrap
namespace Go.Proofs.Ytejjbnbaholbbaa.codingOne
open Go.ChangeShapes Go.WideShapes Go.ChangeAt Go.RowKit
open Go.ChangeMaps (open_string shut_string)
open Kb
set_option linter.unusedVariables false

theorem low_at (s q : ByteArray) (hq : q.data.toList = lower s.data.toList) (hs : s.size ≤ 68719476736) (w : World) :
    Calls Try.prog 22 #[.string s] w fun e w' => e = .returned (.string q) ∧ Below w.heap.size w w' := by
  have := lower_any s w (by omega)
  rwa [back_list q _ hq] at this
theorem lo_low (l : List UInt8) : l.map Cd.lo8 = lower l := rfl

set_option maxHeartbeats 4000000 in
theorem walk (s : ByteArray) (hs : s.size ≤ 1048576) (w : World) :
    Calls Try.prog 6 #[.string s] w fun e w' => e = .returned (.bool true) ∧ Below w.heap.size w w' := by
  have A1 := hide (hd_at ⟨#[52, 65, 52, 98]⟩ ⟨#[74, 75]⟩ (by decide +kernel) (by decide))
  obtain ⟨l, hl⟩ := ex_list (lower s.data.toList)
  have A3 := hide (low_at s l hl (by omega))
  rcases hx : Cd.hexDec s.data.toList with _ | m
  · have A2 := hide (hd_bad s hx (by omega))
    rcases hy : C6.dec64 s.data.toList with _ | n
    · have B1 := hide (bd_bad s hy (by omega))
      clear hx hy hl
      go_enter Try.func6, Try.ntmps6
      go_wp2_with fail
      refine ((unhide A1) _).mono ?_; rintro e w1 ⟨rfl, b1⟩
      go_wp2_with fail
      refine ((unhide A2) _).mono ?_; rintro e w2 ⟨rfl, b2⟩
      go_wp2_with fail
      refine ((unhide B1) _).mono ?_; rintro e w3 ⟨rfl, b3⟩
      go_wp2_with fail
      go_ret
      exact ⟨rfl, bel_trans (bel_trans b1 b2) b3⟩
    · obtain ⟨q, hq⟩ := ex_list n
      rw [← hq] at hy
      have hql := dec_len hy
      simp only [Array.length_toList] at hql
      have B1 := hide (bd_at s q hy (by omega))
      have B2 := hide (be_at q s (C6.enc_dec _ _ _ (Nat.le_refl _) hy).symm (by show q.size ≤ _; have : q.size ≤ s.size := hql; omega))
      clear hx hy hl hql hq
      go_enter Try.func6, Try.ntmps6
      go_wp2_with fail
      refine ((unhide A1) _).mono ?_; rintro e w1 ⟨rfl, b1⟩
      go_wp2_with fail
      refine ((unhide A2) _).mono ?_; rintro e w2 ⟨rfl, b2⟩
      go_wp2_with fail
      refine ((unhide B1) _).mono ?_; rintro e w3 ⟨rfl, b3⟩
      go_wp2_with fail
      refine ((unhide B2) _).mono ?_; rintro e w4 ⟨rfl, b4⟩
      go_wp2_with fail
      go_ret
      exact ⟨rfl, bel_trans (bel_trans (bel_trans b1 b2) b3) b4⟩
  · obtain ⟨h, hh⟩ := ex_list m
    rw [← hh] at hx
    have hhl := Cd.hexDec_len _ _ _ (Nat.le_refl _) hx
    simp only [Array.length_toList] at hhl
    have hhs : h.size ≤ s.size := by show h.data.size ≤ s.data.size; omega
    have A2 := hide (hd_at s h hx (by omega))
    have A4 := hide (he_at h l (by rw [hl, Cd.hex_one _ _ _ (Nat.le_refl _) hx, lo_low]) (by omega))
    rcases hy : C6.dec64 s.data.toList with _ | n
    · have B1 := hide (bd_bad s hy (by omega))
      clear hx hy hl hhl hhs hh
      go_enter Try.func6, Try.ntmps6
      go_wp2_with fail
      refine ((unhide A1) _).mono ?_; rintro e w1 ⟨rfl, b1⟩
      go_wp2_with fail
      refine ((unhide A2) _).mono ?_; rintro e w2 ⟨rfl, b2⟩
      go_wp2_with fail
      refine ((unhide A4) _).mono ?_; rintro e w3 ⟨rfl, b3⟩
      go_wp2_with fail
      refine ((unhide A3) _).mono ?_; rintro e w4 ⟨rfl, b4⟩
      go_wp2_with fail
      refine ((unhide B1) _).mono ?_; rintro e w5 ⟨rfl, b5⟩
      go_wp2_with fail
      go_ret
      exact ⟨rfl, bel_trans (bel_trans (bel_trans (bel_trans b1 b2) b3) b4) b5⟩
    · obtain ⟨q, hq⟩ := ex_list n
      rw [← hq] at hy
      have hql := dec_len hy
      simp only [Array.length_toList] at hql
      have B1 := hide (bd_at s q hy (by omega))
      have B2 := hide (be_at q s (C6.enc_dec _ _ _ (Nat.le_refl _) hy).symm (by show q.size ≤ _; have : q.size ≤ s.size := hql; omega))
      clear hx hy hl hql hq hhl hhs hh
      go_enter Try.func6, Try.ntmps6
      go_wp2_with fail
      refine ((unhide A1) _).mono ?_; rintro e w1 ⟨rfl, b1⟩
      go_wp2_with fail
      refine ((unhide A2) _).mono ?_; rintro e w2 ⟨rfl, b2⟩
      go_wp2_with fail
      refine ((unhide A4) _).mono ?_; rintro e w3 ⟨rfl, b3⟩
      go_wp2_with fail
      refine ((unhide A3) _).mono ?_; rintro e w4 ⟨rfl, b4⟩
      go_wp2_with fail
      refine ((unhide B1) _).mono ?_; rintro e w5 ⟨rfl, b5⟩
      go_wp2_with fail
      refine ((unhide B2) _).mono ?_; rintro e w6 ⟨rfl, b6⟩
      go_wp2_with fail
      go_ret
      exact ⟨rfl, bel_trans (bel_trans (bel_trans (bel_trans (bel_trans b1 b2) b3) b4) b5) b6⟩
theorem own : ownKnob Try.prog.godebug = none := by kernel_rfl

theorem small_of {H : Type} {a0 : ByteArray} (hk : Rows.uptoSmall H ([.lit (.string a0.data.toList)] ++ []) = true) : a0.size ≤ 1048576 := by
  have h := of_decide_eq_true hk
  simp only [Rows.uptoBulkAll, Rows.uptoBulk, List.append_nil, Array.length_toList, ByteArray.size_data] at h
  omega

theorem contract (H : Type) (enc : TypeId × Value → H) (W : World) (base : Nat) (args : Array Value) (ds gs : List (DataW H)) (before : List MemPlace) (hsh : W.ShapedOpen Try.prog)
    (hval0 : ∀ (j : Nat) t v, Try.f6.params[j]? = some t → args[j]? = some v → Value.okWide Try.prog W .any base t v)
    (hW : DataW.Whole enc Try.prog Try.f6.params.toList Rows.codingOneSpec.vars false W args.toList ds gs before) (hk : Rows.uptoSmall H (ds ++ gs) = true) :
    Calls Try.prog 6 args W fun e W' => ∃ v, e = .returned v ∧ Rows.codingOneSpec.post enc Try.prog Try.f6 false true false false W args v W' := by
  have hval : ∀ (j : Nat) t v, Try.f6.params[j]? = some t → args[j]? = some v → Value.okWide Try.prog W .any base t v := hval0
  have hW' := hW
  obtain ⟨p, q, hA0, hV, rfl, hfz, hnd⟩ := hW
  have hA : DataW.TrodAll enc Try.prog W 0 (fun _ => true) true Try.f6.params.toList args.toList ds p := hA0
  rw [Try.params6] at hA hval
  obtain ⟨v0, vs0, d0, ds0, p0, q0, hargs, rfl, rfl, h0, r0⟩ := trodAll_cons hA
  obtain ⟨rfl, rfl, rfl⟩ := trodAll_nil r0
  obtain rfl : args = #[v0] := by cases args; simp_all
  obtain ⟨rfl, rfl⟩ := trodVars_none hV
  obtain ⟨a0, rfl, rfl, rfl, w0⟩ := open_string Try.underlying9 (hval 0 9 v0 rfl rfl) h0
  clear hA0 hval0
  simp only [List.append_nil] at hW'
  refine (walk a0 (small_of hk) W).mono fun e W' ⟨he, hb⟩ => ?_
  subst he
  exact ⟨_, rfl, _, _, _, [], [], [], hW', (trodAll_cons_mk (shut_bool Try.underlying4 _) trodAll_mk0), (trodAll_cons_mk (shut_string Try.underlying9 w0) trodAll_mk0), rfl, hb.frame _, fun h => by cases h⟩

set_option maxRecDepth 100000 in
theorem lifted (os : Os) (started : os.Started) (H : Type) (enc : TypeId × Value → H) (F : Stop.Interp) :
    ReturnsInHanded {} Try.checked os 6 .any ((Rows.OpenSpec.upto Rows.codingOneSpec).pre6 enc Try.prog Try.f6 Rows.codingOneUptoRow.domain false) (((Rows.OpenSpec.upto Rows.codingOneSpec).at F).post enc Try.prog Try.f6 false true false false) := by
  refine cond_shaped (C := Try.checked) (s := Rows.OpenSpec.upto Rows.codingOneSpec) (k := Rows.uptoSmall) rfl own started (by kernel_rfl) Try.func6
    (OpenSpec.witness (enc := enc) (C := Try.checked) (s := Rows.OpenSpec.upto Rows.codingOneSpec) (k := Rows.uptoSmall) rfl false ⟨#[], #[.string ByteArray.empty], []⟩ 8 (by kernel_rfl) (by kernel_rfl) (by kernel_rfl)
      (x := ([.lit (.string [])], [], [])) (by kernel_rfl) rfl (by kernel_rfl)) ?_
  intro W base args ds gs before hsh hval hW hk
  exact contract H enc W base args ds gs before hsh hval hW hk

theorem over : Rows.CodingOneUptoSaid :=
  OpenClaim.holds_of_cond 6 Try.f6 rfl rfl rfl rfl rfl rfl rfl ⟨rfl, rfl, rfl, rfl, rfl⟩ rfl rfl rfl rfl rfl (by kernel_rfl) Try.func6 (by kernel_rfl)
    (of_decide_eq_true (by kernel_rfl)) (by unfold Func.isWrapper; first | (rw [if_pos (by decide +kernel)]; kernel_rfl) | (rw [if_neg (by decide +kernel)]; exact ⟨rfl, rfl⟩))
    (fun os started H enc _ F => lifted os started H enc F)
end Go.Proofs.Ytejjbnbaholbbaa.codingOne
namespace Go.Proofs.Ytejjbnbaholbbaa
theorem codingOne_holds : Rows.CodingOneUptoSaid := codingOne.over
#print axioms codingOne_holds
end Go.Proofs.Ytejjbnbaholbbaa
