/- For every text s of bulk at most 1048576, the call of CodingBytes returns true and leaves its argument as it was; the condition is the bulk. -/
import Derived.Test.YtejjbnbaholbbaaRows
import Derived.WalkKit
import Derived.ProofKit
import Derived.OpenShut
import Derived.ShutString
import Derived.JoinedCond
import Derived.Test.YtejjbnbaholbbaaRs
import Derived.Test.YtejjbnbaholbbaaWrap
namespace Go.Proofs.Ytejjbnbaholbbaa.codingBytes
open Go.ChangeShapes Go.WideShapes Go.ChangeAt Go.RowKit
open Go.ChangeMaps (open_string shut_string)
open Kb
set_option linter.unusedVariables false

set_option maxHeartbeats 4000000 in
theorem walk (s : ByteArray) (hs : s.size ≤ 1048576) (w : World) :
    Calls Try.prog 4 #[.string s] w fun e w' => e = .returned (.bool true) ∧ Below w.heap.size w w' := by
  obtain ⟨x, hx⟩ := ex_list (Cd.hexEnc s.data.toList)
  obtain ⟨y, hy⟩ := ex_list (C6.enc64 s.data.toList)
  have A1 := hide (he_at s x hx (by omega))
  have A2 := hide (fun w => rhexEncode_any s x w hx (by omega))
  have B1 := hide (be_at s y hy (by omega))
  have B2 := hide (fun w => rb64enc_any s y w hy (by omega))
  have C1 := hide (fun w => hexDecode_any s w (by omega))
  have C2 := hide (fun w => rhexDecode_any s w (by omega))
  have D1 := hide (fun w => b64dec_any s w (by omega))
  have D2 := hide (fun w => rb64dec_any s w (by omega))
  generalize (⟨(hdV s.data.toList).toArray⟩ : ByteArray) = a at *
  generalize hdE s.data.toList = b at *
  generalize (⟨(bdV s.data.toList).toArray⟩ : ByteArray) = c at *
  generalize bdE s.data.toList = d at *
  clear hx hy
  go_enter Try.func4, Try.ntmps4
  go_wp2_with fail
  refine ((unhide C1) _).mono ?_; rintro e w1 ⟨rfl, b1⟩
  go_wp2_with fail
  refine ((unhide C2) _).mono ?_; rintro e w2 ⟨rfl, b2⟩
  go_wp2_with fail
  refine ((unhide D1) _).mono ?_; rintro e w3 ⟨rfl, b3⟩
  go_wp2_with fail
  refine ((unhide D2) _).mono ?_; rintro e w4 ⟨rfl, b4⟩
  go_wp2_with fail
  refine ((unhide A1) _).mono ?_; rintro e w5 ⟨rfl, b5⟩
  go_wp2_with fail
  refine ((unhide A2) _).mono ?_; rintro e w6 ⟨rfl, b6⟩
  go_wp2_with fail
  refine ((unhide B1) _).mono ?_; rintro e w7 ⟨rfl, b7⟩
  go_wp2_with fail
  refine ((unhide B2) _).mono ?_; rintro e w8 ⟨rfl, b8⟩
  go_wp2_with fail
  go_ret
  exact ⟨rfl, bel_trans (bel_trans (bel_trans (bel_trans (bel_trans (bel_trans (bel_trans b1 b2) b3) b4) b5) b6) b7) b8⟩
theorem own : ownKnob Try.prog.godebug = none := by kernel_rfl

theorem small_of {H : Type} {a0 : ByteArray} (hk : Rows.uptoSmall H ([.lit (.string a0.data.toList)] ++ []) = true) : a0.size ≤ 1048576 := by
  have h := of_decide_eq_true hk
  simp only [Rows.uptoBulkAll, Rows.uptoBulk, List.append_nil, Array.length_toList, ByteArray.size_data] at h
  omega

theorem contract (H : Type) (enc : TypeId × Value → H) (W : World) (base : Nat) (args : Array Value) (ds gs : List (DataW H)) (before : List MemPlace) (hsh : W.ShapedOpen Try.prog)
    (hval0 : ∀ (j : Nat) t v, Try.f4.params[j]? = some t → args[j]? = some v → Value.okWide Try.prog W .any base t v)
    (hW : DataW.Whole enc Try.prog Try.f4.params.toList Rows.codingBytesSpec.vars false W args.toList ds gs before) (hk : Rows.uptoSmall H (ds ++ gs) = true) :
    Calls Try.prog 4 args W fun e W' => ∃ v, e = .returned v ∧ Rows.codingBytesSpec.post enc Try.prog Try.f4 false true false false W args v W' := by
  have hval : ∀ (j : Nat) t v, Try.f4.params[j]? = some t → args[j]? = some v → Value.okWide Try.prog W .any base t v := hval0
  have hW' := hW
  obtain ⟨p, q, hA0, hV, rfl, hfz, hnd⟩ := hW
  have hA : DataW.TrodAll enc Try.prog W 0 (fun _ => true) true Try.f4.params.toList args.toList ds p := hA0
  rw [Try.params4] at hA hval
  obtain ⟨v0, vs0, d0, ds0, p0, q0, hargs, rfl, rfl, h0, r0⟩ := trodAll_cons hA
  obtain ⟨rfl, rfl, rfl⟩ := trodAll_nil r0
  obtain rfl : args = #[v0] := by cases args; simp_all
  obtain ⟨rfl, rfl⟩ := trodVars_none hV
  obtain ⟨a0, rfl, rfl, rfl, w0⟩ := open_string Try.underlying9 (hval 0 9 v0 rfl rfl) h0
  clear hA0 hval0
  simp only [List.append_nil] at hW'
  refine (walk a0 (small_of hk) W).mono fun e W' ⟨he, hb⟩ => ?_
  subst he
  exact ⟨_, rfl, _, _, _, [], [], [], hW', (trodAll_cons_mk (shut_bool Try.underlying4 _) trodAll_mk0), (trodAll_cons_mk (shut_string Try.underlying9 w0) trodAll_mk0), rfl, hb.frame _, fun h => by cases h⟩

set_option maxRecDepth 100000 in
theorem lifted (os : Os) (started : os.Started) (H : Type) (enc : TypeId × Value → H) (F : Stop.Interp) :
    ReturnsInHanded {} Try.checked os 4 .any ((Rows.OpenSpec.upto Rows.codingBytesSpec).pre6 enc Try.prog Try.f4 Rows.codingBytesUptoRow.domain false) (((Rows.OpenSpec.upto Rows.codingBytesSpec).at F).post enc Try.prog Try.f4 false true false false) := by
  refine cond_shaped (C := Try.checked) (s := Rows.OpenSpec.upto Rows.codingBytesSpec) (k := Rows.uptoSmall) rfl own started (by kernel_rfl) Try.func4
    (OpenSpec.witness (enc := enc) (C := Try.checked) (s := Rows.OpenSpec.upto Rows.codingBytesSpec) (k := Rows.uptoSmall) rfl false ⟨#[], #[.string ByteArray.empty], []⟩ 8 (by kernel_rfl) (by kernel_rfl) (by kernel_rfl)
      (x := ([.lit (.string [])], [], [])) (by kernel_rfl) rfl (by kernel_rfl)) ?_
  intro W base args ds gs before hsh hval hW hk
  exact contract H enc W base args ds gs before hsh hval hW hk

theorem over : Rows.CodingBytesUptoSaid :=
  OpenClaim.holds_of_cond 4 Try.f4 rfl rfl rfl rfl rfl rfl rfl ⟨rfl, rfl, rfl, rfl, rfl⟩ rfl rfl rfl rfl rfl (by kernel_rfl) Try.func4 (by kernel_rfl)
    (of_decide_eq_true (by kernel_rfl)) (by unfold Func.isWrapper; first | (rw [if_pos (by decide +kernel)]; kernel_rfl) | (rw [if_neg (by decide +kernel)]; exact ⟨rfl, rfl⟩))
    (fun os started H enc _ F => lifted os started H enc F)
end Go.Proofs.Ytejjbnbaholbbaa.codingBytes
namespace Go.Proofs.Ytejjbnbaholbbaa
theorem codingBytes_holds : Rows.CodingBytesUptoSaid := codingBytes.over
#print axioms codingBytes_holds
end Go.Proofs.Ytejjbnbaholbbaa
