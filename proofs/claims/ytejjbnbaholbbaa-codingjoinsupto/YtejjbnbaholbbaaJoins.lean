/- For all texts s and t, together of bulk at most 1048576, the call of CodingJoins returns true and leaves its arguments as they were; the condition is the bulk. -/
import Derived.Test.YtejjbnbaholbbaaRows
import Derived.WalkKit
import Derived.ProofKit
import Derived.OpenShut
import Derived.ShutString
import Derived.JoinedCond
import Derived.Test.YtejjbnbaholbbaaWg
import Derived.Test.YtejjbnbaholbbaaWrap
namespace Go.Proofs.Ytejjbnbaholbbaa.codingJoins
open Go.ChangeShapes Go.WideShapes Go.ChangeAt Go.RowKit
open Go.ChangeMaps (open_string shut_string)
open Kb
set_option linter.unusedVariables false

set_option maxHeartbeats 4000000 in
theorem walk (s t : ByteArray) (hs : s.size + t.size ≤ 1048576) (w : World) :
    Calls Try.prog 7 #[.string s, .string t] w fun e w' => e = .returned (.bool true) ∧ Below w.heap.size w w' := by
  obtain ⟨d, hd⟩ : ∃ d : ByteArray, s ++ ({ data := #[46] } : ByteArray) = d := ⟨_, rfl⟩
  obtain ⟨dt, hdt⟩ : ∃ x : ByteArray, d ++ t = x := ⟨_, rfl⟩
  obtain ⟨at', hat⟩ : ∃ x : ByteArray, ({ data := #[97] } : ByteArray) ++ t = x := ⟨_, rfl⟩
  have ld : d.data.toList = s.data.toList ++ [46] := by rw [← hd, cat_data]
  have ldt : dt.data.toList = d.data.toList ++ t.data.toList := by rw [← hdt, cat_data]
  have lat : at'.data.toList = 97 :: t.data.toList := by rw [← hat, cat_data]; rfl
  have sd : d.size = s.size + 1 := by rw [← len_data, ld]; simp
  have sdt : dt.size = d.size + t.size := by rw [← len_data, ldt]; simp
  have sat : at'.size = t.size + 1 := by rw [← len_data, lat]; simp
  obtain ⟨x1, hx1⟩ := ex_list (Cd.hexEnc d.data.toList)
  obtain ⟨x2, hx2⟩ := ex_list (Cd.hexEnc t.data.toList)
  have sx1 : x1.size = 2 * d.size := by rw [← len_data, hx1, Cd.hexEnc_len, len_data]
  have sx2 : x2.size = 2 * t.size := by rw [← len_data, hx2, Cd.hexEnc_len, len_data]
  obtain ⟨x, hx⟩ : ∃ x : ByteArray, x1 ++ x2 = x := ⟨_, rfl⟩
  have sx : x.size = x1.size + x2.size := by rw [← hx]; simp
  have hxd : Cd.hexDec x.data.toList = some dt.data.toList := by
    rw [← hx, cat_data, hx1, hx2, ← Cd.hexEnc_app, ← ldt, Cd.hex_back]
  obtain ⟨p, hp⟩ := ex_list (Cd.urlDec dt.data.toList)
  obtain ⟨p1, hp1⟩ := ex_list (Cd.urlDec d.data.toList)
  obtain ⟨p2, hp2⟩ := ex_list (Cd.urlDec t.data.toList)
  have sp1 : p1.size ≤ d.size := by rw [← len_data, hp1, ← len_data d]; exact Cd.scan_len _ _ _ (Nat.le_refl _)
  have sp2 : p2.size ≤ t.size := by rw [← len_data, hp2, ← len_data t]; exact Cd.scan_len _ _ _ (Nat.le_refl _)
  have hpp : p1 ++ p2 = p := eq_of_lists (by
    rw [cat_data, hp1, hp2, hp, ldt]
    exact (Cd.url_joins _ _ _ (Nat.le_refl _) (.inr ⟨_, ld⟩)).symm)
  obtain ⟨h1, hh1⟩ := ex_list (Ch.htmlDec at'.data.toList)
  obtain ⟨h2, hh2⟩ := ex_list (Ch.htmlDec t.data.toList)
  have sh2 : h2.size ≤ t.size := by rw [← len_data, hh2, ← len_data t]; exact Cd.scan_len _ _ _ (Nat.le_refl _)
  have hhh : ({ data := #[97] } : ByteArray) ++ h2 = h1 := eq_of_lists (by
    rw [cat_data, hh1, hh2, lat, Ch.html_head]; rfl)
  obtain ⟨q, hq⟩ := ex_list (Cd.urlEnc dt.data.toList)
  obtain ⟨q1, hq1⟩ := ex_list (Cd.urlEnc d.data.toList)
  obtain ⟨q2, hq2⟩ := ex_list (Cd.urlEnc t.data.toList)
  have sq1 : q1.size ≤ 3 * d.size := by rw [← len_data, hq1, ← len_data d]; exact Cd.urlEnc_len _
  have sq2 : q2.size ≤ 3 * t.size := by rw [← len_data, hq2, ← len_data t]; exact Cd.urlEnc_len _
  have hqq : q1 ++ q2 = q := eq_of_lists (by rw [cat_data, hq1, hq2, hq, ldt, Cd.urlEnc_app])
  have A1 := hide (ud_at ⟨#[37, 52, 49, 43]⟩ ⟨#[65, 32]⟩ (by
    show [65, 32] = Cd.scan Cd.us [37, 52, 49, 43]
    rw [Cd.scan_step (c := 65) (k := 3) (by simp) (by decide) (by omega), Cd.scan_step (c := 32) (k := 1) (by simp) (by decide) (by omega)]
    simp [Cd.scan_nil]) (by decide))
  have A2 := hide (ht_at ⟨#[38, 108, 116, 59, 38, 35, 54, 53, 59]⟩ ⟨#[60, 65]⟩ (by
    show [60, 65] = Cd.scan Ch.hs [38, 108, 116, 59, 38, 35, 54, 53, 59]
    rw [Cd.scan_step (c := 60) (k := 4) (by simp) (by decide +kernel) (by omega), Cd.scan_step (c := 65) (k := 5) (by simp) (by decide +kernel) (by omega)]
    simp [Cd.scan_nil]) (by decide))
  have B1 := hide (he_at d x1 hx1 (by omega))
  have B2 := hide (he_at t x2 hx2 (by omega))
  have B3 := hide (hd_at x dt hxd (by omega))
  have C1 := hide (ud_at dt p hp (by omega))
  have C2 := hide (ud_at d p1 hp1 (by omega))
  have C3 := hide (ud_at t p2 hp2 (by omega))
  have D1 := hide (ht_at at' h1 hh1 (by omega))
  have D2 := hide (ht_at t h2 hh2 (by omega))
  have E1 := hide (ue_at dt q hq (by omega))
  have E2 := hide (ue_at d q1 hq1 (by omega))
  have E3 := hide (ue_at t q2 hq2 (by omega))
  have k1 : s.size ≤ 1048576 ∧ t.size ≤ 1048576 ∧ d.size ≤ 1048577 ∧ x1.size ≤ 2097154 ∧ x2.size ≤ 2097152 ∧ p1.size ≤ 1048577 ∧ p2.size ≤ 1048576 ∧ h2.size ≤ 1048576 ∧ q1.size ≤ 3145731 ∧ q2.size ≤ 3145728 := by omega
  obtain ⟨k1, k2, k3, k4, k5, k6, k7, k8, k9, k10⟩ := k1
  clear hs ld ldt lat sd sdt sat hx1 hx2 sx1 sx2 sx hxd hp hp1 hp2 sp1 sp2 hh1 hh2 sh2 hq hq1 hq2 sq1 sq2
  go_enter Try.func7, Try.ntmps7
  go_wp2_with fail
  refine ((unhide A1) _).mono ?_; rintro e w1 ⟨rfl, b1⟩
  go_wp2_with fail
  refine ((unhide A2) _).mono ?_; rintro e w2 ⟨rfl, b2⟩
  go_wp2_with fail
  refine ((unhide B1) _).mono ?_; rintro e w3 ⟨rfl, b3⟩
  go_wp2_with fail
  refine ((unhide B2) _).mono ?_; rintro e w4 ⟨rfl, b4⟩
  go_wp2_with fail
  refine ((unhide B3) _).mono ?_; rintro e w5 ⟨rfl, b5⟩
  go_wp2_with fail
  refine ((unhide C1) _).mono ?_; rintro e w6 ⟨rfl, b6⟩
  go_wp2_with fail
  refine ((unhide C2) _).mono ?_; rintro e w7 ⟨rfl, b7⟩
  go_wp2_with fail
  refine ((unhide C3) _).mono ?_; rintro e w8 ⟨rfl, b8⟩
  go_wp2_with fail
  refine ((unhide D1) _).mono ?_; rintro e w9 ⟨rfl, b9⟩
  go_wp2_with fail
  refine ((unhide D2) _).mono ?_; rintro e w10 ⟨rfl, b10⟩
  go_wp2_with fail
  refine ((unhide E1) _).mono ?_; rintro e w11 ⟨rfl, b11⟩
  go_wp2_with fail
  refine ((unhide E2) _).mono ?_; rintro e w12 ⟨rfl, b12⟩
  go_wp2_with fail
  refine ((unhide E3) _).mono ?_; rintro e w13 ⟨rfl, b13⟩
  go_wp2_with fail
  go_ret
  exact ⟨rfl, bel_trans (bel_trans (bel_trans (bel_trans (bel_trans (bel_trans (bel_trans (bel_trans (bel_trans (bel_trans (bel_trans (bel_trans b1 b2) b3) b4) b5) b6) b7) b8) b9) b10) b11) b12) b13⟩
theorem own : ownKnob Try.prog.godebug = none := by kernel_rfl

theorem small_of {H : Type} {a0 : ByteArray} {a1 : ByteArray} (hk : Rows.uptoSmall H ([.lit (.string a0.data.toList), .lit (.string a1.data.toList)] ++ []) = true) : a0.size + a1.size ≤ 1048576 := by
  have h := of_decide_eq_true hk
  simp only [Rows.uptoBulkAll, Rows.uptoBulk, List.append_nil, Array.length_toList, ByteArray.size_data] at h
  omega

theorem contract (H : Type) (enc : TypeId × Value → H) (W : World) (base : Nat) (args : Array Value) (ds gs : List (DataW H)) (before : List MemPlace) (hsh : W.ShapedOpen Try.prog)
    (hval0 : ∀ (j : Nat) t v, Try.f7.params[j]? = some t → args[j]? = some v → Value.okWide Try.prog W .any base t v)
    (hW : DataW.Whole enc Try.prog Try.f7.params.toList Rows.codingJoinsSpec.vars false W args.toList ds gs before) (hk : Rows.uptoSmall H (ds ++ gs) = true) :
    Calls Try.prog 7 args W fun e W' => ∃ v, e = .returned v ∧ Rows.codingJoinsSpec.post enc Try.prog Try.f7 false true false false W args v W' := by
  have hval : ∀ (j : Nat) t v, Try.f7.params[j]? = some t → args[j]? = some v → Value.okWide Try.prog W .any base t v := hval0
  have hW' := hW
  obtain ⟨p, q, hA0, hV, rfl, hfz, hnd⟩ := hW
  have hA : DataW.TrodAll enc Try.prog W 0 (fun _ => true) true Try.f7.params.toList args.toList ds p := hA0
  rw [Try.params7] at hA hval
  obtain ⟨v0, vs0, d0, ds0, p0, q0, hargs, rfl, rfl, h0, r0⟩ := trodAll_cons hA
  obtain ⟨v1, vs1, d1, ds1, p1, q1, rfl, rfl, rfl, h1, r1⟩ := trodAll_cons r0
  obtain ⟨rfl, rfl, rfl⟩ := trodAll_nil r1
  obtain rfl : args = #[v0, v1] := by cases args; simp_all
  obtain ⟨rfl, rfl⟩ := trodVars_none hV
  obtain ⟨a0, rfl, rfl, rfl, w0⟩ := open_string Try.underlying9 (hval 0 9 v0 rfl rfl) h0
  obtain ⟨a1, rfl, rfl, rfl, w1⟩ := open_string Try.underlying9 (hval 1 9 v1 rfl rfl) h1
  clear hA0 hval0
  simp only [List.append_nil] at hW'
  refine (walk a0 a1 (small_of hk) W).mono fun e W' ⟨he, hb⟩ => ?_
  subst he
  exact ⟨_, rfl, _, _, _, [], [], [], hW', (trodAll_cons_mk (shut_bool Try.underlying4 _) trodAll_mk0), (trodAll_cons_mk (shut_string Try.underlying9 w0) (trodAll_cons_mk (shut_string Try.underlying9 w1) trodAll_mk0)), rfl, hb.frame _, fun h => by cases h⟩

set_option maxRecDepth 100000 in
theorem lifted (os : Os) (started : os.Started) (H : Type) (enc : TypeId × Value → H) (F : Stop.Interp) :
    ReturnsInHanded {} Try.checked os 7 .any ((Rows.OpenSpec.upto Rows.codingJoinsSpec).pre6 enc Try.prog Try.f7 Rows.codingJoinsUptoRow.domain false) (((Rows.OpenSpec.upto Rows.codingJoinsSpec).at F).post enc Try.prog Try.f7 false true false false) := by
  refine cond_shaped (C := Try.checked) (s := Rows.OpenSpec.upto Rows.codingJoinsSpec) (k := Rows.uptoSmall) rfl own started (by kernel_rfl) Try.func7
    (OpenSpec.witness (enc := enc) (C := Try.checked) (s := Rows.OpenSpec.upto Rows.codingJoinsSpec) (k := Rows.uptoSmall) rfl false ⟨#[], #[.string ByteArray.empty, .string ByteArray.empty], []⟩ 8 (by kernel_rfl) (by kernel_rfl) (by kernel_rfl)
      (x := ([.lit (.string []), .lit (.string [])], [], [])) (by kernel_rfl) rfl (by kernel_rfl)) ?_
  intro W base args ds gs before hsh hval hW hk
  exact contract H enc W base args ds gs before hsh hval hW hk

theorem over : Rows.CodingJoinsUptoSaid :=
  OpenClaim.holds_of_cond 7 Try.f7 rfl rfl rfl rfl rfl rfl rfl ⟨rfl, rfl, rfl, rfl, rfl⟩ rfl rfl rfl rfl rfl (by kernel_rfl) Try.func7 (by kernel_rfl)
    (of_decide_eq_true (by kernel_rfl)) (by unfold Func.isWrapper; first | (rw [if_pos (by decide +kernel)]; kernel_rfl) | (rw [if_neg (by decide +kernel)]; exact ⟨rfl, rfl⟩))
    (fun os started H enc _ F => lifted os started H enc F)
end Go.Proofs.Ytejjbnbaholbbaa.codingJoins
namespace Go.Proofs.Ytejjbnbaholbbaa
theorem codingJoins_holds : Rows.CodingJoinsUptoSaid := codingJoins.over
#print axioms codingJoins_holds
end Go.Proofs.Ytejjbnbaholbbaa
