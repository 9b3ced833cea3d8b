/- For every text s of bulk at most 1048576, with the two tables of unicode/utf8 as the program's text lays them and whatever number the library's own variable MaxLen holds, the call of CleanAgain returns true and leaves what was there as it was. -/
import Derived.Test.YthheapoehalhbaaDoorRows
import Derived.Test.YthheapoehalhbaaDoorTie
import Derived.Test.YthheapoehalhbaaDoorCards
import Derived.WalkKit
import Derived.ProofKit
import Derived.OpenShut
import Derived.ShutString
import Derived.JoinedCond
import Derived.Test.YthheapoehalhbaaDoorXa
import Derived.Test.YthheapoehalhbaaDoorWf
import Derived.Test.YthheapoehalhbaaDoorLain
namespace Go.Proofs.YthheapoehalhbaaDoor.cleanAgain
open Go.ChangeShapes Go.WideShapes Go.ChangeAt Go.RowKit
open Go.ChangeMaps (open_string shut_string)
set_option linter.unusedVariables false

set_option maxHeartbeats 4000000 in
theorem walk_m (s : ByteArray) (m : Int) (hb : s.size ≤ 1048576) (w : World) (hm : w.cell? ⟨0, 0, none⟩ = some (.int .i64 m)) :
    Calls Tryd.prog 5 #[.string s] w fun e w' => e = .returned (.bool true) ∧ Below w.heap.size w w' := by
  obtain ⟨a, ha⟩ := ex_list (Cq.sqz false s.data.toList)
  obtain ⟨b, hb2⟩ := ex_list (Cq.wo [0] s.data.toList)
  obtain ⟨c, hc⟩ := ex_list (Cq.cmd s.data.toList)
  have la : a.size ≤ s.size := by have := Cq.sqz_len s.data.toList false; rwa [← ha, len_data, len_data] at this
  have lb : b.size ≤ s.size := by have := Cq.wo_len [0] s.data.toList; rwa [← hb2, len_data, len_data] at this
  have lc : c.size ≤ s.size := by have := Cq.cmd_len s.data.toList; rwa [← hc, len_data, len_data] at this
  have H1 := hide (sq_at ⟨#[97, 32, 9, 32, 98]⟩ ⟨#[97, 32, 98]⟩ (by decide) (by decide))
  have H2 := hide (cmd_at ⟨#[67, 94, 97, 116, 34, 32, 32, 44, 47, 101, 116, 99]⟩ ⟨#[99, 97, 116, 47, 101, 116, 99]⟩ (by decide) (by decide) m)
  have H3 := hide (sq_at s a ha (by omega))
  have H4 := hide (nn_at s b hb2 (by omega))
  have H5 := hide (cmd_at s c hc (by omega) m)
  have H6 := hide (sq_at a a (by rw [ha, Cq.sqz_sqz]) (by omega))
  have H7 := hide (nn_at b b (by rw [hb2, Cq.wo_wo]) (by omega))
  have H8 := hide (cmd_at c c (by rw [hc, Cq.cmd_cmd]) (by omega) m)
  have H9 := hide (fun w hm => find_any a ⟨#[32, 32]⟩ 0 m w (by omega) (by omega) (by omega) hm)
  have H10 := hide (fun w hm => find_any b ⟨#[0]⟩ 0 m w (by omega) (by omega) (by omega) hm)
  have H11 := hide (low_at c c (by rw [hc, Cq.cmd_low]) (by omega))
  rw [ha, show (⟨#[32, 32]⟩ : ByteArray).data.toList = [32, 32] from rfl, Cq.sqz_two] at H9
  rw [hb2, show (⟨#[0]⟩ : ByteArray).data.toList = [0] from rfl, Cq.wo_find] at H10
  have HM := hide hm
  clear hm ha hb2 hc la lb lc
  go_enter Tryd.func5, Tryd.ntmps5
  go_wp2_with fail
  refine ((unhide H1) _).mono ?_; rintro e w1 ⟨rfl, b1⟩
  have B1 := hide b1; clear b1
  go_wp2_with fail
  refine ((unhide H2) _ (max_below (unhide HM) (unhide B1))).mono ?_; rintro e w2 ⟨rfl, b2⟩
  have B2 := hide (bel_trans (unhide B1) b2); clear b2 B1
  go_wp2_with fail
  refine ((unhide H3) _).mono ?_; rintro e w3 ⟨rfl, b3⟩
  have B3 := hide (bel_trans (unhide B2) b3); clear b3 B2
  go_wp2_with fail
  refine ((unhide H4) _).mono ?_; rintro e w4 ⟨rfl, b4⟩
  have B4 := hide (bel_trans (unhide B3) b4); clear b4 B3
  go_wp2_with fail
  refine ((unhide H5) _ (max_below (unhide HM) (unhide B4))).mono ?_; rintro e w5 ⟨rfl, b5⟩
  have B5 := hide (bel_trans (unhide B4) b5); clear b5 B4
  go_wp2_with fail
  refine ((unhide H6) _).mono ?_; rintro e w6 ⟨rfl, b6⟩
  have B6 := hide (bel_trans (unhide B5) b6); clear b6 B5
  go_wp2_with fail
  refine ((unhide H7) _).mono ?_; rintro e w7 ⟨rfl, b7⟩
  have B7 := hide (bel_trans (unhide B6) b7); clear b7 B6
  go_wp2_with fail
  refine ((unhide H8) _ (max_below (unhide HM) (unhide B7))).mono ?_; rintro e w8 ⟨rfl, b8⟩
  have B8 := hide (bel_trans (unhide B7) b8); clear b8 B7
  go_wp2_with fail
  refine ((unhide H9) _ (max_below (unhide HM) (unhide B8))).mono ?_; rintro e w9 ⟨rfl, hwx⟩; rw [hwx]; clear hwx w9
  go_wp2_with fail
  refine ((unhide H10) _ (max_below (unhide HM) (unhide B8))).mono ?_; rintro e w9 ⟨rfl, hwx⟩; rw [hwx]; clear hwx w9
  go_wp2_with fail
  refine ((unhide H11) _).mono ?_; rintro e w11 ⟨rfl, b11⟩
  have B11 := hide (bel_trans (unhide B8) b11); clear b11 B8
  go_wp2_with fail
  go_ret
  exact ⟨by simp [*], unhide B11⟩

theorem walk (a0 : ByteArray) (hb : a0.size ≤ 1048576) (w : World) (hsh : w.ShapedOpen Tryd.prog) (hL : laidMetH Tryd.prog Rows.cleanAgainUptoRow.laid w) :
    Calls Tryd.prog 5 #[.string a0] w fun e w' => e = .returned (.bool true) ∧ Below w.heap.size w w' := by
  obtain ⟨m, hm⟩ := Tryd.laysM155.s1_3 w hsh
  exact walk_m a0 m hb w hm

theorem own : ownKnob Tryd.prog.godebug = none := by kernel_rfl

theorem small_of {H : Type} {a0 : ByteArray} (hk : Rows.uptoSmall H ([.lit (.string a0.data.toList)] ++ []) = true) : a0.size ≤ 1048576 := by
  have h := of_decide_eq_true hk
  simp only [Rows.uptoBulkAll, Rows.uptoBulk, List.append_nil, Array.length_toList, ByteArray.size_data] at h
  omega

theorem contract (H : Type) (enc : TypeId × Value → H) (W : World) (base : Nat) (args : Array Value) (ds gs : List (DataW H)) (before : List MemPlace) (hsh : W.ShapedOpen Tryd.prog)
    (hval0 : ∀ (j : Nat) t v, Tryd.f5.params[j]? = some t → args[j]? = some v → Value.okWide Tryd.prog W .any base t v)
    (hW : DataW.Whole enc Tryd.prog Tryd.f5.params.toList Rows.cleanAgainSpec.vars false W args.toList ds gs before) (hk : Rows.uptoSmall H (ds ++ gs) = true) (hL : laidMetH Tryd.prog Rows.cleanAgainUptoRow.laid W) :
    Calls Tryd.prog 5 args W fun e W' => ∃ v, e = .returned v ∧ Rows.cleanAgainSpec.post enc Tryd.prog Tryd.f5 false true false false W args v W' := by
  have hval : ∀ (j : Nat) t v, Tryd.f5.params[j]? = some t → args[j]? = some v → Value.okWide Tryd.prog W .any base t v := hval0
  have hW' := hW
  obtain ⟨p, q, hA0, hV, rfl, hfz, hnd⟩ := hW
  have hA : DataW.TrodAll enc Tryd.prog W 0 (fun _ => true) true Tryd.f5.params.toList args.toList ds p := hA0
  rw [Tryd.params5] at hA hval
  obtain ⟨v0, vs0, d0, ds0, p0, q0, hargs, rfl, rfl, h0, r0⟩ := trodAll_cons hA
  obtain ⟨rfl, rfl, rfl⟩ := trodAll_nil r0
  obtain rfl : args = #[v0] := by cases args; simp_all
  obtain ⟨rfl, rfl⟩ := trodVars_none hV
  obtain ⟨a0, rfl, rfl, rfl, w0⟩ := open_string Tryd.underlying9 (hval 0 9 v0 rfl rfl) h0
  clear hA0 hval0
  simp only [List.append_nil] at hW'
  refine (walk a0 (small_of hk) W hsh hL).mono fun e W' ⟨he, hb⟩ => ?_
  subst he
  exact ⟨_, rfl, _, _, _, [], [], [], hW', (trodAll_cons_mk (shut_bool Tryd.underlying4 _) trodAll_mk0), (trodAll_cons_mk (shut_string Tryd.underlying9 w0) trodAll_mk0), rfl, hb.frame _, fun h => by cases h⟩

theorem reads (os : Os) {H : Type} (enc : TypeId × Value → H) : ∃ places, DataW.whole enc Tryd.prog ((laidIn (World.holding Tryd.prog os ⟨#[], #[], []⟩)).forCall (fun _ _ => 0) ⟨#[], #[.string ByteArray.empty], []⟩).memory Tryd.f5.params.toList Rows.cleanAgainSpec.vars false (#[.string ByteArray.empty] : Array Value).toList 8 = some ([.lit (.string [])], [], places) :=
  ⟨[], by kernel_rfl⟩
theorem laid_met (os : Os) : laidMet Tryd.prog Rows.cleanAgainUptoRow.laid ((laidIn (World.holding Tryd.prog os ⟨#[], #[], []⟩)).forCall (fun _ _ => 0) ⟨#[], #[.string ByteArray.empty], []⟩).memory :=
  laidMet_of_run' 8 (by kernel_rfl) (by kernel_rfl)

set_option maxRecDepth 100000 in
theorem lifted (os : Os) (started : os.Started) (H : Type) (enc : TypeId × Value → H) (F : Stop.Interp) :
    ReturnsInHanded {} Tryd.checked os 5 .any ((Rows.OpenSpec.upto Rows.cleanAgainSpec).preRow enc Tryd.prog Tryd.f5 Rows.cleanAgainUptoRow.domain false Rows.cleanAgainUptoRow.laid) (((Rows.OpenSpec.upto Rows.cleanAgainSpec).at F).post enc Tryd.prog Tryd.f5 false true false false) := by
  obtain ⟨places, hx⟩ := reads os enc
  refine returnsInHanded_of_row (C := Tryd.checked) (s := Rows.OpenSpec.upto Rows.cleanAgainSpec) own started (by kernel_rfl) Tryd.func5
    (witness_row_at (enc := enc) (C := Tryd.checked) false (laidIn (World.holding Tryd.prog os ⟨#[], #[], []⟩)) #[.string ByteArray.empty] rfl (by kernel_rfl) (by kernel_rfl) (by kernel_rfl)
      (OpenSpec.preRow_of_cond 8 hx (by kernel_rfl) (fun k hk => by cases hk; kernel_rfl) (by kernel_rfl) (laid_met os))) ?_
  intro W base args ds gs before hval hW _ hcond _ hL hsh _
  exact contract H enc W base args ds gs before hsh hval hW (hcond _ rfl) hL

theorem row : Rows.CleanAgainUptoSaid :=
  OpenClaim.holds_of_cond 5 Tryd.f5 rfl rfl rfl rfl rfl rfl rfl ⟨rfl, rfl, rfl, rfl, rfl⟩ rfl rfl rfl rfl rfl (by kernel_rfl) Tryd.func5 (by kernel_rfl)
    (of_decide_eq_true (by kernel_rfl)) (by unfold Func.isWrapper; first | (rw [if_pos (by decide +kernel)]; kernel_rfl) | (rw [if_neg (by decide +kernel)]; exact ⟨rfl, rfl⟩))
    (fun os started H enc _ F => by rw [OpenClaim.pre_eq_preRow]; exact lifted os started H enc F)

theorem plain (f : FuncId) (fn : Func) (hf : Tryd.pinned.checked.prog.funcNamed "gatewicket/wickkeep.CleanAgain" = some f) (hfn : Tryd.pinned.checked.prog.funcs[f]? = some fn) :
    false = Tryd.pinned.checked.prog.looks [] ∧ ∀ (j : Nat) t, fn.params[j]? = some t → Tryd.pinned.checked.prog.wantsStandIn t = false := by
  obtain rfl : f = 5 := Option.some.inj ((show Tryd.prog.funcNamed "gatewicket/wickkeep.CleanAgain" = some 5 by kernel_rfl).symm.trans hf) |>.symm
  obtain rfl : fn = Tryd.f5 := (Option.some.inj (Tryd.func5.symm.trans hfn)).symm
  refine ⟨by kernel_rfl, fun j t ht => ?_⟩
  rw [Tryd.params5] at ht
  have hm : t = 9 := by simpa using Array.mem_of_getElem? ht
  subst hm
  exact (show Tryd.prog.wantsStandIn 9 = false by kernel_rfl)

theorem over : Rows.CleanAgainUptoCardSaid :=
  Claim7.holds_tied_plain_at .later [] _ _ _ _ row (fun _ h => by cases h) (by kernel_rfl) (fun _ h => by cases h) cleanAgainUpto_row_tie rfl ⟨rfl, rfl⟩ (by kernel_rfl) rfl plain (by kernel_rfl)
end Go.Proofs.YthheapoehalhbaaDoor.cleanAgain
namespace Go.Proofs.YthheapoehalhbaaDoor
theorem cleanAgain_holds : Rows.CleanAgainUptoCardSaid := cleanAgain.over
#print axioms cleanAgain_holds
end Go.Proofs.YthheapoehalhbaaDoor
