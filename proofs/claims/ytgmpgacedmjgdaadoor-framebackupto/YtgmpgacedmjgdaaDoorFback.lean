/- What is cut into chunks, whatever their sizes, is read as it was, whatever stands behind: whatever is handed in.
   Conditions: what is handed in is of bulk at most 1048576; the library's tables are as the program's text lays them. -/
import Derived.Test.YtgmpgacedmjgdaaDoorRows
import Derived.Test.YtgmpgacedmjgdaaDoorTie
import Derived.Test.YtgmpgacedmjgdaaDoorCards
import Derived.WalkKit
import Derived.ProofKit
import Derived.OpenShut
import Derived.ShutString
import Derived.JoinedCond
import Derived.Test.YtgmpgacedmjgdaaDoorTe
import Derived.Test.YtgmpgacedmjgdaaDoorTf
import Derived.Test.YtgmpgacedmjgdaaDoorTi
import Derived.Test.YtgmpgacedmjgdaaDoorTl
import Derived.Stop.LaidErr
namespace Go.Proofs.YtgmpgacedmjgdaaDoor.frameBack
open Go.ChangeShapes Go.WideShapes Go.ChangeAt Go.RowKit
open Go.ChangeMaps (open_string shut_string)
open Kb
set_option linter.unusedVariables false
set_option maxRecDepth 20000

theorem laidOutAll : laidOutB Tryd.prog = true := by kernel_rfl
theorem abc : Cu.chunked [2] [97, 98, 99] = [50, 13, 10, 97, 98, 13, 10, 49, 13, 10, 99, 13, 10, 48, 13, 10, 13, 10] := by
  have h1 : Cu.part 2 [97, 98, 99] = 2 := by decide
  unfold Cu.chunked Cu.chunked
  rw [h1]
  show Cu.writ [97, 98] ++ (Cu.writ [99] ++ Cu.last) = _
  rw [Cu.writ_yes (by decide), Cu.writ_yes (by decide), Cu.hx_small (by decide), Cu.hx_small (by decide)]
  rfl
theorem ne_ts {a b : ByteArray} (h : a = b) : (a.toList == b.toList) = true := by rw [h]; simp
set_option maxHeartbeats 4000000 in
theorem walk0 (s more : ByteArray) (v : Value) (zs : List Int) (hb : s.size + more.size + zs.length ≤ 1048576) (w : World) (hI : Ints w v zs) (hT : DB w) :
    Calls Tryd.prog 5 #[.string s, .string more, v] w fun e w' => e = .returned (.bool true) ∧ Below w.heap.size w w' := by
  obtain ⟨vo, c, rfl, hc⟩ := hI.form
  have HI := hide hI
  have HT := hide hT
  clear hI hT
  have H0 := hide (fun W u (h : Ints W u [2]) (hd : DB W) => chunked_any ⟨#[97, 98, 99]⟩ u [2] W h hd (by decide) _ rfl)
  rw [show (⟨#[97, 98, 99]⟩ : ByteArray).data.toList = [97, 98, 99] from rfl, abc] at H0
  have HS := hide (fun W (h : Below w.heap.size w W) => chunked_any s _ zs W ((unhide HI).below h) ((unhide HT).below h) (by omega) _ rfl)
  obtain ⟨q, hq⟩ := ex_list (Cu.chunked zs s.data.toList)
  have hql := Cu.chunked_len zs s.data.toList (by rw [len_data]; omega)
  rw [← hq, len_data, len_data] at hql
  have hbk := fun t => Cu.chunks_back zs s.data.toList t (by rw [len_data]; omega)
  have hov := fun h => Cu.chunks_over zs s.data.toList [] (by rw [len_data]; omega) h
  rw [← hq] at HS hbk hov
  rw [mk_data] at HS
  rw [List.append_nil, len_data] at hov
  have HC := hide (fun W => chunks_any (q ++ more) (s.size : Int) W (by simp; omega) (by omega) (s.data.toList, (q.size : Int), 0) (by
    have := hbk more.data.toList; rw [len_data, len_data] at this; rw [cat_data, this]; rfl))
  have HO := hide (fun (h : 1 ≤ s.size) W => chunks_any q ((s.size : Int) - 1) W (by omega) (by omega) ([], 0, 6) (by rw [hov h]; rfl))
  dsimp only at HC HO
  rw [mk_data] at HC
  clear hbk hov hq
  obtain ⟨x, hx⟩ := ex_list [50, 13, 10, 97, 98, 13, 10, 49, 13, 10, 99, 13, 10, 48, 13, 10, 13, 10]
  have hxb : (x.toList == [50, 13, 10, 97, 98, 13, 10, 49, 13, 10, 99, 13, 10, 48, 13, 10, 13, 10]) = true := by rw [Lib.toList_data, hx]; rfl
  rw [← hx, mk_data] at H0
  clear hx
  have hI2 := one_int w 2 3 (by decide)
  have B0 := (Below.refl w.heap.size w).alloc (Nat.le_refl _) (.cells #[.int .i64 2] 3)
  have H1 := hide ((unhide H0) _ _ hI2 ((unhide HT).below B0))
  have BB := hide B0
  clear hI2 B0 H0
  by_cases hn : s.size < 1
  · have hs0 : ¬ ((s.size : Int) > 0) := by omega
    clear HO
    go_enter Tryd.func5, Tryd.ntmps5
    go_wp2_with fail
    refine (unhide H1).mono ?_; rintro e1 w1 ⟨rfl, b1⟩
    have B1 := hide (bel_trans (unhide BB) b1)
    go_wp2_with fail
    refine ((unhide HS) w1 (unhide B1)).mono ?_; rintro e1 w2 ⟨rfl, b2⟩
    have B2 := hide (bel_trans (unhide B1) b2)
    go_wp2_with fail
    refine ((unhide HC) w2).mono ?_; rintro e1 w3 ⟨rfl, b3⟩
    have B3 := hide (bel_trans (unhide B2) b3)
    go_wp2_with fail
    go_ret
    exact ⟨rfl, unhide B3⟩
  · have HO2 := hide ((unhide HO) (by omega))
    clear HO
    go_enter Tryd.func5, Tryd.ntmps5
    go_wp2_with fail
    refine (unhide H1).mono ?_; rintro e1 w1 ⟨rfl, b1⟩
    have B1 := hide (bel_trans (unhide BB) b1)
    go_wp2_with fail
    refine ((unhide HS) w1 (unhide B1)).mono ?_; rintro e1 w2 ⟨rfl, b2⟩
    have B2 := hide (bel_trans (unhide B1) b2)
    go_wp2_with fail
    refine ((unhide HC) w2).mono ?_; rintro e1 w3 ⟨rfl, b3⟩
    have B3 := hide (bel_trans (unhide B2) b3)
    go_wp2_with fail
    refine ((unhide HO2) w3).mono ?_; rintro e1 w4 ⟨rfl, b4⟩
    go_wp2_with fail
    go_ret
    exact ⟨rfl, bel_trans (unhide B3) b4⟩
theorem walk (a0 a1 : ByteArray) (v2 : Value) (z2 : List Int) (hb : a0.size + a1.size + z2.length ≤ 1048576) (w : World) (hI2 : Ints w v2 z2) (hL : laidMetH Tryd.prog Rows.frameBackUptoRow.laid w) :
    Calls Tryd.prog 5 #[.string a0, .string a1, v2] w fun e w' => e = .returned (.bool true) ∧ Below w.heap.size w w' :=
  walk0 a0 a1 v2 z2 hb w hI2 (db_of (W := w) hL)
theorem own : ownKnob Tryd.prog.godebug = none := by kernel_rfl

theorem small_of {H : Type} {a0 : ByteArray} {a1 : ByteArray} {a2 : DataW H} (hk : Rows.uptoSmall H ([.lit (.string a0.data.toList), .lit (.string a1.data.toList), a2] ++ []) = true) : a0.size + a1.size + Rows.uptoBulk a2 ≤ 1048576 := by
  have h := of_decide_eq_true hk
  simp only [Rows.uptoBulkAll, Rows.uptoBulk, List.append_nil, Array.length_toList, ByteArray.size_data] at h
  omega

set_option maxRecDepth 100000 in
theorem contract (H : Type) (enc : TypeId × Value → H) (W : World) (base : Nat) (args : Array Value) (ds gs : List (DataW H)) (before : List MemPlace) (hsh : W.ShapedOpen Tryd.prog)
    (hval0 : ∀ (j : Nat) t v, Tryd.f5.params[j]? = some t → args[j]? = some v → Value.okWide Tryd.prog W .any base t v)
    (hW : DataW.Whole enc Tryd.prog Tryd.f5.params.toList Rows.frameBackSpec.vars false W args.toList ds gs before) (hk : Rows.uptoSmall H (ds ++ gs) = true) (hL : laidMetH Tryd.prog Rows.frameBackUptoRow.laid W) :
    Calls Tryd.prog 5 args W fun e W' => ∃ v, e = .returned v ∧ Rows.frameBackSpec.post enc Tryd.prog Tryd.f5 false true false false W args v W' := by
  have hval : ∀ (j : Nat) t v, Tryd.f5.params[j]? = some t → args[j]? = some v → Value.okWide Tryd.prog W .any base t v := hval0
  have hW' := hW
  obtain ⟨p, q, hA0, hV, rfl, hfz, hnd⟩ := hW
  have hA : DataW.TrodAll enc Tryd.prog W 0 (fun _ => true) true Tryd.f5.params.toList args.toList ds p := hA0
  rw [Tryd.params5] at hA hval
  obtain ⟨v0, vs0, d0, ds0, p0, q0, hargs, rfl, rfl, h0, r0⟩ := trodAll_cons hA
  obtain ⟨v1, vs1, d1, ds1, p1, q1, rfl, rfl, rfl, h1, r1⟩ := trodAll_cons r0
  obtain ⟨v2, vs2, d2, ds2, p2, q2, rfl, rfl, rfl, h2, r2⟩ := trodAll_cons r1
  obtain ⟨rfl, rfl, rfl⟩ := trodAll_nil r2
  obtain rfl : args = #[v0, v1, v2] := by cases args; simp_all
  obtain ⟨rfl, rfl⟩ := trodVars_none hV
  obtain ⟨a0, rfl, rfl, rfl, w0⟩ := open_string Tryd.underlying9 (hval 0 9 v0 rfl rfl) h0
  obtain ⟨a1, rfl, rfl, rfl, w1⟩ := open_string Tryd.underlying9 (hval 1 9 v1 rfl rfl) h1
  have hsm := small_of hk
  obtain ⟨z2, hI2, hz2, hlt2⟩ := open_ints_in (hval 2 25 v2 rfl rfl) h2 (by omega)
  clear hA0 hval0
  refine (walk a0 a1 v2 z2 (by omega) W hI2 hL).mono fun e W' ⟨he, hb⟩ => ?_
  subst he
  exact ⟨_, rfl, _, _, _, [], ([] ++ ([] ++ (p2 ++ []))), [], hW', (trodAll_cons_mk (shut_bool Tryd.underlying4 _) trodAll_mk0), (trodAll_cons_mk (shut_string Tryd.underlying9 w0) (trodAll_cons_mk (shut_string Tryd.underlying9 w1) (trodAll_cons_mk (Below.trod laidOutAll (by kernel_rfl) (of_decide_eq_true (by kernel_rfl)) h2 hb hlt2) trodAll_mk0))), rfl, hb.frame _, fun h => by cases h⟩

theorem reads (os : Os) {H : Type} (enc : TypeId × Value → H) : ∃ places, DataW.whole enc Tryd.prog ((laidIn (World.holding Tryd.prog os ⟨#[], #[], []⟩)).forCall (fun _ _ => 0) ⟨#[], #[.string ByteArray.empty, .string ByteArray.empty, .slice none 0 0], []⟩).memory Tryd.f5.params.toList Rows.frameBackSpec.vars false (#[.string ByteArray.empty, .string ByteArray.empty, .slice none 0 0] : Array Value).toList 8 = some ([.lit (.string []), .lit (.string []), .nil], [], places) :=
  ⟨[], by kernel_rfl⟩
theorem laid_met (os : Os) : laidMet Tryd.prog Rows.frameBackUptoRow.laid ((laidIn (World.holding Tryd.prog os ⟨#[], #[], []⟩)).forCall (fun _ _ => 0) ⟨#[], #[.string ByteArray.empty, .string ByteArray.empty, .slice none 0 0], []⟩).memory :=
  laidMet_of_run' 8 (by kernel_rfl) (by kernel_rfl)

set_option maxRecDepth 100000 in
theorem lifted (os : Os) (started : os.Started) (H : Type) (enc : TypeId × Value → H) (F : Stop.Interp) :
    ReturnsInHanded {} Tryd.checked os 5 .any ((Rows.OpenSpec.upto Rows.frameBackSpec).preRow enc Tryd.prog Tryd.f5 Rows.frameBackUptoRow.domain false Rows.frameBackUptoRow.laid) (((Rows.OpenSpec.upto Rows.frameBackSpec).at F).post enc Tryd.prog Tryd.f5 false true false false) := by
  obtain ⟨places, hx⟩ := reads os enc
  refine returnsInHanded_of_row (C := Tryd.checked) (s := Rows.OpenSpec.upto Rows.frameBackSpec) own started (by kernel_rfl) Tryd.func5
    (witness_row_at (enc := enc) (C := Tryd.checked) false (laidIn (World.holding Tryd.prog os ⟨#[], #[], []⟩)) #[.string ByteArray.empty, .string ByteArray.empty, .slice none 0 0] rfl (by kernel_rfl) (by kernel_rfl) (by kernel_rfl)
      (OpenSpec.preRow_of_cond 8 hx (by kernel_rfl) (fun k hk => by cases hk; kernel_rfl) (by kernel_rfl) (laid_met os))) ?_
  intro W base args ds gs before hval hW _ hcond _ hL hsh _
  exact contract H enc W base args ds gs before hsh hval hW (hcond _ rfl) hL

theorem row : Rows.FrameBackUptoSaid :=
  OpenClaim.holds_of_cond 5 Tryd.f5 rfl rfl rfl rfl rfl rfl rfl ⟨rfl, rfl, rfl, rfl, rfl⟩ rfl rfl rfl rfl rfl (by kernel_rfl) Tryd.func5 (by kernel_rfl)
    (of_decide_eq_true (by kernel_rfl)) (by unfold Func.isWrapper; first | (rw [if_pos (by decide +kernel)]; kernel_rfl) | (rw [if_neg (by decide +kernel)]; exact ⟨rfl, rfl⟩))
    (fun os started H enc _ F => by rw [OpenClaim.pre_eq_preRow]; exact lifted os started H enc F)

theorem plain (f : FuncId) (fn : Func) (hf : Tryd.pinned.checked.prog.funcNamed "gatewicket/wickkeep.FrameBack" = some f) (hfn : Tryd.pinned.checked.prog.funcs[f]? = some fn) :
    false = Tryd.pinned.checked.prog.looks [] ∧ ∀ (j : Nat) t, fn.params[j]? = some t → Tryd.pinned.checked.prog.wantsStandIn t = false := by
  obtain rfl : f = 5 := Option.some.inj ((show Tryd.prog.funcNamed "gatewicket/wickkeep.FrameBack" = some 5 by kernel_rfl).symm.trans hf) |>.symm
  obtain rfl : fn = Tryd.f5 := (Option.some.inj (Tryd.func5.symm.trans hfn)).symm
  refine ⟨by kernel_rfl, fun j t ht => ?_⟩
  rw [Tryd.params5] at ht
  have hm : t = 9 ∨ t = 25 := by simpa using Array.mem_of_getElem? ht
  rcases hm with rfl | rfl
  · exact (show Tryd.prog.wantsStandIn 9 = false by kernel_rfl)
  · exact (show Tryd.prog.wantsStandIn 25 = false by kernel_rfl)

theorem over : Rows.FrameBackUptoCardSaid :=
  Claim7.holds_tied_plain_at .later [] _ _ _ _ row (fun _ h => by cases h) (by kernel_rfl) (fun _ h => by cases h) frameBackUpto_row_tie rfl ⟨rfl, rfl⟩ (by kernel_rfl) rfl plain (by kernel_rfl)
end Go.Proofs.YtgmpgacedmjgdaaDoor.frameBack
namespace Go.Proofs.YtgmpgacedmjgdaaDoor
theorem frameBack_holds : Rows.FrameBackUptoCardSaid := frameBack.over
#print axioms frameBack_holds
end Go.Proofs.YtgmpgacedmjgdaaDoor
