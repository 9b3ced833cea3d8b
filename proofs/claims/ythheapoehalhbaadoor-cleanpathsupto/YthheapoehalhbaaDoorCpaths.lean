/- For all texts s and t of bulk together at most 1048576, with the two tables of unicode/utf8 as the program's text lays them and whatever number the library's own variable MaxLen holds, the call of CleanPaths returns true and leaves what was there as it was. -/
import Derived.Test.YthheapoehalhbaaDoorRows
import Derived.Test.YthheapoehalhbaaDoorTie
import Derived.Test.YthheapoehalhbaaDoorCards
import Derived.WalkKit
import Derived.ProofKit
import Derived.OpenShut
import Derived.ShutString
import Derived.JoinedCond
import Derived.Test.YthheapoehalhbaaDoorXb
import Derived.Test.YthheapoehalhbaaDoorWf
import Derived.Test.YthheapoehalhbaaDoorLain
namespace Go.Proofs.YthheapoehalhbaaDoor.cleanPaths
open Go.ChangeShapes Go.WideShapes Go.ChangeAt Go.RowKit
open Go.ChangeMaps (open_string shut_string)
set_option linter.unusedVariables false

theorem find_has {t : List UInt8} (h : Fnd.find t [47] 0 < 0) : (47 : UInt8) ∉ t := by
  intro hm
  obtain ⟨u, v, huv⟩ := List.append_of_mem hm
  have := (Fnd.find_mid u [47] v).1
  rw [show u ++ [47] ++ v = t by rw [huv]; simp] at this
  omega

set_option maxRecDepth 100000 in
theorem lit1 : Cp.path [47, 97, 47, 46, 47, 98, 47, 46, 46, 47, 99] = [47, 97, 47, 99] := by decide +kernel
set_option maxRecDepth 100000 in
theorem lit2 : Cp.path [97, 47, 46, 46, 47, 46, 46, 47, 98] = [46, 46, 47, 98] := by decide +kernel

set_option maxHeartbeats 8000000 in
theorem walk_m (s t : ByteArray) (m : Int) (hb : s.size + t.size ≤ 1048576) (w : World) (hm : w.cell? ⟨0, 0, none⟩ = some (.int .i64 m)) :
    Calls Tryd.prog 4 #[.string s, .string t] w fun e w' => e = .returned (.bool true) ∧ Below w.heap.size w w' := by
  obtain ⟨p, hp⟩ := ex_list (Cp.path s.data.toList)
  obtain ⟨r, hr⟩ := ex_list (Cp.path (47 :: s.data.toList))
  have lp : p.size ≤ s.size + 3 := by have := Cp.path_len s.data.toList; rwa [← hp, len_data, len_data] at this
  have lr : r.size ≤ s.size + 4 := by have := Cp.path_len (47 :: s.data.toList); rw [← hr, len_data, List.length_cons, len_data] at this; omega
  have H1 := hide (path_at ⟨#[47, 97, 47, 46, 47, 98, 47, 46, 46, 47, 99]⟩ ⟨#[47, 97, 47, 99]⟩ lit1.symm (by decide) m)
  have H2 := hide (path_at ⟨#[97, 47, 46, 46, 47, 46, 46, 47, 98]⟩ ⟨#[46, 46, 47, 98]⟩ lit2.symm (by decide) m)
  have H3 := hide (path_at s p hp (by omega) m)
  have H4 := hide (path_at p p (by rw [hp, Cp.path_path]) (by omega) m)
  have hcs : ((⟨#[47]⟩ : ByteArray) ++ s).data.toList = 47 :: s.data.toList := by simp
  have H5 := hide (path_at ((⟨#[47]⟩ : ByteArray) ++ s) r (by rw [hcs]; exact hr) (by rw [← len_data, hcs, List.length_cons, len_data]; omega) m)
  have F1 := hide (fun w hm => find_any r ⟨#[47, 46, 46, 47]⟩ 0 m w (by omega) (by omega) (by omega) hm)
  have F2 := hide (fun w hm => find_any r ⟨#[47, 47]⟩ 0 m w (by omega) (by omega) (by omega) hm)
  have F3 := hide (fun w hm => find_any r ⟨#[47, 46, 47]⟩ 0 m w (by omega) (by omega) (by omega) hm)
  have F4 := hide (fun w hm => find_any t ⟨#[47]⟩ 0 m w (by omega) (by omega) (by omega) hm)
  rw [hr, show (⟨#[47, 46, 46, 47]⟩ : ByteArray).data.toList = 47 :: Cp.dd ++ [47] from rfl, Cp.find_no fun a b => Cp.path_up s.data.toList Cp.dd a b (by decide) (by simp)] at F1
  rw [hr, show (⟨#[47, 47]⟩ : ByteArray).data.toList = 47 :: [] ++ [47] from rfl, Cp.find_no fun a b => Cp.path_up s.data.toList [] a b (by decide) (by simp)] at F2
  rw [hr, show (⟨#[47, 46, 47]⟩ : ByteArray).data.toList = 47 :: [46] ++ [47] from rfl, Cp.find_no fun a b => Cp.path_up s.data.toList [46] a b (by decide) (by simp)] at F3
  rw [show (⟨#[47]⟩ : ByteArray).data.toList = [47] from rfl] at F4
  obtain ⟨r1, hr1⟩ := Cp.path_head s.data.toList
  rw [hr1] at hr
  have hrz : 0 < r.size := by rw [← len_data, hr]; simp
  have hr0 : ((r[0].toNat : Int) != 47) = false := by
    have := Kb.at_list r _ hr 0 hrz
    have h2 : r[0] = 47 := Option.some.inj (this.trans rfl)
    rw [h2]; rfl
  have hre : (r.toList == []) = false := str_fl (l := []) (by intro e; rw [e] at hrz; exact absurd hrz (by decide))
  have hre0 : r.toList.isEmpty = false := by cases h : r.toList with | nil => rw [h] at hre; cases hre | cons a b => rfl
  have HT : Hid (Fnd.find t.data.toList [47] 0 < 0 → t ≠ ⟨#[]⟩ → t ≠ ⟨#[46]⟩ → t ≠ ⟨#[46, 46]⟩ → ∀ W (hm : W.cell? ⟨0, 0, none⟩ = some (.int .i64 m)),
      Calls Tryd.prog 6 #[.string ((((⟨#[47]⟩ : ByteArray) ++ t) ++ (⟨#[47, 46, 46, 47]⟩ : ByteArray)) ++ s)] W fun e w' => e = .returned (.string r) ∧ Below W.heap.size W w') := hide (by
    intro h1 h2 h3 h4 W hm
    have e : ((((⟨#[47]⟩ : ByteArray) ++ t) ++ (⟨#[47, 46, 46, 47]⟩ : ByteArray)) ++ s).data.toList = 47 :: (t.data.toList ++ ([47, 46, 46, 47] ++ s.data.toList)) := by simp
    refine path_at _ r ?_ (by rw [← len_data, e]; simp; omega) m W hm
    rw [hr, ← hr1]
    rw [e, Cp.path_back _ _ (find_has h1)]
    · rintro (h | h)
      · exact h2 (eq_of_lists h)
      · exact h3 (eq_of_lists h)
    · exact fun h => h4 (eq_of_lists h))
  generalize Fnd.find t.data.toList [47] 0 = g at *
  have HM := hide hm
  clear hm hp hr hr1 hcs hre
  go_enter Tryd.func4, Tryd.ntmps4
  go_wp2_with fail
  refine ((unhide H1) _ (unhide HM)).mono ?_; rintro e w1 ⟨rfl, b1⟩
  have B1 := hide b1; clear b1
  go_wp2_with fail
  refine ((unhide H2) _ (max_below (unhide HM) (unhide B1))).mono ?_; rintro e w2 ⟨rfl, b2⟩
  have B2 := hide (bel_trans (unhide B1) b2); clear b2 B1
  go_wp2_with fail
  refine ((unhide H3) _ (max_below (unhide HM) (unhide B2))).mono ?_; rintro e w3 ⟨rfl, b3⟩
  have B3 := hide (bel_trans (unhide B2) b3); clear b3 B2
  go_wp2_with fail
  refine ((unhide H4) _ (max_below (unhide HM) (unhide B3))).mono ?_; rintro e w4 ⟨rfl, b4⟩
  have B4 := hide (bel_trans (unhide B3) b4); clear b4 B3
  go_wp2_with fail
  refine ((unhide H5) _ (max_below (unhide HM) (unhide B4))).mono ?_; rintro e w5 ⟨rfl, b5⟩
  have B5 := hide (bel_trans (unhide B4) b5); clear b5 B4
  go_wp2_with fail
  refine ((unhide F1) _ (max_below (unhide HM) (unhide B5))).mono ?_; rintro e w9 ⟨rfl, hwx⟩; rw [hwx]; clear hwx w9
  go_wp2_with fail
  refine ((unhide F2) _ (max_below (unhide HM) (unhide B5))).mono ?_; rintro e w9 ⟨rfl, hwx⟩; rw [hwx]; clear hwx w9
  go_wp2_with fail
  refine ((unhide F3) _ (max_below (unhide HM) (unhide B5))).mono ?_; rintro e w9 ⟨rfl, hwx⟩; rw [hwx]; clear hwx w9
  by_cases h1 : t = ⟨#[]⟩
  · subst h1
    go_wp2_with fail
    go_ret
    exact ⟨rfl, unhide B5⟩
  have e1 : (t.toList == []) = false := str_fl h1
  have e10 : t.toList.isEmpty = false := by cases h : t.toList with | nil => rw [h] at e1; cases e1 | cons a b => rfl
  by_cases h2 : t = ⟨#[46]⟩
  · subst h2
    clear e1 e10 h1
    go_wp2_with fail
    go_ret
    exact ⟨rfl, unhide B5⟩
  have e2 : (t.toList == [46]) = false := str_fl h2
  by_cases h3 : t = ⟨#[46, 46]⟩
  · subst h3
    clear e1 e10 h1 e2 h2
    go_wp2_with fail
    go_ret
    exact ⟨rfl, unhide B5⟩
  have e3 : (t.toList == [46, 46]) = false := str_fl h3
  have HT2 := hide (fun h => (unhide HT) h h1 h2 h3)
  clear h1 h2 h3 HT e1
  go_wp2_with fail
  refine ((unhide F4) _ (max_below (unhide HM) (unhide B5))).mono ?_; rintro e w9 ⟨rfl, hwx⟩; rw [hwx]; clear hwx w9
  by_cases hg : 0 ≤ g
  · go_wp2_with fail
    go_ret
    exact ⟨rfl, unhide B5⟩
  have hg2 : g < 0 := by omega
  have H6 := hide ((unhide HT2) hg2)
  go_wp2_with fail
  refine ((unhide H6) _ (max_below (unhide HM) (unhide B5))).mono ?_; rintro e w6 ⟨rfl, b6⟩
  have B6 := hide (bel_trans (unhide B5) b6); clear b6 B5
  go_wp2_with fail
  go_ret
  exact ⟨by simp, unhide B6⟩

theorem walk (a0 a1 : ByteArray) (hb : a0.size + a1.size ≤ 1048576) (w : World) (hsh : w.ShapedOpen Tryd.prog) (hL : laidMetH Tryd.prog Rows.cleanPathsUptoRow.laid w) :
    Calls Tryd.prog 4 #[.string a0, .string a1] w fun e w' => e = .returned (.bool true) ∧ Below w.heap.size w w' := by
  obtain ⟨m, hm⟩ := Tryd.laysM155.s1_3 w hsh
  exact walk_m a0 a1 m hb w hm

theorem own : ownKnob Tryd.prog.godebug = none := by kernel_rfl

theorem small_of {H : Type} {a0 : ByteArray} {a1 : ByteArray} (hk : Rows.uptoSmall H ([.lit (.string a0.data.toList), .lit (.string a1.data.toList)] ++ []) = true) : a0.size + a1.size ≤ 1048576 := by
  have h := of_decide_eq_true hk
  simp only [Rows.uptoBulkAll, Rows.uptoBulk, List.append_nil, Array.length_toList, ByteArray.size_data] at h
  omega

theorem contract (H : Type) (enc : TypeId × Value → H) (W : World) (base : Nat) (args : Array Value) (ds gs : List (DataW H)) (before : List MemPlace) (hsh : W.ShapedOpen Tryd.prog)
    (hval0 : ∀ (j : Nat) t v, Tryd.f4.params[j]? = some t → args[j]? = some v → Value.okWide Tryd.prog W .any base t v)
    (hW : DataW.Whole enc Tryd.prog Tryd.f4.params.toList Rows.cleanPathsSpec.vars false W args.toList ds gs before) (hk : Rows.uptoSmall H (ds ++ gs) = true) (hL : laidMetH Tryd.prog Rows.cleanPathsUptoRow.laid W) :
    Calls Tryd.prog 4 args W fun e W' => ∃ v, e = .returned v ∧ Rows.cleanPathsSpec.post enc Tryd.prog Tryd.f4 false true false false W args v W' := by
  have hval : ∀ (j : Nat) t v, Tryd.f4.params[j]? = some t → args[j]? = some v → Value.okWide Tryd.prog W .any base t v := hval0
  have hW' := hW
  obtain ⟨p, q, hA0, hV, rfl, hfz, hnd⟩ := hW
  have hA : DataW.TrodAll enc Tryd.prog W 0 (fun _ => true) true Tryd.f4.params.toList args.toList ds p := hA0
  rw [Tryd.params4] at hA hval
  obtain ⟨v0, vs0, d0, ds0, p0, q0, hargs, rfl, rfl, h0, r0⟩ := trodAll_cons hA
  obtain ⟨v1, vs1, d1, ds1, p1, q1, rfl, rfl, rfl, h1, r1⟩ := trodAll_cons r0
  obtain ⟨rfl, rfl, rfl⟩ := trodAll_nil r1
  obtain rfl : args = #[v0, v1] := by cases args; simp_all
  obtain ⟨rfl, rfl⟩ := trodVars_none hV
  obtain ⟨a0, rfl, rfl, rfl, w0⟩ := open_string Tryd.underlying9 (hval 0 9 v0 rfl rfl) h0
  obtain ⟨a1, rfl, rfl, rfl, w1⟩ := open_string Tryd.underlying9 (hval 1 9 v1 rfl rfl) h1
  clear hA0 hval0
  simp only [List.append_nil] at hW'
  refine (walk a0 a1 (small_of hk) W hsh hL).mono fun e W' ⟨he, hb⟩ => ?_
  subst he
  exact ⟨_, rfl, _, _, _, [], [], [], hW', (trodAll_cons_mk (shut_bool Tryd.underlying4 _) trodAll_mk0), (trodAll_cons_mk (shut_string Tryd.underlying9 w0) (trodAll_cons_mk (shut_string Tryd.underlying9 w1) trodAll_mk0)), rfl, hb.frame _, fun h => by cases h⟩

theorem reads (os : Os) {H : Type} (enc : TypeId × Value → H) : ∃ places, DataW.whole enc Tryd.prog ((laidIn (World.holding Tryd.prog os ⟨#[], #[], []⟩)).forCall (fun _ _ => 0) ⟨#[], #[.string ByteArray.empty, .string ByteArray.empty], []⟩).memory Tryd.f4.params.toList Rows.cleanPathsSpec.vars false (#[.string ByteArray.empty, .string ByteArray.empty] : Array Value).toList 8 = some ([.lit (.string []), .lit (.string [])], [], places) :=
  ⟨[], by kernel_rfl⟩
theorem laid_met (os : Os) : laidMet Tryd.prog Rows.cleanPathsUptoRow.laid ((laidIn (World.holding Tryd.prog os ⟨#[], #[], []⟩)).forCall (fun _ _ => 0) ⟨#[], #[.string ByteArray.empty, .string ByteArray.empty], []⟩).memory :=
  laidMet_of_run' 8 (by kernel_rfl) (by kernel_rfl)

set_option maxRecDepth 100000 in
theorem lifted (os : Os) (started : os.Started) (H : Type) (enc : TypeId × Value → H) (F : Stop.Interp) :
    ReturnsInHanded {} Tryd.checked os 4 .any ((Rows.OpenSpec.upto Rows.cleanPathsSpec).preRow enc Tryd.prog Tryd.f4 Rows.cleanPathsUptoRow.domain false Rows.cleanPathsUptoRow.laid) (((Rows.OpenSpec.upto Rows.cleanPathsSpec).at F).post enc Tryd.prog Tryd.f4 false true false false) := by
  obtain ⟨places, hx⟩ := reads os enc
  refine returnsInHanded_of_row (C := Tryd.checked) (s := Rows.OpenSpec.upto Rows.cleanPathsSpec) own started (by kernel_rfl) Tryd.func4
    (witness_row_at (enc := enc) (C := Tryd.checked) false (laidIn (World.holding Tryd.prog os ⟨#[], #[], []⟩)) #[.string ByteArray.empty, .string ByteArray.empty] rfl (by kernel_rfl) (by kernel_rfl) (by kernel_rfl)
      (OpenSpec.preRow_of_cond 8 hx (by kernel_rfl) (fun k hk => by cases hk; kernel_rfl) (by kernel_rfl) (laid_met os))) ?_
  intro W base args ds gs before hval hW _ hcond _ hL hsh _
  exact contract H enc W base args ds gs before hsh hval hW (hcond _ rfl) hL

theorem row : Rows.CleanPathsUptoSaid :=
  OpenClaim.holds_of_cond 4 Tryd.f4 rfl rfl rfl rfl rfl rfl rfl ⟨rfl, rfl, rfl, rfl, rfl⟩ rfl rfl rfl rfl rfl (by kernel_rfl) Tryd.func4 (by kernel_rfl)
    (of_decide_eq_true (by kernel_rfl)) (by unfold Func.isWrapper; first | (rw [if_pos (by decide +kernel)]; kernel_rfl) | (rw [if_neg (by decide +kernel)]; exact ⟨rfl, rfl⟩))
    (fun os started H enc _ F => by rw [OpenClaim.pre_eq_preRow]; exact lifted os started H enc F)

theorem plain (f : FuncId) (fn : Func) (hf : Tryd.pinned.checked.prog.funcNamed "gatewicket/wickkeep.CleanPaths" = some f) (hfn : Tryd.pinned.checked.prog.funcs[f]? = some fn) :
    false = Tryd.pinned.checked.prog.looks [] ∧ ∀ (j : Nat) t, fn.params[j]? = some t → Tryd.pinned.checked.prog.wantsStandIn t = false := by
  obtain rfl : f = 4 := Option.some.inj ((show Tryd.prog.funcNamed "gatewicket/wickkeep.CleanPaths" = some 4 by kernel_rfl).symm.trans hf) |>.symm
  obtain rfl : fn = Tryd.f4 := (Option.some.inj (Tryd.func4.symm.trans hfn)).symm
  refine ⟨by kernel_rfl, fun j t ht => ?_⟩
  rw [Tryd.params4] at ht
  have hm : t = 9 := by simpa using Array.mem_of_getElem? ht
  subst hm
  exact (show Tryd.prog.wantsStandIn 9 = false by kernel_rfl)

theorem over : Rows.CleanPathsUptoCardSaid :=
  Claim7.holds_tied_plain_at .later [] _ _ _ _ row (fun _ h => by cases h) (by kernel_rfl) (fun _ h => by cases h) cleanPathsUpto_row_tie rfl ⟨rfl, rfl⟩ (by kernel_rfl) rfl plain (by kernel_rfl)
end Go.Proofs.YthheapoehalhbaaDoor.cleanPaths
namespace Go.Proofs.YthheapoehalhbaaDoor
theorem cleanPaths_holds : Rows.CleanPathsUptoCardSaid := cleanPaths.over
#print axioms cleanPaths_holds
end Go.Proofs.YthheapoehalhbaaDoor
