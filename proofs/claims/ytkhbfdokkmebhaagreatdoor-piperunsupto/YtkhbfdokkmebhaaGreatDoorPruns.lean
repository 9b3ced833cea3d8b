/- For every list l of numbers and every text s of bulk at most 1048576 together, with the tables of the library as the program's text lays them and whatever number the library's own variable MaxLen holds, the call of PipeRuns returns true and leaves what was there as it was. -/
import Derived.Test.YtkhbfdokkmebhaaGreatDoorRows
import Derived.Test.YtkhbfdokkmebhaaGreatDoorTie
import Derived.Test.YtkhbfdokkmebhaaGreatDoorCards
import Derived.WalkKit
import Derived.ProofKit
import Derived.OpenShut
import Derived.ShutString
import Derived.JoinedCond
import Derived.Test.YtkhbfdokkmebhaaGreatDoorPz
import Derived.Test.YtkhbfdokkmebhaaGreatDoorPo
import Derived.Test.YtkhbfdokkmebhaaGreatDoorLq
import Derived.Stop.LaidErr
namespace Go.Proofs.YtkhbfdokkmebhaaGreatDoor.pipeRuns
open Go.ChangeShapes Go.WideShapes Go.ChangeAt Go.RowKit
open Go.ChangeMaps (open_string shut_string)
set_option linter.unusedVariables false
set_option maxRecDepth 20000

set_option maxHeartbeats 4000000 in
theorem walk_m (v : Value) (zs : List Int) (s : ByteArray) (m : Int) (hb : zs.length + s.size ≤ 1048576) (w : World) (hI : Ints w v zs) (hm : w.cell? ⟨1, 0, none⟩ = some (.int .i64 m))
    (ht : Lib.TabIs Tryz.prog w "internal/strconv.uint64pow10" .u64 Lib.pow10Tab) :
    Calls Tryz.prog 3 #[v, .string s] w fun e w' => e = .returned (.bool true) ∧ Below w.heap.size w w' := by
  have H0 := hide (rpipe_any v zs w hI)
  have H2 : Hid (∀ w1, Below w.heap.size w w1 → Calls Tryz.prog 6 #[v] w1 fun e w' => e = .returned (.int .i64 (Pw.check zs)) ∧ w' = w1) := hide (fun w1 b => check_any v zs w1 (hI.below b))
  by_cases hck : Pw.check zs = 0
  · rw [hck] at H0 H2
    by_cases hbig : 8192 < s.size
    · have H1 : Hid (Calls Tryz.prog 5 #[v, .string s] w fun e w' => e = .returned (.tuple #[.string ⟨#[]⟩, .int .i64 2]) ∧ Below w.heap.size w w') := hide (by
        have := run_any v zs s m w hI (by omega) hm ht
        rw [show Pt.runV zs s.data.toList = [] by unfold Pt.runV; rw [if_neg]; rintro ⟨_, h⟩; rw [len_data] at h; omega,
          show Pt.runE zs s.data.toList = 2 by unfold Pt.runE; rw [if_pos hck, if_pos (by rw [len_data]; exact hbig)]] at this
        exact this)
      clear hck hI hm ht
      go_enter Tryz.func3, Tryz.ntmps3
      go_wp2_with fail
      refine (unhide H0).mono ?_; rintro e wx ⟨rfl, hwx⟩; rw [hwx]; clear hwx wx
      go_wp2_with fail
      refine (unhide H1).mono ?_; rintro e w1 ⟨rfl, b1⟩
      have B1 := hide b1; clear b1
      go_wp2_with fail
      refine ((unhide H2) _ (unhide B1)).mono ?_; rintro e wx ⟨rfl, hwx⟩; rw [hwx]; clear hwx wx
      go_wp2_with fail
      go_ret
      exact ⟨by simp, unhide B1⟩
    · obtain ⟨q, hq⟩ := ex_list (Pt.piped zs s.data.toList)
      have H1 : Hid (Calls Tryz.prog 5 #[v, .string s] w fun e w' => e = .returned (.tuple #[.string q, .int .i64 0]) ∧ Below w.heap.size w w') := hide (by
        have := run_any v zs s m w hI (by omega) hm ht
        rw [show Pt.runV zs s.data.toList = q.data.toList by unfold Pt.runV; rw [if_pos ⟨hck, by rw [len_data]; omega⟩, hq],
          show Pt.runE zs s.data.toList = 0 by unfold Pt.runE; rw [if_pos hck, if_neg (by rw [len_data]; exact hbig)], mk_data] at this
        exact this)
      have H3 : Hid (∀ w1, Below w.heap.size w w1 → Calls Tryz.prog 7 #[v, .string s] w1 fun e w' => e = .returned (.string q) ∧ Below w1.heap.size w1 w') := hide (fun w1 b => by
        have := rpiped_any v zs s w1 (hI.below b) hck (by omega) (tab_below ht b)
        rwa [← hq, mk_data] at this)
      clear hck hI hm ht hq
      go_enter Tryz.func3, Tryz.ntmps3
      go_wp2_with fail
      refine (unhide H0).mono ?_; rintro e wx ⟨rfl, hwx⟩; rw [hwx]; clear hwx wx
      go_wp2_with fail
      refine (unhide H1).mono ?_; rintro e w1 ⟨rfl, b1⟩
      have B1 := hide b1; clear b1
      go_wp2_with fail
      refine ((unhide H2) _ (unhide B1)).mono ?_; rintro e wx ⟨rfl, hwx⟩; rw [hwx]; clear hwx wx
      go_wp2_with fail
      refine ((unhide H3) _ (unhide B1)).mono ?_; rintro e w2 ⟨rfl, b2⟩
      have B2 := hide (bel_trans (unhide B1) b2); clear b2 B1
      go_wp2_with fail
      go_ret
      exact ⟨by simp, unhide B2⟩
  · obtain ⟨n, hn⟩ : ∃ n, Pw.check zs = n := ⟨_, rfl⟩
    have H1 : Hid (Calls Tryz.prog 5 #[v, .string s] w fun e w' => e = .returned (.tuple #[.string ⟨#[]⟩, .int .i64 n]) ∧ Below w.heap.size w w') := hide (by
      have := run_any v zs s m w hI (by omega) hm ht
      rw [show Pt.runV zs s.data.toList = [] by unfold Pt.runV; rw [if_neg]; rintro ⟨h, _⟩; exact hck h,
        show Pt.runE zs s.data.toList = n by unfold Pt.runE; rw [if_neg hck, hn]] at this
      exact this)
    rw [hn] at H0 H2 hck
    have hne : (n == 0) = false := by simpa using hck
    clear hck hI hm ht hn
    go_enter Tryz.func3, Tryz.ntmps3
    go_wp2_with fail
    refine (unhide H0).mono ?_; rintro e wx ⟨rfl, hwx⟩; rw [hwx]; clear hwx wx
    go_wp2_with fail
    refine (unhide H1).mono ?_; rintro e w1 ⟨rfl, b1⟩
    have B1 := hide b1; clear b1
    go_wp2_with fail
    refine ((unhide H2) _ (unhide B1)).mono ?_; rintro e wx ⟨rfl, hwx⟩; rw [hwx]; clear hwx wx
    go_wp2_with fail
    go_ret
    exact ⟨by simp, unhide B1⟩

theorem walk (v0 : Value) (z0 : List Int) (a1 : ByteArray) (hb : z0.length + a1.size ≤ 1048576) (w : World) (hI0 : Ints w v0 z0) (hsh : w.ShapedOpen Tryz.prog) (hL : laidMetH Tryz.prog Rows.pipeRunsUptoRow.laid w) :
    Calls Tryz.prog 3 #[v0, .string a1] w fun e w' => e = .returned (.bool true) ∧ Below w.heap.size w w' := by
  obtain ⟨m, hm⟩ := Tryz.laysM155.s1_3 w hsh
  have h1 : laidMet Tryz.prog [("math/bits.deBruijn32tab", Rows.laid_math_bits_deBruijn32tab), ("math/bits.deBruijn64tab", Rows.laid_math_bits_deBruijn64tab), ("internal/strconv.uint64pow10", Rows.laid_internal_strconv_uint64pow10), ("unicode/utf8.acceptRanges", Rows.laid_unicode_utf8_acceptRanges), ("unicode/utf8.first", Rows.laid_unicode_utf8_first)] w := hL
  exact walk_m v0 z0 a1 m hb w hI0 hm (pow_tab h1.tail.tail)

theorem own : ownKnob Tryz.prog.godebug = none := by kernel_rfl

theorem small_of {H : Type} {a0 : DataW H} {a1 : ByteArray} (hk : Rows.uptoSmall H ([a0, .lit (.string a1.data.toList)] ++ []) = true) : Rows.uptoBulk a0 + a1.size ≤ 1048576 := by
  have h := of_decide_eq_true hk
  simp only [Rows.uptoBulkAll, Rows.uptoBulk, List.append_nil, Array.length_toList, ByteArray.size_data] at h
  omega

set_option maxRecDepth 100000 in
theorem contract (H : Type) (enc : TypeId × Value → H) (W : World) (base : Nat) (args : Array Value) (ds gs : List (DataW H)) (before : List MemPlace) (hsh : W.ShapedOpen Tryz.prog)
    (hval0 : ∀ (j : Nat) t v, Tryz.f3.params[j]? = some t → args[j]? = some v → Value.okWide Tryz.prog W .any base t v)
    (hW : DataW.Whole enc Tryz.prog Tryz.f3.params.toList Rows.pipeRunsSpec.vars false W args.toList ds gs before) (hk : Rows.uptoSmall H (ds ++ gs) = true) (hL : laidMetH Tryz.prog Rows.pipeRunsUptoRow.laid W) :
    Calls Tryz.prog 3 args W fun e W' => ∃ v, e = .returned v ∧ Rows.pipeRunsSpec.post enc Tryz.prog Tryz.f3 false true false false W args v W' := by
  have hval : ∀ (j : Nat) t v, Tryz.f3.params[j]? = some t → args[j]? = some v → Value.okWide Tryz.prog W .any base t v := hval0
  have hW' := hW
  obtain ⟨p, q, hA0, hV, rfl, hfz, hnd⟩ := hW
  have hA : DataW.TrodAll enc Tryz.prog W 0 (fun _ => true) true Tryz.f3.params.toList args.toList ds p := hA0
  rw [Tryz.params3] at hA hval
  obtain ⟨v0, vs0, d0, ds0, p0, q0, hargs, rfl, rfl, h0, r0⟩ := trodAll_cons hA
  obtain ⟨v1, vs1, d1, ds1, p1, q1, rfl, rfl, rfl, h1, r1⟩ := trodAll_cons r0
  obtain ⟨rfl, rfl, rfl⟩ := trodAll_nil r1
  obtain rfl : args = #[v0, v1] := by cases args; simp_all
  obtain ⟨rfl, rfl⟩ := trodVars_none hV
  obtain ⟨a1, rfl, rfl, rfl, w1⟩ := open_string Tryz.underlying9 (hval 1 9 v1 rfl rfl) h1
  have hsm := small_of hk
  obtain ⟨z0, hI0, hz0, hlt0⟩ := open_ints_in (hval 0 22 v0 rfl rfl) h0 (by omega)
  clear hA0 hval0
  refine (walk v0 z0 a1 (by omega) W hI0 hsh hL).mono fun e W' ⟨he, hb⟩ => ?_
  subst he
  exact ⟨_, rfl, _, _, _, [], (p0 ++ []), [], hW', (trodAll_cons_mk (shut_bool Tryz.underlying4 _) trodAll_mk0), (trodAll_cons_mk (Below.trod laidOutAll (by kernel_rfl) (of_decide_eq_true (by kernel_rfl)) h0 hb hlt0) (trodAll_cons_mk (shut_string Tryz.underlying9 w1) trodAll_mk0)), rfl, hb.frame _, fun h => by cases h⟩

theorem reads (os : Os) {H : Type} (enc : TypeId × Value → H) : ∃ places, DataW.whole enc Tryz.prog ((laidIn (World.holding Tryz.prog os ⟨#[], #[], []⟩)).forCall (fun _ _ => 0) ⟨#[], #[.slice none 0 0, .string ByteArray.empty], []⟩).memory Tryz.f3.params.toList Rows.pipeRunsSpec.vars false (#[.slice none 0 0, .string ByteArray.empty] : Array Value).toList 8 = some ([.nil, .lit (.string [])], [], places) :=
  ⟨[], by kernel_rfl⟩
theorem laid_met (os : Os) : laidMet Tryz.prog Rows.pipeRunsUptoRow.laid ((laidIn (World.holding Tryz.prog os ⟨#[], #[], []⟩)).forCall (fun _ _ => 0) ⟨#[], #[.slice none 0 0, .string ByteArray.empty], []⟩).memory :=
  laidMet_of_run' 8 (by kernel_rfl) (by kernel_rfl)

set_option maxRecDepth 100000 in
theorem lifted (os : Os) (started : os.Started) (H : Type) (enc : TypeId × Value → H) (F : Stop.Interp) :
    ReturnsInHanded {} Tryz.checked os 3 .any ((Rows.OpenSpec.upto Rows.pipeRunsSpec).preRow enc Tryz.prog Tryz.f3 Rows.pipeRunsUptoRow.domain false Rows.pipeRunsUptoRow.laid) (((Rows.OpenSpec.upto Rows.pipeRunsSpec).at F).post enc Tryz.prog Tryz.f3 false true false false) := by
  obtain ⟨places, hx⟩ := reads os enc
  refine returnsInHanded_of_row (C := Tryz.checked) (s := Rows.OpenSpec.upto Rows.pipeRunsSpec) own started (by kernel_rfl) Tryz.func3
    (witness_row_at (enc := enc) (C := Tryz.checked) false (laidIn (World.holding Tryz.prog os ⟨#[], #[], []⟩)) #[.slice none 0 0, .string ByteArray.empty] rfl (by kernel_rfl) (by kernel_rfl) (by kernel_rfl)
      (OpenSpec.preRow_of_cond 8 hx (by kernel_rfl) (fun k hk => by cases hk; kernel_rfl) (by kernel_rfl) (laid_met os))) ?_
  intro W base args ds gs before hval hW _ hcond _ hL hsh _
  exact contract H enc W base args ds gs before hsh hval hW (hcond _ rfl) hL

theorem row : Rows.PipeRunsUptoSaid :=
  OpenClaim.holds_of_cond 3 Tryz.f3 rfl rfl rfl rfl rfl rfl rfl ⟨rfl, rfl, rfl, rfl, rfl⟩ rfl rfl rfl rfl rfl (by kernel_rfl) Tryz.func3 (by kernel_rfl)
    (of_decide_eq_true (by kernel_rfl)) (by unfold Func.isWrapper; first | (rw [if_pos (by decide +kernel)]; kernel_rfl) | (rw [if_neg (by decide +kernel)]; exact ⟨rfl, rfl⟩))
    (fun os started H enc _ F => by rw [OpenClaim.pre_eq_preRow]; exact lifted os started H enc F)

theorem plain (f : FuncId) (fn : Func) (hf : Tryz.pinned.checked.prog.funcNamed "gatewicket/wicklaw.PipeRuns" = some f) (hfn : Tryz.pinned.checked.prog.funcs[f]? = some fn) :
    false = Tryz.pinned.checked.prog.looks [] ∧ ∀ (j : Nat) t, fn.params[j]? = some t → Tryz.pinned.checked.prog.wantsStandIn t = false := by
  obtain rfl : f = 3 := Option.some.inj ((show Tryz.prog.funcNamed "gatewicket/wicklaw.PipeRuns" = some 3 by kernel_rfl).symm.trans hf) |>.symm
  obtain rfl : fn = Tryz.f3 := (Option.some.inj (Tryz.func3.symm.trans hfn)).symm
  refine ⟨by kernel_rfl, fun j t ht => ?_⟩
  rw [Tryz.params3] at ht
  have hm : t = 22 ∨ t = 9 := by simpa using Array.mem_of_getElem? ht
  rcases hm with rfl | rfl
  · exact (show Tryz.prog.wantsStandIn 22 = false by kernel_rfl)
  · exact (show Tryz.prog.wantsStandIn 9 = false by kernel_rfl)

theorem over : Rows.PipeRunsUptoCardSaid :=
  Claim7.holds_tied_plain_at .later [] _ _ _ _ row (fun _ h => by cases h) (by kernel_rfl) (fun _ h => by cases h) pipeRunsUpto_row_tie rfl ⟨rfl, rfl⟩ (by kernel_rfl) rfl plain (by kernel_rfl)
end Go.Proofs.YtkhbfdokkmebhaaGreatDoor.pipeRuns
namespace Go.Proofs.YtkhbfdokkmebhaaGreatDoor
theorem pipeRuns_holds : Rows.PipeRunsUptoCardSaid := pipeRuns.over
#print axioms pipeRuns_holds
end Go.Proofs.YtkhbfdokkmebhaaGreatDoor
