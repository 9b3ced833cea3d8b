/- For every list l of numbers and every text s of bulk at most 1048576 together, with the tables of unicode/utf8 and the words of pipes as the program's text lays them and whatever number the library's own variable MaxLen holds, the call of PipeReads returns true and leaves what was there as it was. -/
import Derived.Test.YtkhbfdokkmebhaaDoorRows
import Derived.Test.YtkhbfdokkmebhaaDoorTie
import Derived.Test.YtkhbfdokkmebhaaDoorCards
import Derived.WalkKit
import Derived.ProofKit
import Derived.OpenShut
import Derived.ShutString
import Derived.JoinedCond
import Derived.Test.YtkhbfdokkmebhaaDoorPr
import Derived.Test.YtkhbfdokkmebhaaDoorPx
import Derived.Test.YtkhbfdokkmebhaaDoorLp
import Derived.Stop.LaidErr
namespace Go.Proofs.YtkhbfdokkmebhaaDoor.pipeReads
open Go.ChangeShapes Go.WideShapes Go.ChangeAt Go.RowKit
open Go.ChangeMaps (open_string shut_string)
set_option linter.unusedVariables false

set_option maxRecDepth 20000 in
set_option maxHeartbeats 4000000 in
theorem walk_m (v : Value) (zs : List Int) (s : ByteArray) (m : Int) (hb : zs.length + s.size ≤ 1048576) (w : World) (hI : Ints w v zs) (hm : w.cell? ⟨2, 0, none⟩ = some (.int .i64 m)) (hw : TabS 1 Pw.words w)
    (hr : TabS 0 ([] :: Pw.words) w) :
    Calls Tryd.prog 3 #[v, .string s] w fun e w' => e = .returned (.bool true) ∧ Below w.heap.size w w' := by
  have H0 := hide (rpipe_any v zs w hI)
  have HI := hide hI
  have HM := hide hm
  have HW := hide hw
  have HR := hide hr
  clear hI hm hw hr
  obtain ⟨l, f, hp⟩ : ∃ l f, Pw.parse s.data.toList = (l, f) := ⟨_, _, rfl⟩
  have HP : Hid (∀ w1, Below w.heap.size w w1 → Calls Tryd.prog 9 #[.string s] w1 fun e w' => ∃ v, e = .returned (.tuple #[v, .int .i64 f]) ∧ Ints w' v l ∧ Below w1.heap.size w1 w') := hide (by
    intro w1 b
    have := parse_any s m w1 (by omega) (mem_below (unhide HM) b) ((unhide HW).below b)
    rwa [hp] at this)
  have HQ : Hid (∀ w1, Below w.heap.size w w1 → Calls Tryd.prog 10 #[.string s] w1 fun e w' => ∃ v, e = .returned (.tuple #[v, .int .i64 f]) ∧ Ints w' v l ∧ Below w1.heap.size w1 w') := hide (by
    intro w1 b
    have := rread_any s w1 (by omega) ((unhide HR).below b)
    rwa [hp] at this)
  have hd : decide (l = l) = true := by simp
  clear hp
  by_cases hck : Pw.check zs = 0
  · obtain ⟨q, hq⟩ := ex_list (Pw.print zs)
    have HT : Hid (∀ w1, Below w.heap.size w w1 → Calls Tryd.prog 7 #[v] w1 fun e w' => e = .returned (.string q) ∧ Below w1.heap.size w1 w') := hide (by
      intro w1 b
      have := rtext_any v zs w1 ((unhide HI).below b) ((unhide HR).below b) hck
      rwa [← hq, mk_data] at this)
    have HO : Hid (∀ w1, Below w.heap.size w w1 → Calls Tryd.prog 8 #[v] w1 fun e w' => e = .returned (.tuple #[.string q, .int .i64 0]) ∧ Below w1.heap.size w1 w') := hide (by
      intro w1 b
      exact print_ok v zs q w1 ((unhide HI).below b) ((unhide HW).below b) hck hq)
    rw [hck] at H0
    clear hck hq
    go_enter Tryd.func3, Tryd.ntmps3
    go_wp2_with fail
    refine (unhide H0).mono ?_; rintro e wx ⟨rfl, hwx⟩; rw [hwx]; clear hwx wx
    go_wp2_with fail
    refine ((unhide HT) _ (Below.refl _ _)).mono ?_; rintro e w1 ⟨rfl, b1⟩
    have B1 := hide b1; clear b1
    go_wp2_with fail
    refine ((unhide HO) _ (unhide B1)).mono ?_; rintro e w2 ⟨rfl, b2⟩
    have B2 := hide (bel_trans (unhide B1) b2); clear b2 B1
    go_wp2_with fail
    refine ((unhide HP) _ (unhide B2)).mono ?_; rintro e w3 ⟨v3, rfl, i3, b3⟩
    have B3 := hide (bel_trans (unhide B2) b3); clear b3 B2
    have I3 := hide i3; clear i3
    go_wp2_with fail
    refine ((unhide HQ) _ (unhide B3)).mono ?_; rintro e w4 ⟨v4, rfl, i4, b4⟩
    have B4 := hide (bel_trans (unhide B3) b4)
    have I4 := hide i4
    have I5 := hide ((unhide I3).below b4)
    clear i4 b4 B3 I3
    go_wp2_with fail
    refine (equal_any v3 v4 l l w4 (unhide I5) (unhide I4)).mono ?_; rintro e w5 ⟨rfl, b5⟩
    have B5 := hide (bel_trans (unhide B4) b5); clear b5 B4
    go_wp2_with fail
    go_ret
    exact ⟨by simp, unhide B5⟩
  · obtain ⟨n, hn⟩ : ∃ n, Pw.check zs = n := ⟨_, rfl⟩
    have HO : Hid (∀ w1, Below w.heap.size w w1 → Calls Tryd.prog 8 #[v] w1 fun e w' => e = .returned (.tuple #[.string ⟨#[]⟩, .int .i64 n]) ∧ Below w1.heap.size w1 w') := hide (by
      intro w1 b
      exact print_bad v zs n w1 ((unhide HI).below b) ((unhide HW).below b) hn (by rw [← hn]; exact hck))
    rw [hn] at H0 hck
    have hn1 : (n == 0) = false := by simpa using hck
    clear hck hn
    go_enter Tryd.func3, Tryd.ntmps3
    go_wp2_with fail
    refine (unhide H0).mono ?_; rintro e wx ⟨rfl, hwx⟩; rw [hwx]; clear hwx wx
    go_wp2_with fail
    refine ((unhide HO) _ (Below.refl _ _)).mono ?_; rintro e w2 ⟨rfl, b2⟩
    have B2 := hide b2; clear b2
    go_wp2_with fail
    refine ((unhide HP) _ (unhide B2)).mono ?_; rintro e w3 ⟨v3, rfl, i3, b3⟩
    have B3 := hide (bel_trans (unhide B2) b3); clear b3 B2
    have I3 := hide i3; clear i3
    go_wp2_with fail
    refine ((unhide HQ) _ (unhide B3)).mono ?_; rintro e w4 ⟨v4, rfl, i4, b4⟩
    have B4 := hide (bel_trans (unhide B3) b4)
    have I4 := hide i4
    have I5 := hide ((unhide I3).below b4)
    clear i4 b4 B3 I3
    go_wp2_with fail
    refine (equal_any v3 v4 l l w4 (unhide I5) (unhide I4)).mono ?_; rintro e w5 ⟨rfl, b5⟩
    have B5 := hide (bel_trans (unhide B4) b5); clear b5 B4
    go_wp2_with fail
    go_ret
    exact ⟨by simp, unhide B5⟩

theorem words_is : (Rows.laid_gatewicket_pipe_words : DataW Unit) = tabStr Pw.words := by kernel_rfl
theorem pwords_is : (Rows.laid_gatewicket_wickref_pipeWords : DataW Unit) = tabStr ([] :: Pw.words) := by kernel_rfl
theorem walk (v0 : Value) (z0 : List Int) (a1 : ByteArray) (hb : z0.length + a1.size ≤ 1048576) (w : World) (hI : Ints w v0 z0) (hsh : w.ShapedOpen Tryd.prog) (hL : laidMetH Tryd.prog Rows.pipeReadsUptoRow.laid w) :
    Calls Tryd.prog 3 #[v0, .string a1] w fun e w' => e = .returned (.bool true) ∧ Below w.heap.size w w' := by
  obtain ⟨m, hm⟩ := Tryd.laysM155.s1_3 w hsh
  have h1 : laidMet Tryd.prog [("unicode/utf8.acceptRanges", Rows.laid_unicode_utf8_acceptRanges), ("gatewicket/wickref.pipeWords", Rows.laid_gatewicket_wickref_pipeWords), ("gatewicket/pipe.words", Rows.laid_gatewicket_pipe_words), ("unicode/utf8.first", Rows.laid_unicode_utf8_first)] w := hL
  have h2 := h1.tail
  have h3 := h2.tail
  rw [pwords_is] at h2
  rw [words_is] at h3
  exact walk_m v0 z0 a1 m hb w hI hm (tabS_of_head (t := 38) (n := 11) (by decide) (by kernel_rfl) (by kernel_rfl) Tryd.underlying38 (by kernel_rfl) h3)
    (tabS_of_head (t := 36) (n := 12) (by decide) (by kernel_rfl) (by kernel_rfl) Tryd.underlying36 (by kernel_rfl) h2)

theorem own : ownKnob Tryd.prog.godebug = none := by kernel_rfl

theorem small_of {H : Type} {a0 : DataW H} {a1 : ByteArray} (hk : Rows.uptoSmall H ([a0, .lit (.string a1.data.toList)] ++ []) = true) : Rows.uptoBulk a0 + a1.size ≤ 1048576 := by
  have h := of_decide_eq_true hk
  simp only [Rows.uptoBulkAll, Rows.uptoBulk, List.append_nil, Array.length_toList, ByteArray.size_data] at h
  omega

set_option maxRecDepth 100000 in
theorem contract (H : Type) (enc : TypeId × Value → H) (W : World) (base : Nat) (args : Array Value) (ds gs : List (DataW H)) (before : List MemPlace) (hsh : W.ShapedOpen Tryd.prog)
    (hval0 : ∀ (j : Nat) t v, Tryd.f3.params[j]? = some t → args[j]? = some v → Value.okWide Tryd.prog W .any base t v)
    (hW : DataW.Whole enc Tryd.prog Tryd.f3.params.toList Rows.pipeReadsSpec.vars false W args.toList ds gs before) (hk : Rows.uptoSmall H (ds ++ gs) = true) (hL : laidMetH Tryd.prog Rows.pipeReadsUptoRow.laid W) :
    Calls Tryd.prog 3 args W fun e W' => ∃ v, e = .returned v ∧ Rows.pipeReadsSpec.post enc Tryd.prog Tryd.f3 false true false false W args v W' := by
  have hval : ∀ (j : Nat) t v, Tryd.f3.params[j]? = some t → args[j]? = some v → Value.okWide Tryd.prog W .any base t v := hval0
  have hW' := hW
  obtain ⟨p, q, hA0, hV, rfl, hfz, hnd⟩ := hW
  have hA : DataW.TrodAll enc Tryd.prog W 0 (fun _ => true) true Tryd.f3.params.toList args.toList ds p := hA0
  rw [Tryd.params3] at hA hval
  obtain ⟨v0, vs0, d0, ds0, p0, q0, hargs, rfl, rfl, h0, r0⟩ := trodAll_cons hA
  obtain ⟨v1, vs1, d1, ds1, p1, q1, rfl, rfl, rfl, h1, r1⟩ := trodAll_cons r0
  obtain ⟨rfl, rfl, rfl⟩ := trodAll_nil r1
  obtain rfl : args = #[v0, v1] := by cases args; simp_all
  obtain ⟨rfl, rfl⟩ := trodVars_none hV
  obtain ⟨a1, rfl, rfl, rfl, w1⟩ := open_string Tryd.underlying9 (hval 1 9 v1 rfl rfl) h1
  have hsm := small_of hk
  obtain ⟨z0, hI0, hz0, hlt0⟩ := open_ints_in (hval 0 22 v0 rfl rfl) h0 (by omega)
  clear hA0 hval0
  refine (walk v0 z0 a1 (by omega) W hI0 hsh hL).mono fun e W' ⟨he, hb⟩ => ?_
  subst he
  exact ⟨_, rfl, _, _, _, [], (p0 ++ []), [], hW', (trodAll_cons_mk (shut_bool Tryd.underlying4 _) trodAll_mk0), (trodAll_cons_mk (Below.trod laidOutAll (by kernel_rfl) (of_decide_eq_true (by kernel_rfl)) h0 hb hlt0) (trodAll_cons_mk (shut_string Tryd.underlying9 w1) trodAll_mk0)), rfl, hb.frame _, fun h => by cases h⟩

theorem reads (os : Os) {H : Type} (enc : TypeId × Value → H) : ∃ places, DataW.whole enc Tryd.prog ((laidIn (World.holding Tryd.prog os ⟨#[], #[], []⟩)).forCall (fun _ _ => 0) ⟨#[], #[.slice none 0 0, .string ByteArray.empty], []⟩).memory Tryd.f3.params.toList Rows.pipeReadsSpec.vars false (#[.slice none 0 0, .string ByteArray.empty] : Array Value).toList 8 = some ([.nil, .lit (.string [])], [], places) :=
  ⟨[], by kernel_rfl⟩
theorem laid_met (os : Os) : laidMet Tryd.prog Rows.pipeReadsUptoRow.laid ((laidIn (World.holding Tryd.prog os ⟨#[], #[], []⟩)).forCall (fun _ _ => 0) ⟨#[], #[.slice none 0 0, .string ByteArray.empty], []⟩).memory :=
  laidMet_of_run' 8 (by kernel_rfl) (by kernel_rfl)

set_option maxRecDepth 100000 in
theorem lifted (os : Os) (started : os.Started) (H : Type) (enc : TypeId × Value → H) (F : Stop.Interp) :
    ReturnsInHanded {} Tryd.checked os 3 .any ((Rows.OpenSpec.upto Rows.pipeReadsSpec).preRow enc Tryd.prog Tryd.f3 Rows.pipeReadsUptoRow.domain false Rows.pipeReadsUptoRow.laid) (((Rows.OpenSpec.upto Rows.pipeReadsSpec).at F).post enc Tryd.prog Tryd.f3 false true false false) := by
  obtain ⟨places, hx⟩ := reads os enc
  refine returnsInHanded_of_row (C := Tryd.checked) (s := Rows.OpenSpec.upto Rows.pipeReadsSpec) own started (by kernel_rfl) Tryd.func3
    (witness_row_at (enc := enc) (C := Tryd.checked) false (laidIn (World.holding Tryd.prog os ⟨#[], #[], []⟩)) #[.slice none 0 0, .string ByteArray.empty] rfl (by kernel_rfl) (by kernel_rfl) (by kernel_rfl)
      (OpenSpec.preRow_of_cond 8 hx (by kernel_rfl) (fun k hk => by cases hk; kernel_rfl) (by kernel_rfl) (laid_met os))) ?_
  intro W base args ds gs before hval hW _ hcond _ hL hsh _
  exact contract H enc W base args ds gs before hsh hval hW (hcond _ rfl) hL

theorem row : Rows.PipeReadsUptoSaid :=
  OpenClaim.holds_of_cond 3 Tryd.f3 rfl rfl rfl rfl rfl rfl rfl ⟨rfl, rfl, rfl, rfl, rfl⟩ rfl rfl rfl rfl rfl (by kernel_rfl) Tryd.func3 (by kernel_rfl)
    (of_decide_eq_true (by kernel_rfl)) (by unfold Func.isWrapper; first | (rw [if_pos (by decide +kernel)]; kernel_rfl) | (rw [if_neg (by decide +kernel)]; exact ⟨rfl, rfl⟩))
    (fun os started H enc _ F => by rw [OpenClaim.pre_eq_preRow]; exact lifted os started H enc F)

theorem plain (f : FuncId) (fn : Func) (hf : Tryd.pinned.checked.prog.funcNamed "gatewicket/wicklaw.PipeReads" = some f) (hfn : Tryd.pinned.checked.prog.funcs[f]? = some fn) :
    false = Tryd.pinned.checked.prog.looks [] ∧ ∀ (j : Nat) t, fn.params[j]? = some t → Tryd.pinned.checked.prog.wantsStandIn t = false := by
  obtain rfl : f = 3 := Option.some.inj ((show Tryd.prog.funcNamed "gatewicket/wicklaw.PipeReads" = some 3 by kernel_rfl).symm.trans hf) |>.symm
  obtain rfl : fn = Tryd.f3 := (Option.some.inj (Tryd.func3.symm.trans hfn)).symm
  refine ⟨by kernel_rfl, fun j t ht => ?_⟩
  rw [Tryd.params3] at ht
  have hm : t = 22 ∨ t = 9 := by simpa using Array.mem_of_getElem? ht
  rcases hm with rfl | rfl
  · exact (show Tryd.prog.wantsStandIn 22 = false by kernel_rfl)
  · exact (show Tryd.prog.wantsStandIn 9 = false by kernel_rfl)

theorem over : Rows.PipeReadsUptoCardSaid :=
  Claim7.holds_tied_plain_at .later [] _ _ _ _ row (fun _ h => by cases h) (by kernel_rfl) (fun _ h => by cases h) pipeReadsUpto_row_tie rfl ⟨rfl, rfl⟩ (by kernel_rfl) rfl plain (by kernel_rfl)
end Go.Proofs.YtkhbfdokkmebhaaDoor.pipeReads
namespace Go.Proofs.YtkhbfdokkmebhaaDoor
theorem pipeReads_holds : Rows.PipeReadsUptoCardSaid := pipeReads.over
#print axioms pipeReads_holds
end Go.Proofs.YtkhbfdokkmebhaaDoor
