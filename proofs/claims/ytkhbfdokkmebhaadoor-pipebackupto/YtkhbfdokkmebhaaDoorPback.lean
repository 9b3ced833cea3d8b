/- For every list l of numbers and every text s of bulk at most 1048576 together, with the tables of unicode/utf8 and the words of pipes as the program's text lays them and whatever number the library's own variable MaxLen holds, the call of PipeBack returns true and leaves what was there as it was. -/
import Derived.Test.YtkhbfdokkmebhaaDoorRows
import Derived.Test.YtkhbfdokkmebhaaDoorTie
import Derived.Test.YtkhbfdokkmebhaaDoorCards
import Derived.WalkKit
import Derived.ProofKit
import Derived.OpenShut
import Derived.ShutString
import Derived.JoinedCond
import Derived.Test.YtkhbfdokkmebhaaDoorPr
import Derived.Test.YtkhbfdokkmebhaaDoorLp
import Derived.Stop.LaidErr
namespace Go.Proofs.YtkhbfdokkmebhaaDoor.pipeBack
open Go.ChangeShapes Go.WideShapes Go.ChangeAt Go.RowKit
open Go.ChangeMaps (open_string shut_string)
set_option linter.unusedVariables false

/-- the first call: url and lower -/
theorem first (w : World) (t : TypeId) (hw : TabS 1 Pw.words w) (x : ByteArray) (hx : x = ⟨#[117, 114, 108, 44, 108, 111, 119, 101, 114]⟩) :
    Calls Tryd.prog 8 #[.slice (some ⟨w.heap.size, 0, none⟩) 2 2] (w.alloc (.cells #[.int .i64 2, .int .i64 1] t)) fun e w' => e = .returned (.tuple #[.string x, .int .i64 0]) ∧ Below w.heap.size w w' := by
  have hb : Below w.heap.size w (w.alloc (.cells #[.int .i64 2, .int .i64 1] t)) := (Below.refl _ _).alloc (Nat.le_refl _) _
  refine (print_ok _ [2, 1] x _ (two_ints w 2 1 t (by decide) (by decide)) (hw.below hb) (by decide) (by rw [hx]; decide)).mono ?_
  rintro e w' ⟨rfl, b⟩
  exact ⟨rfl, bel_trans hb b⟩

set_option maxRecDepth 20000 in
set_option maxHeartbeats 4000000 in
theorem walk_m (v : Value) (zs : List Int) (s : ByteArray) (m : Int) (hb : zs.length + s.size ≤ 1048576) (w : World) (hI : Ints w v zs) (hm : w.cell? ⟨2, 0, none⟩ = some (.int .i64 m)) (hw : TabS 1 Pw.words w) :
    Calls Tryd.prog 4 #[v, .string s] w fun e w' => e = .returned (.bool true) ∧ Below w.heap.size w w' := by
  obtain ⟨x, hx⟩ : ∃ x : ByteArray, x = ⟨#[117, 114, 108, 44, 108, 111, 119, 101, 114]⟩ := ⟨_, rfl⟩
  have hx1 : (x.toList == [117, 114, 108, 44, 108, 111, 119, 101, 114]) = true := by rw [hx, Lib.toList_data]; rfl
  have hx2 : (x.toList != [117, 114, 108, 44, 108, 111, 119, 101, 114]) = false := by rw [bne, hx1]; rfl
  have H0 := hide (fun t => first w t hw x hx)
  have HI := hide hI
  have HM := hide hm
  have HW := hide hw
  clear hx hI hm hw
  obtain ⟨l, f, hp⟩ : ∃ l f, Pw.parse s.data.toList = (l, f) := ⟨_, _, rfl⟩
  have HP := hide hp
  clear hp
  -- the pipe is right or not
  by_cases hck : Pw.check zs = 0
  · obtain ⟨q, hq⟩ := ex_list (Pw.print zs)
    have hql : q.size ≤ 64 := by rw [← len_data, hq]; exact Pw.print_len hck
    have HQ := hide hq
    have HPQ : Hid (Pw.parse q.data.toList = (zs, 0)) := hide (by rw [hq]; exact Pw.parse_print hck)
    have HCK := hide hck
    have hd : decide (zs = zs) = true := by simp
    clear hq hck
    by_cases hf : f = 0
    · subst hf
      obtain ⟨hcl, hpl⟩ := Pw.print_parse (unhide HP)
      have HCL := hide hcl
      have HPL := hide hpl
      clear hcl hpl
      go_enter Tryd.func4, Tryd.ntmps4
      go_wp2_with fail
      refine ((unhide H0) _).mono ?_; rintro e w1 ⟨rfl, b1⟩
      have B1 := hide b1; clear b1
      go_wp2_with fail
      refine (print_ok v zs q w1 ((unhide HI).below (unhide B1)) ((unhide HW).below (unhide B1)) (unhide HCK) (unhide HQ)).mono ?_; rintro e w2 ⟨rfl, b2⟩
      have B2 := hide (bel_trans (unhide B1) b2); clear b2 B1
      go_wp2_with fail
      refine (parse_ok q zs m w2 (by omega) (mem_below (unhide HM) (unhide B2)) ((unhide HW).below (unhide B2)) (unhide HPQ)).mono ?_; rintro e w3 ⟨v3, rfl, i3, b3⟩
      have B3 := hide (bel_trans (unhide B2) b3); clear b3 B2
      have I3 := hide i3; clear i3
      go_wp2_with fail
      refine (equal_any v v3 zs zs w3 ((unhide HI).below (unhide B3)) (unhide I3)).mono ?_; rintro e w4 ⟨rfl, b4⟩
      have B4 := hide (bel_trans (unhide B3) b4); clear b4 B3
      go_wp2_with fail
      refine (parse_ok s l m w4 (by omega) (mem_below (unhide HM) (unhide B4)) ((unhide HW).below (unhide B4)) (unhide HP)).mono ?_; rintro e w5 ⟨v5, rfl, i5, b5⟩
      have B5 := hide (bel_trans (unhide B4) b5); clear b5 B4
      have I5 := hide i5; clear i5
      go_wp2_with fail
      refine (print_ok v5 l s w5 (unhide I5) ((unhide HW).below (unhide B5)) (unhide HCL) (unhide HPL).symm).mono ?_; rintro e w6 ⟨rfl, b6⟩
      have B6 := hide (bel_trans (unhide B5) b6); clear b6 B5
      go_wp2_with fail
      go_ret
      exact ⟨by simp, unhide B6⟩
    · have HPF : Hid ((Pw.parse s.data.toList).2 = f) := hide (by rw [unhide HP])
      have hf' : (f != 0) = true := by simpa using hf
      have HNF := hide hf
      clear hf
      go_enter Tryd.func4, Tryd.ntmps4
      go_wp2_with fail
      refine ((unhide H0) _).mono ?_; rintro e w1 ⟨rfl, b1⟩
      have B1 := hide b1; clear b1
      go_wp2_with fail
      refine (print_ok v zs q w1 ((unhide HI).below (unhide B1)) ((unhide HW).below (unhide B1)) (unhide HCK) (unhide HQ)).mono ?_; rintro e w2 ⟨rfl, b2⟩
      have B2 := hide (bel_trans (unhide B1) b2); clear b2 B1
      go_wp2_with fail
      refine (parse_ok q zs m w2 (by omega) (mem_below (unhide HM) (unhide B2)) ((unhide HW).below (unhide B2)) (unhide HPQ)).mono ?_; rintro e w3 ⟨v3, rfl, i3, b3⟩
      have B3 := hide (bel_trans (unhide B2) b3); clear b3 B2
      have I3 := hide i3; clear i3
      go_wp2_with fail
      refine (equal_any v v3 zs zs w3 ((unhide HI).below (unhide B3)) (unhide I3)).mono ?_; rintro e w4 ⟨rfl, b4⟩
      have B4 := hide (bel_trans (unhide B3) b4); clear b4 B3
      go_wp2_with fail
      refine (parse_no s f m w4 (by omega) (mem_below (unhide HM) (unhide B4)) ((unhide HW).below (unhide B4)) (unhide HPF) (unhide HNF)).mono ?_; rintro e w5 ⟨v5, rfl, i5, b5⟩
      have B5 := hide (bel_trans (unhide B4) b5); clear b5 B4
      obtain ⟨o, c, rfl, _⟩ := i5.form
      go_wp2_with fail
      go_ret
      exact ⟨by simp, unhide B5⟩
  · obtain ⟨n, hn⟩ : ∃ n, Pw.check zs = n := ⟨_, rfl⟩
    rw [hn] at hck
    have HN := hide hn
    have HNN := hide hck
    have hn1 : (n == 0) = false := by simpa using hck
    clear hn hck
    by_cases hf : f = 0
    · subst hf
      obtain ⟨hcl, hpl⟩ := Pw.print_parse (unhide HP)
      have HCL := hide hcl
      have HPL := hide hpl
      clear hcl hpl
      go_enter Tryd.func4, Tryd.ntmps4
      go_wp2_with fail
      refine ((unhide H0) _).mono ?_; rintro e w1 ⟨rfl, b1⟩
      have B1 := hide b1; clear b1
      go_wp2_with fail
      refine (print_bad v zs n w1 ((unhide HI).below (unhide B1)) ((unhide HW).below (unhide B1)) (unhide HN) (unhide HNN)).mono ?_; rintro e w2 ⟨rfl, b2⟩
      have B4 := hide (bel_trans (unhide B1) b2); clear b2 B1
      go_wp2_with fail
      refine (parse_ok s l m w2 (by omega) (mem_below (unhide HM) (unhide B4)) ((unhide HW).below (unhide B4)) (unhide HP)).mono ?_; rintro e w5 ⟨v5, rfl, i5, b5⟩
      have B5 := hide (bel_trans (unhide B4) b5); clear b5 B4
      have I5 := hide i5; clear i5
      go_wp2_with fail
      refine (print_ok v5 l s w5 (unhide I5) ((unhide HW).below (unhide B5)) (unhide HCL) (unhide HPL).symm).mono ?_; rintro e w6 ⟨rfl, b6⟩
      have B6 := hide (bel_trans (unhide B5) b6); clear b6 B5
      go_wp2_with fail
      go_ret
      exact ⟨by simp, unhide B6⟩
    · have HPF : Hid ((Pw.parse s.data.toList).2 = f) := hide (by rw [unhide HP])
      have hf' : (f != 0) = true := by simpa using hf
      have HNF := hide hf
      clear hf
      go_enter Tryd.func4, Tryd.ntmps4
      go_wp2_with fail
      refine ((unhide H0) _).mono ?_; rintro e w1 ⟨rfl, b1⟩
      have B1 := hide b1; clear b1
      go_wp2_with fail
      refine (print_bad v zs n w1 ((unhide HI).below (unhide B1)) ((unhide HW).below (unhide B1)) (unhide HN) (unhide HNN)).mono ?_; rintro e w2 ⟨rfl, b2⟩
      have B4 := hide (bel_trans (unhide B1) b2); clear b2 B1
      go_wp2_with fail
      refine (parse_no s f m w2 (by omega) (mem_below (unhide HM) (unhide B4)) ((unhide HW).below (unhide B4)) (unhide HPF) (unhide HNF)).mono ?_; rintro e w5 ⟨v5, rfl, i5, b5⟩
      have B5 := hide (bel_trans (unhide B4) b5); clear b5 B4
      obtain ⟨o, c, rfl, _⟩ := i5.form
      go_wp2_with fail
      go_ret
      exact ⟨by simp, unhide B5⟩

theorem words_is : (Rows.laid_gatewicket_pipe_words : DataW Unit) = tabStr Pw.words := by kernel_rfl
theorem walk (v0 : Value) (z0 : List Int) (a1 : ByteArray) (hb : z0.length + a1.size ≤ 1048576) (w : World) (hI : Ints w v0 z0) (hsh : w.ShapedOpen Tryd.prog) (hL : laidMetH Tryd.prog Rows.pipeBackUptoRow.laid w) :
    Calls Tryd.prog 4 #[v0, .string a1] w fun e w' => e = .returned (.bool true) ∧ Below w.heap.size w w' := by
  obtain ⟨m, hm⟩ := Tryd.laysM155.s1_3 w hsh
  have h1 : laidMet Tryd.prog [("unicode/utf8.acceptRanges", Rows.laid_unicode_utf8_acceptRanges), ("gatewicket/pipe.words", Rows.laid_gatewicket_pipe_words), ("unicode/utf8.first", Rows.laid_unicode_utf8_first)] w := hL
  have h2 := h1.tail
  rw [words_is] at h2
  exact walk_m v0 z0 a1 m hb w hI hm (tabS_of_head (t := 38) (n := 11) (by decide) (by kernel_rfl) (by kernel_rfl) Tryd.underlying38 (by kernel_rfl) h2)

theorem own : ownKnob Tryd.prog.godebug = none := by kernel_rfl

theorem small_of {H : Type} {a0 : DataW H} {a1 : ByteArray} (hk : Rows.uptoSmall H ([a0, .lit (.string a1.data.toList)] ++ []) = true) : Rows.uptoBulk a0 + a1.size ≤ 1048576 := by
  have h := of_decide_eq_true hk
  simp only [Rows.uptoBulkAll, Rows.uptoBulk, List.append_nil, Array.length_toList, ByteArray.size_data] at h
  omega

set_option maxRecDepth 100000 in
theorem contract (H : Type) (enc : TypeId × Value → H) (W : World) (base : Nat) (args : Array Value) (ds gs : List (DataW H)) (before : List MemPlace) (hsh : W.ShapedOpen Tryd.prog)
    (hval0 : ∀ (j : Nat) t v, Tryd.f4.params[j]? = some t → args[j]? = some v → Value.okWide Tryd.prog W .any base t v)
    (hW : DataW.Whole enc Tryd.prog Tryd.f4.params.toList Rows.pipeBackSpec.vars false W args.toList ds gs before) (hk : Rows.uptoSmall H (ds ++ gs) = true) (hL : laidMetH Tryd.prog Rows.pipeBackUptoRow.laid W) :
    Calls Tryd.prog 4 args W fun e W' => ∃ v, e = .returned v ∧ Rows.pipeBackSpec.post enc Tryd.prog Tryd.f4 false true false false W args v W' := by
  have hval : ∀ (j : Nat) t v, Tryd.f4.params[j]? = some t → args[j]? = some v → Value.okWide Tryd.prog W .any base t v := hval0
  have hW' := hW
  obtain ⟨p, q, hA0, hV, rfl, hfz, hnd⟩ := hW
  have hA : DataW.TrodAll enc Tryd.prog W 0 (fun _ => true) true Tryd.f4.params.toList args.toList ds p := hA0
  rw [Tryd.params4] at hA hval
  obtain ⟨v0, vs0, d0, ds0, p0, q0, hargs, rfl, rfl, h0, r0⟩ := trodAll_cons hA
  obtain ⟨v1, vs1, d1, ds1, p1, q1, rfl, rfl, rfl, h1, r1⟩ := trodAll_cons r0
  obtain ⟨rfl, rfl, rfl⟩ := trodAll_nil r1
  obtain rfl : args = #[v0, v1] := by cases args; simp_all
  obtain ⟨rfl, rfl⟩ := trodVars_none hV
  obtain ⟨a1, rfl, rfl, rfl, w1⟩ := open_string Tryd.underlying9 (hval 1 9 v1 rfl rfl) h1
  have hsm := small_of hk
  obtain ⟨z0, hI0, hz0, hlt0⟩ := open_ints_in (hval 0 22 v0 rfl rfl) h0 (by omega)
  clear hA0 hval0
  refine (walk v0 z0 a1 (by omega) W hI0 hsh hL).mono fun e W' ⟨he, hb⟩ => ?_
  subst he
  exact ⟨_, rfl, _, _, _, [], (p0 ++ []), [], hW', (trodAll_cons_mk (shut_bool Tryd.underlying4 _) trodAll_mk0), (trodAll_cons_mk (Below.trod laidOutAll (by kernel_rfl) (of_decide_eq_true (by kernel_rfl)) h0 hb hlt0) (trodAll_cons_mk (shut_string Tryd.underlying9 w1) trodAll_mk0)), rfl, hb.frame _, fun h => by cases h⟩

theorem reads (os : Os) {H : Type} (enc : TypeId × Value → H) : ∃ places, DataW.whole enc Tryd.prog ((laidIn (World.holding Tryd.prog os ⟨#[], #[], []⟩)).forCall (fun _ _ => 0) ⟨#[], #[.slice none 0 0, .string ByteArray.empty], []⟩).memory Tryd.f4.params.toList Rows.pipeBackSpec.vars false (#[.slice none 0 0, .string ByteArray.empty] : Array Value).toList 8 = some ([.nil, .lit (.string [])], [], places) :=
  ⟨[], by kernel_rfl⟩
theorem laid_met (os : Os) : laidMet Tryd.prog Rows.pipeBackUptoRow.laid ((laidIn (World.holding Tryd.prog os ⟨#[], #[], []⟩)).forCall (fun _ _ => 0) ⟨#[], #[.slice none 0 0, .string ByteArray.empty], []⟩).memory :=
  laidMet_of_run' 8 (by kernel_rfl) (by kernel_rfl)

set_option maxRecDepth 100000 in
theorem lifted (os : Os) (started : os.Started) (H : Type) (enc : TypeId × Value → H) (F : Stop.Interp) :
    ReturnsInHanded {} Tryd.checked os 4 .any ((Rows.OpenSpec.upto Rows.pipeBackSpec).preRow enc Tryd.prog Tryd.f4 Rows.pipeBackUptoRow.domain false Rows.pipeBackUptoRow.laid) (((Rows.OpenSpec.upto Rows.pipeBackSpec).at F).post enc Tryd.prog Tryd.f4 false true false false) := by
  obtain ⟨places, hx⟩ := reads os enc
  refine returnsInHanded_of_row (C := Tryd.checked) (s := Rows.OpenSpec.upto Rows.pipeBackSpec) own started (by kernel_rfl) Tryd.func4
    (witness_row_at (enc := enc) (C := Tryd.checked) false (laidIn (World.holding Tryd.prog os ⟨#[], #[], []⟩)) #[.slice none 0 0, .string ByteArray.empty] rfl (by kernel_rfl) (by kernel_rfl) (by kernel_rfl)
      (OpenSpec.preRow_of_cond 8 hx (by kernel_rfl) (fun k hk => by cases hk; kernel_rfl) (by kernel_rfl) (laid_met os))) ?_
  intro W base args ds gs before hval hW _ hcond _ hL hsh _
  exact contract H enc W base args ds gs before hsh hval hW (hcond _ rfl) hL

theorem row : Rows.PipeBackUptoSaid :=
  OpenClaim.holds_of_cond 4 Tryd.f4 rfl rfl rfl rfl rfl rfl rfl ⟨rfl, rfl, rfl, rfl, rfl⟩ rfl rfl rfl rfl rfl (by kernel_rfl) Tryd.func4 (by kernel_rfl)
    (of_decide_eq_true (by kernel_rfl)) (by unfold Func.isWrapper; first | (rw [if_pos (by decide +kernel)]; kernel_rfl) | (rw [if_neg (by decide +kernel)]; exact ⟨rfl, rfl⟩))
    (fun os started H enc _ F => by rw [OpenClaim.pre_eq_preRow]; exact lifted os started H enc F)

theorem plain (f : FuncId) (fn : Func) (hf : Tryd.pinned.checked.prog.funcNamed "gatewicket/wickkeep.PipeBack" = some f) (hfn : Tryd.pinned.checked.prog.funcs[f]? = some fn) :
    false = Tryd.pinned.checked.prog.looks [] ∧ ∀ (j : Nat) t, fn.params[j]? = some t → Tryd.pinned.checked.prog.wantsStandIn t = false := by
  obtain rfl : f = 4 := Option.some.inj ((show Tryd.prog.funcNamed "gatewicket/wickkeep.PipeBack" = some 4 by kernel_rfl).symm.trans hf) |>.symm
  obtain rfl : fn = Tryd.f4 := (Option.some.inj (Tryd.func4.symm.trans hfn)).symm
  refine ⟨by kernel_rfl, fun j t ht => ?_⟩
  rw [Tryd.params4] at ht
  have hm : t = 22 ∨ t = 9 := by simpa using Array.mem_of_getElem? ht
  rcases hm with rfl | rfl
  · exact (show Tryd.prog.wantsStandIn 22 = false by kernel_rfl)
  · exact (show Tryd.prog.wantsStandIn 9 = false by kernel_rfl)

theorem over : Rows.PipeBackUptoCardSaid :=
  Claim7.holds_tied_plain_at .later [] _ _ _ _ row (fun _ h => by cases h) (by kernel_rfl) (fun _ h => by cases h) pipeBackUpto_row_tie rfl ⟨rfl, rfl⟩ (by kernel_rfl) rfl plain (by kernel_rfl)
end Go.Proofs.YtkhbfdokkmebhaaDoor.pipeBack
namespace Go.Proofs.YtkhbfdokkmebhaaDoor
theorem pipeBack_holds : Rows.PipeBackUptoCardSaid := pipeBack.over
#print axioms pipeBack_holds
end Go.Proofs.YtkhbfdokkmebhaaDoor
