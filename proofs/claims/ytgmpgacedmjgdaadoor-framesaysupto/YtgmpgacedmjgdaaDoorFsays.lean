/- Whatever is handed in, Of, Chunks and Chunked answer what the document says.
   Conditions: what is handed in is of bulk at most 1048576; the library's tables are as the program's text lays them. -/
import Derived.Test.YtgmpgacedmjgdaaDoorRows
import Derived.Test.YtgmpgacedmjgdaaDoorTie
import Derived.Test.YtgmpgacedmjgdaaDoorCards
import Derived.WalkKit
import Derived.ProofKit
import Derived.OpenShut
import Derived.ShutString
import Derived.JoinedCond
import Derived.Test.YtgmpgacedmjgdaaDoorTy
import Derived.Test.YtgmpgacedmjgdaaDoorTp
import Derived.Test.YtgmpgacedmjgdaaDoorTn
import Derived.Test.YtgmpgacedmjgdaaDoorTo
import Derived.Test.YtgmpgacedmjgdaaDoorTi
import Derived.Test.YtgmpgacedmjgdaaDoorTl
import Derived.Stop.LaidErr
namespace Go.Proofs.YtgmpgacedmjgdaaDoor.frameSays
open Go.ChangeShapes Go.WideShapes Go.ChangeAt Go.RowKit
open Go.ChangeMaps (open_string shut_string)
open Kb
open Mh (Fl)
set_option linter.unusedVariables false
set_option maxRecDepth 20000
set_option maxRecDepth 20000

theorem eq_ts (a : ByteArray) : (a.toList == a.toList) = true := by simp
set_option maxHeartbeats 4000000 in
theorem walk0 (m t : List UInt8) (u : Value) (fs : List Fl) (s : ByteArray) (most : Int) (v : Value) (zs : List Int) (hb : s.size + zs.length ≤ 1048576) (hi : -9223372036854775808 ≤ most ∧ most ≤ 9223372036854775807) (w : World) (hu : Flds w u fs) (hz : m.length + t.length ≤ 1048576 ∧ fs.length ≤ 1048576 ∧ ∀ f ∈ fs, f.1.length + f.2.length ≤ 1048576) (hI : Ints w v zs) (hT : DB w) :
    Calls Tryd.prog 3 #[headV m t u, .string s, .int .i64 most, v] w fun e w' => e = .returned (.bool true) ∧ Below w.heap.size w w' := by
  obtain ⟨hmt, hfl, hff⟩ := hz
  have hff' : ∀ f ∈ fs, f.1.length + f.2.length ≤ 68719476736 := fun f hf => by have := hff f hf; omega
  obtain ⟨⟨r1, r2, r3⟩, hr⟩ : ∃ r, Cu.sizeOf fs = r := ⟨_, rfl⟩
  have HOF := hide (fun W (h : Below w.heap.size w W) => of_any m t u fs W (hu.below h) hff' (by omega) _ hr)
  have HRF := hide (fun W (h : Below w.heap.size w W) => rof_any m t u fs W (hu.below h) hff' (by omega) _ hr)
  obtain ⟨⟨q, n, e⟩, hq⟩ : ∃ r, Cu.tell (Cu.chunks most s.data.toList) = r := ⟨_, rfl⟩
  have HCH := hide (fun W => chunks_any s most W (by omega) hi _ hq)
  have HRC := hide (fun W => rchunks_any s most W (by omega) hi _ hq)
  obtain ⟨k, hk⟩ : ∃ r, Cu.chunked zs s.data.toList = r := ⟨_, rfl⟩
  have HCD := hide (fun W (h : Below w.heap.size w W) => chunked_any s v zs W (hI.below h) (hT.below h) (by omega) _ hk)
  have HRD := hide (fun W (h : Below w.heap.size w W) => rchunked_any s v zs W (hI.below h) (hT.below h) (by omega) _ hk)
  dsimp only at HOF HRF HCH HRC
  unfold headV at HOF HRF ⊢
  obtain ⟨o, c, rfl, hc⟩ := hu.form
  obtain ⟨vo, vc, rfl, hvc⟩ := hI.form
  obtain ⟨x, hx⟩ : ∃ x, mk m = x := ⟨_, rfl⟩
  obtain ⟨y, hy⟩ : ∃ y, mk t = y := ⟨_, rfl⟩
  obtain ⟨p, hp⟩ : ∃ p, mk q = p := ⟨_, rfl⟩
  obtain ⟨d, hd⟩ : ∃ d, mk k = d := ⟨_, rfl⟩
  rw [hx, hy] at HOF HRF ⊢
  rw [hp] at HCH HRC
  rw [hd] at HCD HRD
  clear hx hy hp hd hr hq hk hmt hff hff' hu hI hT hi
  have X0 := hide (HV.new (base := w.heap.size) w (Nat.le_refl _) x y o fs.length c)
  have B0 := hide ((Below.refl w.heap.size w).alloc (Nat.le_refl _) (.cells #[.string x, .string y, .slice o fs.length c] 24))
  obtain ⟨W0, hW0⟩ : ∃ W, w.alloc (.cells #[.string x, .string y, .slice o fs.length c] 24) = W := ⟨_, rfl⟩
  rw [hW0] at X0 B0
  obtain ⟨x0, x1, x2⟩ := (unhide X0).cells
  go_enter Tryd.func3, Tryd.ntmps3
  go_wp2_with fail
  clear hW0 x0 x1 x2
  refine ((unhide HOF) W0 (unhide B0)).mono ?_; rintro e1 w1 ⟨rfl, b1⟩
  have K2 := hide (BX.new (base := w1.heap.size) w1 (Nat.le_refl _) r1 r2)
  have bb2 := (Below.refl w1.heap.size w1).alloc (Nat.le_refl _) (.cells #[.int .i64 r1, .int .i64 r2] 27)
  have X2 := hide (((unhide X0).below b1).below bb2)
  have B2 := hide (bel_trans (unhide B0) (bel_trans b1 bb2))
  obtain ⟨g2, hg2⟩ : ∃ g, w1.heap.size = g := ⟨_, rfl⟩
  obtain ⟨W2, hW2⟩ : ∃ W, w1.alloc (.cells #[.int .i64 r1, .int .i64 r2] 27) = W := ⟨_, rfl⟩
  rw [hW2] at K2 X2 B2
  rw [hg2] at K2
  clear b1 bb2 X0 B0 HOF
  obtain ⟨x0, x1, x2⟩ := (unhide X2).cells
  go_wp2_with fail
  clear hW2 hg2 x0 x1 x2
  refine ((unhide HRF) W2 (unhide B2)).mono ?_; rintro e1 w3 ⟨rfl, b3⟩
  have K4 := hide (BX.new (base := w3.heap.size) w3 (Nat.le_refl _) r1 r2)
  have bb4 := (Below.refl w3.heap.size w3).alloc (Nat.le_refl _) (.cells #[.int .i64 r1, .int .i64 r2] 27)
  have K3 := hide (((unhide K2).below b3).below bb4)
  have B4 := hide (bel_trans (unhide B2) (bel_trans b3 bb4))
  obtain ⟨g4, hg4⟩ : ∃ g, w3.heap.size = g := ⟨_, rfl⟩
  obtain ⟨W4, hW4⟩ : ∃ W, w3.alloc (.cells #[.int .i64 r1, .int .i64 r2] 27) = W := ⟨_, rfl⟩
  rw [hW4] at K3 K4 B4
  rw [hg4] at K4
  clear b3 bb4 K2 X2 B2 HRF
  go_wp2_with fail
  clear hW4 hg4
  refine ((unhide HCH) W4).mono ?_; rintro e1 w5 ⟨rfl, b5⟩
  have B5 := hide (bel_trans (unhide B4) b5)
  have K5 := hide ((unhide K3).below b5)
  have L5 := hide ((unhide K4).below b5)
  clear b5 K3 K4 B4 HCH
  go_wp2_with fail
  refine ((unhide HRC) w5).mono ?_; rintro e1 w6 ⟨rfl, b6⟩
  have B6 := hide (bel_trans (unhide B5) b6)
  obtain ⟨k0, k1⟩ := ((unhide K5).below b6).cells
  obtain ⟨l0, l1⟩ := ((unhide L5).below b6).cells
  clear b6 K5 L5 B5 HRC
  go_wp2_with fail
  refine ((unhide HCD) w6 (unhide B6)).mono ?_; rintro e1 w7 ⟨rfl, b7⟩
  have B7 := hide (bel_trans (unhide B6) b7)
  clear b7 HCD k0 k1 l0 l1
  go_wp2_with fail
  refine ((unhide HRD) w7 (unhide B7)).mono ?_; rintro e1 w8 ⟨rfl, b8⟩
  go_wp2_with fail
  go_ret
  exact ⟨rfl, bel_trans (unhide B7) b8⟩
theorem walk (m t : List UInt8) (u : Value) (fs : List Fl) (s : ByteArray) (most : Int) (v : Value) (zs : List Int) (hb : s.size + zs.length ≤ 1048576) (hi : -9223372036854775808 ≤ most ∧ most ≤ 9223372036854775807) (w : World) (hu : Flds w u fs) (hz : m.length + t.length ≤ 1048576 ∧ fs.length ≤ 1048576 ∧ ∀ f ∈ fs, f.1.length + f.2.length ≤ 1048576) (hI : Ints w v zs) (hL : laidMetH Tryd.prog Rows.frameSaysUptoRow.laid w) :
    Calls Tryd.prog 3 #[headV m t u, .string s, .int .i64 most, v] w fun e w' => e = .returned (.bool true) ∧ Below w.heap.size w w' :=
  walk0 m t u fs s most v zs hb hi w hu hz hI (db_of (W := w) hL)
theorem own : ownKnob Tryd.prog.godebug = none := by kernel_rfl

theorem small_of {H : Type} {a0 : DataW H} {a1 : ByteArray} {a2 : Int} {a3 : DataW H} (hk : Rows.uptoSmall H ([a0, .lit (.string a1.data.toList), .lit (.int .i64 a2), a3] ++ []) = true) : Rows.uptoBulk a0 + a1.size + Rows.uptoBulk a3 ≤ 1048576 := by
  have h := of_decide_eq_true hk
  simp only [Rows.uptoBulkAll, Rows.uptoBulk, List.append_nil, Array.length_toList, ByteArray.size_data] at h
  omega

set_option maxRecDepth 100000 in
theorem contract (H : Type) (enc : TypeId × Value → H) (W : World) (base : Nat) (args : Array Value) (ds gs : List (DataW H)) (before : List MemPlace) (hsh : W.ShapedOpen Tryd.prog)
    (hval0 : ∀ (j : Nat) t v, Tryd.f3.params[j]? = some t → args[j]? = some v → Value.okWide Tryd.prog W .any base t v)
    (hW : DataW.Whole enc Tryd.prog Tryd.f3.params.toList Rows.frameSaysSpec.vars false W args.toList ds gs before) (hk : Rows.uptoSmall H (ds ++ gs) = true) (hL : laidMetH Tryd.prog Rows.frameSaysUptoRow.laid W) :
    Calls Tryd.prog 3 args W fun e W' => ∃ v, e = .returned v ∧ Rows.frameSaysSpec.post enc Tryd.prog Tryd.f3 false true false false W args v W' := by
  have hval : ∀ (j : Nat) t v, Tryd.f3.params[j]? = some t → args[j]? = some v → Value.okWide Tryd.prog W .any base t v := hval0
  have hW' := hW
  obtain ⟨p, q, hA0, hV, rfl, hfz, hnd⟩ := hW
  have hA : DataW.TrodAll enc Tryd.prog W 0 (fun _ => true) true Tryd.f3.params.toList args.toList ds p := hA0
  rw [Tryd.params3] at hA hval
  obtain ⟨v0, vs0, d0, ds0, p0, q0, hargs, rfl, rfl, h0, r0⟩ := trodAll_cons hA
  obtain ⟨v1, vs1, d1, ds1, p1, q1, rfl, rfl, rfl, h1, r1⟩ := trodAll_cons r0
  obtain ⟨v2, vs2, d2, ds2, p2, q2, rfl, rfl, rfl, h2, r2⟩ := trodAll_cons r1
  obtain ⟨v3, vs3, d3, ds3, p3, q3, rfl, rfl, rfl, h3, r3⟩ := trodAll_cons r2
  obtain ⟨rfl, rfl, rfl⟩ := trodAll_nil r3
  obtain rfl : args = #[v0, v1, v2, v3] := by cases args; simp_all
  obtain ⟨rfl, rfl⟩ := trodVars_none hV
  obtain ⟨a1, rfl, rfl, rfl, w1⟩ := open_string Tryd.underlying9 (hval 1 9 v1 rfl rfl) h1
  obtain ⟨a2, rfl, rfl, rfl, w2⟩ := open_int Tryd.underlying3 (hval 2 3 v2 rfl rfl) h2
  have hsm := small_of hk
  obtain ⟨m0, t0, u0, f0, rfl, hI0, hz0, hlt0⟩ := open_head_in (hval 0 24 v0 rfl rfl) h0 (by omega)
  obtain ⟨z3, hI3, hz3, hlt3⟩ := open_ints_in (hval 3 25 v3 rfl rfl) h3 (by omega)
  clear hA0 hval0
  have hi2 : -9223372036854775808 ≤ a2 ∧ a2 ≤ 9223372036854775807 := by simpa [Lit.wf, IntKind.min, IntKind.max, IntKind.signed, IntKind.bits] using w2
  refine (walk m0 t0 u0 f0 a1 a2 v3 z3 (by omega) hi2 W hI0 hz0 hI3 hL).mono fun e W' ⟨he, hb⟩ => ?_
  subst he
  exact ⟨_, rfl, _, _, _, [], (p0 ++ ([] ++ ([] ++ (p3 ++ [])))), [], hW', (trodAll_cons_mk (shut_bool Tryd.underlying4 _) trodAll_mk0), (trodAll_cons_mk (Below.trod laidOutAll (by kernel_rfl) (of_decide_eq_true (by kernel_rfl)) h0 hb hlt0) (trodAll_cons_mk (shut_string Tryd.underlying9 w1) (trodAll_cons_mk (shut_int Tryd.underlying3 w2) (trodAll_cons_mk (Below.trod laidOutAll (by kernel_rfl) (of_decide_eq_true (by kernel_rfl)) h3 hb hlt3) trodAll_mk0)))), rfl, hb.frame _, fun h => by cases h⟩

theorem reads (os : Os) {H : Type} (enc : TypeId × Value → H) : ∃ places, DataW.whole enc Tryd.prog ((laidIn (World.holding Tryd.prog os ⟨#[], #[], []⟩)).forCall (fun _ _ => 0) ⟨#[], #[.agg #[.string ByteArray.empty, .string ByteArray.empty, .slice none 0 0], .string ByteArray.empty, .int .i64 0, .slice none 0 0], []⟩).memory Tryd.f3.params.toList Rows.frameSaysSpec.vars false (#[.agg #[.string ByteArray.empty, .string ByteArray.empty, .slice none 0 0], .string ByteArray.empty, .int .i64 0, .slice none 0 0] : Array Value).toList 8 = some ([.agg [.lit (.string []), .lit (.string []), .nil], .lit (.string []), .lit (.int .i64 0), .nil], [], places) :=
  ⟨[], by kernel_rfl⟩
theorem laid_met (os : Os) : laidMet Tryd.prog Rows.frameSaysUptoRow.laid ((laidIn (World.holding Tryd.prog os ⟨#[], #[], []⟩)).forCall (fun _ _ => 0) ⟨#[], #[.agg #[.string ByteArray.empty, .string ByteArray.empty, .slice none 0 0], .string ByteArray.empty, .int .i64 0, .slice none 0 0], []⟩).memory :=
  laidMet_of_run' 8 (by kernel_rfl) (by kernel_rfl)

set_option maxRecDepth 100000 in
theorem lifted (os : Os) (started : os.Started) (H : Type) (enc : TypeId × Value → H) (F : Stop.Interp) :
    ReturnsInHanded {} Tryd.checked os 3 .any ((Rows.OpenSpec.upto Rows.frameSaysSpec).preRow enc Tryd.prog Tryd.f3 Rows.frameSaysUptoRow.domain false Rows.frameSaysUptoRow.laid) (((Rows.OpenSpec.upto Rows.frameSaysSpec).at F).post enc Tryd.prog Tryd.f3 false true false false) := by
  obtain ⟨places, hx⟩ := reads os enc
  refine returnsInHanded_of_row (C := Tryd.checked) (s := Rows.OpenSpec.upto Rows.frameSaysSpec) own started (by kernel_rfl) Tryd.func3
    (witness_row_at (enc := enc) (C := Tryd.checked) false (laidIn (World.holding Tryd.prog os ⟨#[], #[], []⟩)) #[.agg #[.string ByteArray.empty, .string ByteArray.empty, .slice none 0 0], .string ByteArray.empty, .int .i64 0, .slice none 0 0] rfl (by kernel_rfl) (by kernel_rfl) (by kernel_rfl)
      (OpenSpec.preRow_of_cond 8 hx (by kernel_rfl) (fun k hk => by cases hk; kernel_rfl) (by kernel_rfl) (laid_met os))) ?_
  intro W base args ds gs before hval hW _ hcond _ hL hsh _
  exact contract H enc W base args ds gs before hsh hval hW (hcond _ rfl) hL

theorem row : Rows.FrameSaysUptoSaid :=
  OpenClaim.holds_of_cond 3 Tryd.f3 rfl rfl rfl rfl rfl rfl rfl ⟨rfl, rfl, rfl, rfl, rfl⟩ rfl rfl rfl rfl rfl (by kernel_rfl) Tryd.func3 (by kernel_rfl)
    (of_decide_eq_true (by kernel_rfl)) (by unfold Func.isWrapper; first | (rw [if_pos (by decide +kernel)]; kernel_rfl) | (rw [if_neg (by decide +kernel)]; exact ⟨rfl, rfl⟩))
    (fun os started H enc _ F => by rw [OpenClaim.pre_eq_preRow]; exact lifted os started H enc F)

theorem plain (f : FuncId) (fn : Func) (hf : Tryd.pinned.checked.prog.funcNamed "gatewicket/wicklaw.FrameSays" = some f) (hfn : Tryd.pinned.checked.prog.funcs[f]? = some fn) :
    false = Tryd.pinned.checked.prog.looks [] ∧ ∀ (j : Nat) t, fn.params[j]? = some t → Tryd.pinned.checked.prog.wantsStandIn t = false := by
  obtain rfl : f = 3 := Option.some.inj ((show Tryd.prog.funcNamed "gatewicket/wicklaw.FrameSays" = some 3 by kernel_rfl).symm.trans hf) |>.symm
  obtain rfl : fn = Tryd.f3 := (Option.some.inj (Tryd.func3.symm.trans hfn)).symm
  refine ⟨by kernel_rfl, fun j t ht => ?_⟩
  rw [Tryd.params3] at ht
  have hm : t = 24 ∨ t = 9 ∨ t = 3 ∨ t = 25 := by simpa using Array.mem_of_getElem? ht
  rcases hm with rfl | rfl | rfl | rfl
  · exact (show Tryd.prog.wantsStandIn 24 = false by kernel_rfl)
  · exact (show Tryd.prog.wantsStandIn 9 = false by kernel_rfl)
  · exact (show Tryd.prog.wantsStandIn 3 = false by kernel_rfl)
  · exact (show Tryd.prog.wantsStandIn 25 = false by kernel_rfl)

theorem over : Rows.FrameSaysUptoCardSaid :=
  Claim7.holds_tied_plain_at .later [] _ _ _ _ row (fun _ h => by cases h) (by kernel_rfl) (fun _ h => by cases h) frameSaysUpto_row_tie rfl ⟨rfl, rfl⟩ (by kernel_rfl) rfl plain (by kernel_rfl)
end Go.Proofs.YtgmpgacedmjgdaaDoor.frameSays
namespace Go.Proofs.YtgmpgacedmjgdaaDoor
theorem frameSays_holds : Rows.FrameSaysUptoCardSaid := frameSays.over
#print axioms frameSays_holds
end Go.Proofs.YtgmpgacedmjgdaaDoor
