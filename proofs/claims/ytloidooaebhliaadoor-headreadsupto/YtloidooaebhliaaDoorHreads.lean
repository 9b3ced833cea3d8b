/- Parse of heads answers what the document says: whatever is handed in.
   Conditions: what is handed in is of bulk at most 1048576; the library's tables are as the program's text lays them, and its own variable MaxLen holds whatever number. -/
import Derived.Test.YtloidooaebhliaaDoorRows
import Derived.Test.YtloidooaebhliaaDoorTie
import Derived.Test.YtloidooaebhliaaDoorCards
import Derived.WalkKit
import Derived.ProofKit
import Derived.OpenShut
import Derived.ShutString
import Derived.JoinedCond
import Derived.Test.YtloidooaebhliaaDoorMo
import Derived.Test.YtloidooaebhliaaDoorLaid
import Derived.Stop.LaidErr
namespace Go.Proofs.YtloidooaebhliaaDoor.headReads
open Go.ChangeShapes Go.WideShapes Go.ChangeAt Go.RowKit
open Go.ChangeMaps (open_string shut_string)
open Kb
open Mh (Fl)
set_option linter.unusedVariables false
set_option maxRecDepth 20000

set_option maxHeartbeats 8000000 in
theorem walk_m (s : ByteArray) (k : Int) (hb : s.size ≤ 1048576) (w : World) (hm : MH k w) :
    Calls Tryd.prog 5 #[.string s] w fun e w' => e = .returned (.bool true) ∧ Below w.heap.size w w' := by
  obtain ⟨⟨m, t, fs, z⟩, hp⟩ : ∃ q, Mh.parse s.data.toList = q := ⟨_, rfl⟩
  have HP1 := hide (hparse_any s k w hb hm m t fs z hp)
  have HP2 := hide (fun W => rread_any s W hb m t fs z hp)
  have hfl : Hid (fs.length ≤ 1048576) := hide (by
    rcases Mh.parse_cases s.data.toList with ⟨e, he, _⟩ | ⟨m', t', fs', he⟩
    · rw [hp] at he; injection he with e1 e2; injection e2 with e2 e3; injection e3 with e3 e4; rw [e3]; simp
    · have hrd := (Mh.parse_ok (hp.trans (by rw [hp] at he; injection he with e1 e2; injection e2 with e2 e3; injection e3 with e3 e4; rw [e4]))).2.1
      have := (Mh.read_bounds hrd).2.2.1
      rw [len_data] at this; omega)
  have HSM := hide (fun W u v (h1 : Flds W u fs) (h2 : Flds W v fs) => same_any m t u v fs W h1 h2)
  unfold headV at HSM
  obtain ⟨x, hx⟩ : ∃ x, mk m = x := ⟨_, rfl⟩
  obtain ⟨y, hy⟩ : ∃ y, mk t = y := ⟨_, rfl⟩
  rw [hx, hy] at HP1 HP2 HSM
  clear hx hy hp hm
  go_enter Tryd.func5, Tryd.ntmps5
  go_wp2_with fail
  refine (unhide HP1).mono ?_; rintro e w1 ⟨v, rfl, own1, b1⟩
  obtain ⟨vo, vc, rfl⟩ := own_forms own1
  have bb := (Below.refl w1.heap.size w1).alloc (Nat.le_refl _) (.cells #[.string x, .string y, .slice vo fs.length vc] 31)
  have Y := HX.new (base := w1.heap.size) w1 (Nat.le_refl _) x y vo fs.length vc
  have O1 := hide (own_below own1 bb)
  have B1 := hide (bel_trans b1 bb)
  obtain ⟨g1, hg1⟩ : ∃ g, w1.heap.size = g := ⟨_, rfl⟩
  obtain ⟨W1, hW1⟩ : ∃ W, w1.alloc (.cells #[.string x, .string y, .slice vo fs.length vc] 31) = W := ⟨_, rfl⟩
  rw [hW1] at Y O1 B1
  rw [hg1] at Y
  have Y1 := hide Y
  clear bb Y own1 b1 HP1
  go_wp2_with fail
  clear hW1 hg1
  refine ((unhide HP2) W1).mono ?_; rintro e w2 ⟨v2, rfl, own2, b2⟩
  obtain ⟨vo2, vc2, rfl⟩ := own_forms own2
  have bb := (Below.refl w2.heap.size w2).alloc (Nat.le_refl _) (.cells #[.string x, .string y, .slice vo2 fs.length vc2] 31)
  have Y := HX.new (base := w2.heap.size) w2 (Nat.le_refl _) x y vo2 fs.length vc2
  have O2 := hide (own_below own2 bb)
  have O12 := hide (own_below (own_below (unhide O1) b2) bb)
  have B2 := hide (bel_trans (bel_trans (unhide B1) b2) bb)
  have Y12 := hide (((unhide Y1).below b2).below bb)
  obtain ⟨g2, hg2⟩ : ∃ g, w2.heap.size = g := ⟨_, rfl⟩
  obtain ⟨W2, hW2⟩ : ∃ W, w2.alloc (.cells #[.string x, .string y, .slice vo2 fs.length vc2] 31) = W := ⟨_, rfl⟩
  rw [hW2] at Y O2 O12 B2 Y12
  rw [hg2] at Y
  obtain ⟨a0, a1, a2⟩ := Y.cells
  have hl2 := Y.lt.2
  obtain ⟨c0, c1, c2⟩ := (unhide Y12).cells
  have hl1 := (unhide Y12).lt.2
  have HS := hide ((unhide HSM) W2 _ _ (Flds.own (unhide O12) (by have := unhide hfl; omega)) (Flds.own (unhide O2) (by have := unhide hfl; omega)))
  clear bb Y own2 b2 HP2 HSM O1 O2 O12 Y1 B1
  go_wp2_with fail
  clear hW2 hg2
  refine (unhide HS).mono ?_; rintro e w3 ⟨rfl, b3⟩
  go_wp2_with fail
  go_ret
  exact ⟨by first | rfl | simp, bel_trans (unhide B2) b3⟩
theorem walk (s : ByteArray) (hb : s.size ≤ 1048576) (w : World) (hsh : w.ShapedOpen Tryd.prog) (hL : laidMetH Tryd.prog Rows.headReadsUptoRow.laid w) :
    Calls Tryd.prog 5 #[.string s] w fun e w' => e = .returned (.bool true) ∧ Below w.heap.size w w' := by
  obtain ⟨k, hk⟩ := Tryd.laysM145.s1_3 w hsh
  exact walk_m s k hb w hk
theorem own : ownKnob Tryd.prog.godebug = none := by kernel_rfl

theorem small_of {H : Type} {a0 : ByteArray} (hk : Rows.uptoSmall H ([.lit (.string a0.data.toList)] ++ []) = true) : a0.size ≤ 1048576 := by
  have h := of_decide_eq_true hk
  simp only [Rows.uptoBulkAll, Rows.uptoBulk, List.append_nil, Array.length_toList, ByteArray.size_data] at h
  omega

theorem contract (H : Type) (enc : TypeId × Value → H) (W : World) (base : Nat) (args : Array Value) (ds gs : List (DataW H)) (before : List MemPlace) (hsh : W.ShapedOpen Tryd.prog)
    (hval0 : ∀ (j : Nat) t v, Tryd.f5.params[j]? = some t → args[j]? = some v → Value.okWide Tryd.prog W .any base t v)
    (hW : DataW.Whole enc Tryd.prog Tryd.f5.params.toList Rows.headReadsSpec.vars false W args.toList ds gs before) (hk : Rows.uptoSmall H (ds ++ gs) = true) (hL : laidMetH Tryd.prog Rows.headReadsUptoRow.laid W) :
    Calls Tryd.prog 5 args W fun e W' => ∃ v, e = .returned v ∧ Rows.headReadsSpec.post enc Tryd.prog Tryd.f5 false true false false W args v W' := by
  have hval : ∀ (j : Nat) t v, Tryd.f5.params[j]? = some t → args[j]? = some v → Value.okWide Tryd.prog W .any base t v := hval0
  have hW' := hW
  obtain ⟨p, q, hA0, hV, rfl, hfz, hnd⟩ := hW
  have hA : DataW.TrodAll enc Tryd.prog W 0 (fun _ => true) true Tryd.f5.params.toList args.toList ds p := hA0
  rw [Tryd.params5] at hA hval
  obtain ⟨v0, vs0, d0, ds0, p0, q0, hargs, rfl, rfl, h0, r0⟩ := trodAll_cons hA
  obtain ⟨rfl, rfl, rfl⟩ := trodAll_nil r0
  obtain rfl : args = #[v0] := by cases args; simp_all
  obtain ⟨rfl, rfl⟩ := trodVars_none hV
  obtain ⟨a0, rfl, rfl, rfl, w0⟩ := open_string Tryd.underlying9 (hval 0 9 v0 rfl rfl) h0
  clear hA0 hval0
  simp only [List.append_nil] at hW'
  refine (walk a0 (small_of hk) W hsh hL).mono fun e W' ⟨he, hb⟩ => ?_
  subst he
  exact ⟨_, rfl, _, _, _, [], [], [], hW', (trodAll_cons_mk (shut_bool Tryd.underlying4 _) trodAll_mk0), (trodAll_cons_mk (shut_string Tryd.underlying9 w0) trodAll_mk0), rfl, hb.frame _, fun h => by cases h⟩

theorem reads (os : Os) {H : Type} (enc : TypeId × Value → H) : ∃ places, DataW.whole enc Tryd.prog ((laidIn (World.holding Tryd.prog os ⟨#[], #[], []⟩)).forCall (fun _ _ => 0) ⟨#[], #[.string ByteArray.empty], []⟩).memory Tryd.f5.params.toList Rows.headReadsSpec.vars false (#[.string ByteArray.empty] : Array Value).toList 8 = some ([.lit (.string [])], [], places) :=
  ⟨[], by kernel_rfl⟩
theorem laid_met (os : Os) : laidMet Tryd.prog Rows.headReadsUptoRow.laid ((laidIn (World.holding Tryd.prog os ⟨#[], #[], []⟩)).forCall (fun _ _ => 0) ⟨#[], #[.string ByteArray.empty], []⟩).memory :=
  laidMet_of_run' 8 (by kernel_rfl) (by kernel_rfl)

set_option maxRecDepth 100000 in
theorem lifted (os : Os) (started : os.Started) (H : Type) (enc : TypeId × Value → H) (F : Stop.Interp) :
    ReturnsInHanded {} Tryd.checked os 5 .any ((Rows.OpenSpec.upto Rows.headReadsSpec).preRow enc Tryd.prog Tryd.f5 Rows.headReadsUptoRow.domain false Rows.headReadsUptoRow.laid) (((Rows.OpenSpec.upto Rows.headReadsSpec).at F).post enc Tryd.prog Tryd.f5 false true false false) := by
  obtain ⟨places, hx⟩ := reads os enc
  refine returnsInHanded_of_row (C := Tryd.checked) (s := Rows.OpenSpec.upto Rows.headReadsSpec) own started (by kernel_rfl) Tryd.func5
    (witness_row_at (enc := enc) (C := Tryd.checked) false (laidIn (World.holding Tryd.prog os ⟨#[], #[], []⟩)) #[.string ByteArray.empty] rfl (by kernel_rfl) (by kernel_rfl) (by kernel_rfl)
      (OpenSpec.preRow_of_cond 8 hx (by kernel_rfl) (fun k hk => by cases hk; kernel_rfl) (by kernel_rfl) (laid_met os))) ?_
  intro W base args ds gs before hval hW _ hcond _ hL hsh _
  exact contract H enc W base args ds gs before hsh hval hW (hcond _ rfl) hL

theorem row : Rows.HeadReadsUptoSaid :=
  OpenClaim.holds_of_cond 5 Tryd.f5 rfl rfl rfl rfl rfl rfl rfl ⟨rfl, rfl, rfl, rfl, rfl⟩ rfl rfl rfl rfl rfl (by kernel_rfl) Tryd.func5 (by kernel_rfl)
    (of_decide_eq_true (by kernel_rfl)) (by unfold Func.isWrapper; first | (rw [if_pos (by decide +kernel)]; kernel_rfl) | (rw [if_neg (by decide +kernel)]; exact ⟨rfl, rfl⟩))
    (fun os started H enc _ F => by rw [OpenClaim.pre_eq_preRow]; exact lifted os started H enc F)

theorem plain (f : FuncId) (fn : Func) (hf : Tryd.pinned.checked.prog.funcNamed "gatewicket/wicklaw.HeadReads" = some f) (hfn : Tryd.pinned.checked.prog.funcs[f]? = some fn) :
    false = Tryd.pinned.checked.prog.looks [] ∧ ∀ (j : Nat) t, fn.params[j]? = some t → Tryd.pinned.checked.prog.wantsStandIn t = false := by
  obtain rfl : f = 5 := Option.some.inj ((show Tryd.prog.funcNamed "gatewicket/wicklaw.HeadReads" = some 5 by kernel_rfl).symm.trans hf) |>.symm
  obtain rfl : fn = Tryd.f5 := (Option.some.inj (Tryd.func5.symm.trans hfn)).symm
  refine ⟨by kernel_rfl, fun j t ht => ?_⟩
  rw [Tryd.params5] at ht
  have hm : t = 9 := by simpa using Array.mem_of_getElem? ht
  subst hm
  exact (show Tryd.prog.wantsStandIn 9 = false by kernel_rfl)

theorem over : Rows.HeadReadsUptoCardSaid :=
  Claim7.holds_tied_plain_at .later [] _ _ _ _ row (fun _ h => by cases h) (by kernel_rfl) (fun _ h => by cases h) headReadsUpto_row_tie rfl ⟨rfl, rfl⟩ (by kernel_rfl) rfl plain (by kernel_rfl)
end Go.Proofs.YtloidooaebhliaaDoor.headReads
namespace Go.Proofs.YtloidooaebhliaaDoor
theorem headReads_holds : Rows.HeadReadsUptoCardSaid := headReads.over
#print axioms headReads_holds
end Go.Proofs.YtloidooaebhliaaDoor
