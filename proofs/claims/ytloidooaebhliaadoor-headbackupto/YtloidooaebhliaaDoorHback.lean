/- What is printed is read as it was, if it is not too long: whatever is handed in.
   Conditions: what is handed in is of bulk at most 1048576; the library's tables are as the program's text lays them, and its own variable MaxLen holds whatever number. -/
import Derived.Test.YtloidooaebhliaaDoorRows
import Derived.Test.YtloidooaebhliaaDoorTie
import Derived.Test.YtloidooaebhliaaDoorCards
import Derived.WalkKit
import Derived.ProofKit
import Derived.OpenShut
import Derived.ShutString
import Derived.JoinedCond
import Derived.Test.YtloidooaebhliaaDoorMm
import Derived.Test.YtloidooaebhliaaDoorLaid
import Derived.Stop.LaidErr
namespace Go.Proofs.YtloidooaebhliaaDoor.headBack
open Go.ChangeShapes Go.WideShapes Go.ChangeAt Go.RowKit
open Go.ChangeMaps (open_string shut_string)
open Kb
open Mh (Fl)
set_option linter.unusedVariables false
set_option maxRecDepth 20000

theorem get_text : Mh.text [71, 69, 84] [47] [] = [71, 69, 84, 32, 47, 32, 72, 84, 84, 80, 47, 49, 46, 49, 13, 10, 13, 10] := by
  unfold Mh.text Mh.lines
  rw [List.map_nil, Lib.join_one]
  rfl
set_option maxHeartbeats 8000000 in
theorem walk_m (m t : List UInt8) (u : Value) (fs : List Fl) (k : Int) (w : World) (hu : Flds w u fs) (hz : m.length + t.length ≤ 1048576 ∧ fs.length ≤ 1048576 ∧ ∀ f ∈ fs, f.1.length + f.2.length ≤ 1048576) (hm : MH k w) :
    Calls Tryd.prog 7 #[headV m t u] w fun e w' => e = .returned (.bool true) ∧ Below w.heap.size w w' := by
  obtain ⟨hmt, hfl, hff⟩ := hz
  have hff' : ∀ f ∈ fs, f.1.length + f.2.length ≤ 68719476736 := fun f hf => by have := hff f hf; omega
  have HG := hide (fun W => hprint_ok [71, 69, 84] [47] (.slice none 0 0) [] W (Flds.nil W) (by decide))
  unfold headV at HG
  rw [get_text] at HG
  obtain ⟨q0, hq0⟩ : ∃ q, mk [71, 69, 84, 32, 47, 32, 72, 84, 84, 80, 47, 49, 46, 49, 13, 10, 13, 10] = q := ⟨_, rfl⟩
  have hqb : (q0.toList == [71, 69, 84, 32, 47, 32, 72, 84, 84, 80, 47, 49, 46, 49, 13, 10, 13, 10]) = true := by rw [← hq0, Lib.toList_data]; rfl
  rw [hq0] at HG
  clear hq0
  have HG' : Hid (∀ W, Calls Tryd.prog 12 #[.agg #[.string ⟨#[71, 69, 84]⟩, .string ⟨#[47]⟩, .slice none 0 0]] W fun e w' => e = .returned (.tuple #[.string q0, .int .i64 0]) ∧ Below W.heap.size W w') := hide (unhide HG)
  have HPC := hide (fun W (h : Below w.heap.size w W) => hcheck_any m t u fs W (hu.below h) (by omega) hff')
  have HP1 := hide (fun (h0 : Mh.check m t fs = 0) W (h : Below w.heap.size w W) => hprint_ok m t u fs W (hu.below h) h0)
  have HP2 := hide (fun (h0 : Mh.check m t fs ≠ 0) W (h : Below w.heap.size w W) => hprint_bad m t u fs _ W (hu.below h) (by omega) hff' rfl h0)
  have HTL := hide (fun (h0 : Mh.check m t fs = 0) => Mh.text_len h0)
  have HPA := hide (fun (h0 : Mh.check m t fs = 0) => Mh.parse_text h0)
  have HPR := hide (fun (h0 : Mh.check m t fs = 0) W (h : Below w.heap.size w W) => hparse_any (mk (Mh.text m t fs)) k W (by rw [mk_size]; have := Mh.text_len h0; omega) (hm.below h))
  have HSM := hide (fun W (h : Below w.heap.size w W) v (hv : Flds W v fs) => same_any m t u v fs W (hu.below h) hv)
  rw [mk_toList] at HPR
  obtain ⟨q, hq⟩ : ∃ q, mk (Mh.text m t fs) = q := ⟨_, rfl⟩
  have hqs : q.size = (Mh.text m t fs).length := by rw [← hq, mk_size]
  obtain ⟨z, hzz⟩ : ∃ z, Mh.check m t fs = z := ⟨_, rfl⟩
  rw [hq] at HP1 HPR
  rw [hzz] at HPC HP1 HP2 HTL HPA HPR
  rw [← hqs] at HTL HPA
  clear HG hq hqs hzz hff hff' hmt hm
  unfold headV at HPC HP1 HP2 HSM ⊢
  obtain ⟨o, c, rfl, hc⟩ := hu.form
  have hroom := hu.room
  have X0 := hide (HX.new (base := w.heap.size) w (Nat.le_refl _) (mk m) (mk t) o fs.length c)
  have HMT : Hid (∃ x y, mk m = x ∧ mk t = y) := hide ⟨_, _, rfl, rfl⟩
  have B0 := hide ((Below.refl w.heap.size w).alloc (Nat.le_refl _) (.cells #[.string (mk m), .string (mk t), .slice o fs.length c] 31))
  obtain ⟨x, hx⟩ : ∃ x, mk m = x := ⟨_, rfl⟩
  obtain ⟨y, hy⟩ : ∃ y, mk t = y := ⟨_, rfl⟩
  have HXY := hide (And.intro hx hy)
  rw [hx, hy] at HPC HP1 HP2 HSM X0 B0 ⊢
  clear hx hy hu HMT
  obtain ⟨W0, hW0⟩ : ∃ W0, w.alloc (.cells #[.string x, .string y, .slice o fs.length c] 31) = W0 := ⟨_, rfl⟩
  rw [hW0] at X0 B0
  obtain ⟨a0, a1, a2⟩ := (unhide X0).cells
  have hlx := (unhide X0).lt.2
  go_enter Tryd.func7, Tryd.ntmps7
  go_wp2_with fail
  clear hW0
  refine ((unhide HG') W0).mono ?_; rintro e w1 ⟨rfl, b1⟩
  have B1 := hide (bel_trans (unhide B0) b1)
  have X1 := hide ((unhide X0).below b1)
  clear b1 B0 X0 a0 a1 a2 hlx HG'
  obtain ⟨a0, a1, a2⟩ := (unhide X1).cells
  have hlx := (unhide X1).lt.2
  have HE : Hid (z ≠ 0 ∨ z = 0) := hide (by omega)
  rcases unhide HE with h0 | h0
  · have HP := hide ((unhide HP2) h0)
    have hzn : (z != 0) = true := by simpa using h0
    have he : ((⟨#[]⟩ : ByteArray).toList.isEmpty) = true := by rw [Lib.toList_data]; rfl
    clear HP1 HP2 HTL HPA HPR HE h0
    go_wp2_with fail
    refine ((unhide HP) w1 (unhide B1)).mono ?_; rintro e w2 ⟨rfl, b2⟩
    have B2 := hide (bel_trans (unhide B1) b2)
    have X2 := hide ((unhide X1).below b2)
    clear b2 B1 X1 a0 a1 a2 hlx HP
    obtain ⟨a0, a1, a2⟩ := (unhide X2).cells
    have hlx := (unhide X2).lt.2
    go_wp2_with fail
    refine ((unhide HPC) w2 (unhide B2)).mono ?_; rintro e w3 ⟨rfl, b3⟩
    go_wp2_with fail
    go_ret
    exact ⟨rfl, bel_trans (unhide B2) b3⟩
  · subst h0
    have HP := hide ((unhide HP1) rfl)
    have htl := (unhide HTL) rfl
    have hpa := (unhide HPA) rfl
    have HPR' := hide ((unhide HPR) rfl)
    clear HP1 HP2 HTL HPA HPR HPC HE
    go_wp2_with fail
    refine ((unhide HP) w1 (unhide B1)).mono ?_; rintro e w2 ⟨rfl, b2⟩
    have B2 := hide (bel_trans (unhide B1) b2)
    have X2 := hide ((unhide X1).below b2)
    clear b2 B1 X1 a0 a1 a2 hlx HP
    by_cases hbig : 4096 < q.size
    · rw [if_pos hbig] at hpa
      have HQ := hide ((unhide HPR') w2 (unhide B2) _ _ _ _ hpa)
      have hbig' : (4096 : Int) < q.size := by omega
      obtain ⟨e1, he1⟩ : ∃ e, mk [] = e := ⟨_, rfl⟩
      rw [he1] at HQ
      clear he1 hpa HPR'
      go_wp2_with fail
      refine (unhide HQ).mono ?_; rintro e w3 ⟨v, rfl, own3, b3⟩
      obtain ⟨vo, vc, rfl⟩ := own_forms own3
      have B3 := hide (bel_trans (unhide B2) b3)
      clear own3 b3
      go_wp2_with fail
      go_ret
      exact ⟨rfl, by first | exact unhide B3 | exact (unhide B3).alloc (unhide B3).size _ | exact ((unhide B3).alloc (unhide B3).size _).alloc (by simp) _⟩
    · rw [if_neg hbig] at hpa
      have HQ := hide ((unhide HPR') w2 (unhide B2) _ _ _ _ hpa)
      have hbig' : ¬ (4096 : Int) < q.size := by omega
      rw [(unhide HXY).1, (unhide HXY).2] at HQ
      clear hpa HPR'
      go_wp2_with fail
      refine (unhide HQ).mono ?_; rintro e w3 ⟨v, rfl, own3, b3⟩
      obtain ⟨vo, vc, rfl⟩ := own_forms own3
      have bb := (Below.refl w3.heap.size w3).alloc (Nat.le_refl _) (.cells #[.string x, .string y, .slice vo fs.length vc] 31)
      have Y := HX.new (base := w3.heap.size) w3 (Nat.le_refl _) x y vo fs.length vc
      have B4 := hide (bel_trans (bel_trans (unhide B2) b3) bb)
      have X4 := hide (((unhide X2).below b3).below bb)
      have F4 := hide (Flds.own (own_below own3 bb) (by omega))
      obtain ⟨g4, hg4⟩ : ∃ g, w3.heap.size = g := ⟨_, rfl⟩
      obtain ⟨W4, hW4⟩ : ∃ W, w3.alloc (.cells #[.string x, .string y, .slice vo fs.length vc] 31) = W := ⟨_, rfl⟩
      rw [hW4] at Y B4 X4 F4
      rw [hg4] at Y
      obtain ⟨b0, b1, b2⟩ := Y.cells
      have hl4 := Y.lt.2
      obtain ⟨a0, a1, a2⟩ := (unhide X4).cells
      have hlx := (unhide X4).lt.2
      clear bb Y B2 X2 own3 b3 HQ
      have HS := hide ((unhide HSM) W4 (unhide B4) _ (unhide F4))
      clear HSM
      go_wp2_with fail
      clear hW4 hg4
      refine (unhide HS).mono ?_; rintro e w5 ⟨rfl, b5⟩
      go_wp2_with fail
      go_ret
      exact ⟨rfl, bel_trans (unhide B4) b5⟩
theorem walk (m t : List UInt8) (u : Value) (fs : List Fl) (hb : 0 ≤ 1048576) (w : World) (hu : Flds w u fs) (hz : m.length + t.length ≤ 1048576 ∧ fs.length ≤ 1048576 ∧ ∀ f ∈ fs, f.1.length + f.2.length ≤ 1048576) (hsh : w.ShapedOpen Tryd.prog) (hL : laidMetH Tryd.prog Rows.headBackUptoRow.laid w) :
    Calls Tryd.prog 7 #[headV m t u] w fun e w' => e = .returned (.bool true) ∧ Below w.heap.size w w' := by
  obtain ⟨k, hk⟩ := Tryd.laysM145.s1_3 w hsh
  exact walk_m m t u fs k w hu hz hk
theorem own : ownKnob Tryd.prog.godebug = none := by kernel_rfl

theorem small_of {H : Type} {a0 : DataW H} (hk : Rows.uptoSmall H ([a0] ++ []) = true) : Rows.uptoBulk a0 ≤ 1048576 := by
  have h := of_decide_eq_true hk
  simp only [Rows.uptoBulkAll, List.append_nil] at h
  omega

set_option maxRecDepth 100000 in
theorem contract (H : Type) (enc : TypeId × Value → H) (W : World) (base : Nat) (args : Array Value) (ds gs : List (DataW H)) (before : List MemPlace) (hsh : W.ShapedOpen Tryd.prog)
    (hval0 : ∀ (j : Nat) t v, Tryd.f7.params[j]? = some t → args[j]? = some v → Value.okWide Tryd.prog W .any base t v)
    (hW : DataW.Whole enc Tryd.prog Tryd.f7.params.toList Rows.headBackSpec.vars false W args.toList ds gs before) (hk : Rows.uptoSmall H (ds ++ gs) = true) (hL : laidMetH Tryd.prog Rows.headBackUptoRow.laid W) :
    Calls Tryd.prog 7 args W fun e W' => ∃ v, e = .returned v ∧ Rows.headBackSpec.post enc Tryd.prog Tryd.f7 false true false false W args v W' := by
  have hval : ∀ (j : Nat) t v, Tryd.f7.params[j]? = some t → args[j]? = some v → Value.okWide Tryd.prog W .any base t v := hval0
  have hW' := hW
  obtain ⟨p, q, hA0, hV, rfl, hfz, hnd⟩ := hW
  have hA : DataW.TrodAll enc Tryd.prog W 0 (fun _ => true) true Tryd.f7.params.toList args.toList ds p := hA0
  rw [Tryd.params7] at hA hval
  obtain ⟨v0, vs0, d0, ds0, p0, q0, hargs, rfl, rfl, h0, r0⟩ := trodAll_cons hA
  obtain ⟨rfl, rfl, rfl⟩ := trodAll_nil r0
  obtain rfl : args = #[v0] := by cases args; simp_all
  obtain ⟨rfl, rfl⟩ := trodVars_none hV
  have hsm := small_of hk
  obtain ⟨m0, t0, u0, f0, rfl, hI0, hz0, hlt0⟩ := open_head_in (hval 0 31 v0 rfl rfl) h0 (by omega)
  clear hA0 hval0
  refine (walk m0 t0 u0 f0 (by omega) W hI0 hz0 hsh hL).mono fun e W' ⟨he, hb⟩ => ?_
  subst he
  exact ⟨_, rfl, _, _, _, [], (p0 ++ []), [], hW', (trodAll_cons_mk (shut_bool Tryd.underlying4 _) trodAll_mk0), (trodAll_cons_mk (Below.trod laidOutAll (by kernel_rfl) (of_decide_eq_true (by kernel_rfl)) h0 hb hlt0) trodAll_mk0), rfl, hb.frame _, fun h => by cases h⟩

theorem reads (os : Os) {H : Type} (enc : TypeId × Value → H) : ∃ places, DataW.whole enc Tryd.prog ((laidIn (World.holding Tryd.prog os ⟨#[], #[], []⟩)).forCall (fun _ _ => 0) ⟨#[], #[.agg #[.string ByteArray.empty, .string ByteArray.empty, .slice none 0 0]], []⟩).memory Tryd.f7.params.toList Rows.headBackSpec.vars false (#[.agg #[.string ByteArray.empty, .string ByteArray.empty, .slice none 0 0]] : Array Value).toList 8 = some ([.agg [.lit (.string []), .lit (.string []), .nil]], [], places) :=
  ⟨[], by kernel_rfl⟩
theorem laid_met (os : Os) : laidMet Tryd.prog Rows.headBackUptoRow.laid ((laidIn (World.holding Tryd.prog os ⟨#[], #[], []⟩)).forCall (fun _ _ => 0) ⟨#[], #[.agg #[.string ByteArray.empty, .string ByteArray.empty, .slice none 0 0]], []⟩).memory :=
  laidMet_of_run' 8 (by kernel_rfl) (by kernel_rfl)

set_option maxRecDepth 100000 in
theorem lifted (os : Os) (started : os.Started) (H : Type) (enc : TypeId × Value → H) (F : Stop.Interp) :
    ReturnsInHanded {} Tryd.checked os 7 .any ((Rows.OpenSpec.upto Rows.headBackSpec).preRow enc Tryd.prog Tryd.f7 Rows.headBackUptoRow.domain false Rows.headBackUptoRow.laid) (((Rows.OpenSpec.upto Rows.headBackSpec).at F).post enc Tryd.prog Tryd.f7 false true false false) := by
  obtain ⟨places, hx⟩ := reads os enc
  refine returnsInHanded_of_row (C := Tryd.checked) (s := Rows.OpenSpec.upto Rows.headBackSpec) own started (by kernel_rfl) Tryd.func7
    (witness_row_at (enc := enc) (C := Tryd.checked) false (laidIn (World.holding Tryd.prog os ⟨#[], #[], []⟩)) #[.agg #[.string ByteArray.empty, .string ByteArray.empty, .slice none 0 0]] rfl (by kernel_rfl) (by kernel_rfl) (by kernel_rfl)
      (OpenSpec.preRow_of_cond 8 hx (by kernel_rfl) (fun k hk => by cases hk; kernel_rfl) (by kernel_rfl) (laid_met os))) ?_
  intro W base args ds gs before hval hW _ hcond _ hL hsh _
  exact contract H enc W base args ds gs before hsh hval hW (hcond _ rfl) hL

theorem row : Rows.HeadBackUptoSaid :=
  OpenClaim.holds_of_cond 7 Tryd.f7 rfl rfl rfl rfl rfl rfl rfl ⟨rfl, rfl, rfl, rfl, rfl⟩ rfl rfl rfl rfl rfl (by kernel_rfl) Tryd.func7 (by kernel_rfl)
    (of_decide_eq_true (by kernel_rfl)) (by unfold Func.isWrapper; first | (rw [if_pos (by decide +kernel)]; kernel_rfl) | (rw [if_neg (by decide +kernel)]; exact ⟨rfl, rfl⟩))
    (fun os started H enc _ F => by rw [OpenClaim.pre_eq_preRow]; exact lifted os started H enc F)

theorem plain (f : FuncId) (fn : Func) (hf : Tryd.pinned.checked.prog.funcNamed "gatewicket/wickkeep.HeadBack" = some f) (hfn : Tryd.pinned.checked.prog.funcs[f]? = some fn) :
    false = Tryd.pinned.checked.prog.looks [] ∧ ∀ (j : Nat) t, fn.params[j]? = some t → Tryd.pinned.checked.prog.wantsStandIn t = false := by
  obtain rfl : f = 7 := Option.some.inj ((show Tryd.prog.funcNamed "gatewicket/wickkeep.HeadBack" = some 7 by kernel_rfl).symm.trans hf) |>.symm
  obtain rfl : fn = Tryd.f7 := (Option.some.inj (Tryd.func7.symm.trans hfn)).symm
  refine ⟨by kernel_rfl, fun j t ht => ?_⟩
  rw [Tryd.params7] at ht
  have hm : t = 31 := by simpa using Array.mem_of_getElem? ht
  subst hm
  exact (show Tryd.prog.wantsStandIn 31 = false by kernel_rfl)

theorem over : Rows.HeadBackUptoCardSaid :=
  Claim7.holds_tied_plain_at .later [] _ _ _ _ row (fun _ h => by cases h) (by kernel_rfl) (fun _ h => by cases h) headBackUpto_row_tie rfl ⟨rfl, rfl⟩ (by kernel_rfl) rfl plain (by kernel_rfl)
end Go.Proofs.YtloidooaebhliaaDoor.headBack
namespace Go.Proofs.YtloidooaebhliaaDoor
theorem headBack_holds : Rows.HeadBackUptoCardSaid := headBack.over
#print axioms headBack_holds
end Go.Proofs.YtloidooaebhliaaDoor
