/- With both texts a set has what either has: whatever is handed in.
   Conditions: what is handed in is of bulk at most 1048576; the library's tables are as the program's text lays them, and its own variable MaxLen holds whatever number. -/
import Derived.Test.YtgmpgacedmjgdaaDoorRows
import Derived.Test.YtgmpgacedmjgdaaDoorTie
import Derived.Test.YtgmpgacedmjgdaaDoorCards
import Derived.WalkKit
import Derived.ProofKit
import Derived.OpenShut
import Derived.ShutString
import Derived.JoinedCond
import Derived.Test.YtgmpgacedmjgdaaDoorSy
import Derived.Test.YtgmpgacedmjgdaaDoorLaid
import Derived.Deep.RegionWith
import Derived.Stop.LaidErr
namespace Go.Proofs.YtgmpgacedmjgdaaDoor.netsRanges
open Go.ChangeShapes Go.WideShapes Go.ChangeAt Go.RowKit
open Go.ChangeMaps (open_string shut_string)
open Kb
set_option linter.unusedVariables false
set_option maxRecDepth 20000
set_option maxRecDepth 20000

set_option maxHeartbeats 1000000 in
theorem walk_m (s t : ByteArray) (m : Int) (hb : s.size + t.size ≤ 1048576) (w : World) (hm : MX m w) :
    Calls Tryd.prog 4 #[.string s, .string t] w fun e w' => e = .returned (.bool true) ∧ Below w.heap.size w w' := by
  have HBY : Hid (∀ (x : ByteArray) (hx : x.size ≤ 4294960000) W, Below w.heap.size w W → Calls Tryd.prog 12 #[.string x] W fun e w' => ∃ a b c d z, e = .returned (.tuple #[.agg #[.int .u64 a, .int .u64 b, .int .u64 c, .int .u64 d], .int .i64 z]) ∧ Ans (Cs.cut 44 x.data.toList) ⟨a, b, c, d⟩ z ∧ Below W.heap.size W w') := hide (fun x hx W hW => (Bytes_any x m W hx (hm.below hW)).mono fun e w' ⟨h, b⟩ => by
    rcases h with ⟨⟨a, b', c, d⟩, h1, h2, h3, h4⟩ | ⟨h1, h2⟩
    · exact ⟨a, b', c, d, 0, h1, .inl ⟨rfl, h2, h3, h4⟩, b⟩
    · exact ⟨_, _, _, _, 3, h1, .inr ⟨rfl, rfl, h2⟩, b⟩)
  have H1 := hide ((unhide HBY) ⟨#[57, 44, 54, 53, 45, 54, 54]⟩ (by decide) w (Below.refl _ _))
  have H2 := hide ((unhide HBY) s (by omega))
  have H3 := hide ((unhide HBY) t (by omega))
  have H4 := hide ((unhide HBY) (s ++ ⟨#[44]⟩ ++ t) (by have : (⟨#[44]⟩ : ByteArray).size = 1 := rfl; simp only [ByteArray.size_append]; omega))
  have hcat : (s ++ (⟨#[44]⟩ : ByteArray) ++ t).data.toList = s.data.toList ++ 44 :: t.data.toList := by rw [cat_data, cat_data]; simp
  rw [hcat, cut_app] at H4
  obtain ⟨cs, hcs⟩ : ∃ cs, Cs.cut 44 s.data.toList = cs := ⟨_, rfl⟩
  obtain ⟨ds, hds⟩ : ∃ cs, Cs.cut 44 t.data.toList = cs := ⟨_, rfl⟩
  rw [hcs] at H2 H4
  rw [hds] at H3 H4
  have HW1 := hide (fun W => where_k1 #[] _ W (fun b W' hb hW' => k1_any b W' hb))
  clear hcs hds hcat HBY hm
  go_enter Tryd.func4, Tryd.ntmps4
  go_wp2_with fail
  refine (unhide H1).mono ?_; rintro e w1 ⟨a, b, c, d, z, rfl, ans1, b1⟩
  obtain ⟨rfl, hf1, hbits1⟩ := ans_lit ans1
  have R1 := hide (set_row w1 w.heap.size b1.size a b c d)
  have B1 := hide (bel_trans b1 ((Below.refl w1.heap.size w1).alloc (Nat.le_refl _) (.cells #[.int .u64 a, .int .u64 b, .int .u64 c, .int .u64 d] 37)))
  obtain ⟨g1, hg1⟩ : ∃ g, w1.heap.size = g := ⟨_, rfl⟩
  obtain ⟨W1, hW1⟩ : ∃ W, w1.alloc (.cells #[.int .u64 a, .int .u64 b, .int .u64 c, .int .u64 d] 37) = W := ⟨_, rfl⟩
  rw [hW1] at R1 B1
  rw [hg1] at R1
  have HF1 := hide hf1
  have HB1 := hide hbits1
  obtain ⟨k0, k1, k2, k3⟩ := set_cells (unhide R1)
  have heq := eqSet a b c d a b c d
  rw [decide_eq_true rfl] at heq
  have HWX : Hid (∀ W, Below W1.heap.size W1 W → Calls Tryd.prog 13 #[.func (.func 14) #[] #[]] W fun e w' => e = .returned (.agg #[.int .u64 a, .int .u64 b, .int .u64 c, .int .u64 d]) ∧ Below w.heap.size w w' ∧ w'.cell? ⟨g1, 0, none⟩ = some (.int .u64 a) ∧ w'.cell? ⟨g1, 1, none⟩ = some (.int .u64 b) ∧ w'.cell? ⟨g1, 2, none⟩ = some (.int .u64 c) ∧ w'.cell? ⟨g1, 3, none⟩ = some (.int .u64 d)) := hide (fun W hW => ((unhide HW1) W).mono fun e w' h => by
    obtain ⟨s', rfl, fit, bits, bel⟩ := h
    have e1 : s' = ⟨a, b, c, d⟩ := bits_ext2 fit (unhide HF1) (fun j hj => by rw [bits j hj, (unhide HB1) j hj])
    subst e1
    have b3 := bel_trans hW bel
    exact ⟨rfl, bel_trans (unhide B1) b3, set_cells (own_below (unhide R1) b3)⟩)
  have hlt1 := (unhide R1).lt g1 rfl
  clear ans1 b1 hf1 hbits1 H1 HW1
  have HBR := hide (Below.refl W1.heap.size W1)
  go_wp2_with fail
  clear hW1 hg1
  go_region_with (go_at_call 13; refine ((unhide HWX) _ ?_).mono ?_; (first | exact unhide HBR | exact (unhide HBR).drew); rintro e w2 ⟨rfl, b2, l0, l1, l2, l3⟩)
  all_goals (
    have B2 := hide b2
    clear b2 l0 l1 l2 l3 k0 k1 k2 k3 HWX HBR heq
    go_wp2_with fail
    refine ((unhide H2) _ (unhide B2)).mono ?_; rintro e w3 ⟨a3, b3, c3, d3, z3, rfl, ans3, bb3⟩
    have A3 := hide ans3
    have V3 := hide (bel_trans (unhide B2) bb3)
    have Q3 := hide (set_row w3 w.heap.size (unhide V3).size a3 b3 c3 d3)
    have al3 := (Below.refl w3.heap.size w3).alloc (Nat.le_refl _) (.cells #[.int .u64 a3, .int .u64 b3, .int .u64 c3, .int .u64 d3] 37)
    have U3 := hide (bel_trans (unhide V3) al3)
    obtain ⟨g3, hg3⟩ : ∃ g, w3.heap.size = g := ⟨_, rfl⟩
    obtain ⟨W3, hW3⟩ : ∃ W, w3.alloc (.cells #[.int .u64 a3, .int .u64 b3, .int .u64 c3, .int .u64 d3] 37) = W := ⟨_, rfl⟩
    rw [hW3] at Q3 U3
    rw [hg3] at Q3
    clear ans3 bb3 al3 V3
    go_wp2_with fail
    clear hW3 hg3
    refine ((unhide H3) _ (unhide U3)).mono ?_; rintro e w5 ⟨a5, b5, c5, d5, z5, rfl, ans5, bb5⟩
    have A5 := hide ans5
    have V5 := hide (bel_trans (unhide U3) bb5)
    have Q5 := hide (set_row w5 w.heap.size (unhide V5).size a5 b5 c5 d5)
    have al5 := (Below.refl w5.heap.size w5).alloc (Nat.le_refl _) (.cells #[.int .u64 a5, .int .u64 b5, .int .u64 c5, .int .u64 d5] 37)
    have U5 := hide (bel_trans (unhide V5) al5)
    have Q3_5 := hide (own_below (own_below (unhide Q3) bb5) al5)
    obtain ⟨g5, hg5⟩ : ∃ g, w5.heap.size = g := ⟨_, rfl⟩
    obtain ⟨W5, hW5⟩ : ∃ W, w5.alloc (.cells #[.int .u64 a5, .int .u64 b5, .int .u64 c5, .int .u64 d5] 37) = W := ⟨_, rfl⟩
    rw [hW5] at Q5 U5
    rw [hg5] at Q5
    rw [hW5] at Q3_5
    clear ans5 bb5 al5 V5
    go_wp2_with fail
    clear hW5 hg5
    refine ((unhide H4) _ (unhide U5)).mono ?_; rintro e w7 ⟨a7, b7, c7, d7, z7, rfl, ans7, bb7⟩
    have A7 := hide ans7
    have V7 := hide (bel_trans (unhide U5) bb7)
    have Q7 := hide (set_row w7 w.heap.size (unhide V7).size a7 b7 c7 d7)
    have al7 := (Below.refl w7.heap.size w7).alloc (Nat.le_refl _) (.cells #[.int .u64 a7, .int .u64 b7, .int .u64 c7, .int .u64 d7] 37)
    have U7 := hide (bel_trans (unhide V7) al7)
    have Q3_5_7 := hide (own_below (own_below (unhide Q3_5) bb7) al7)
    have Q5_7 := hide (own_below (own_below (unhide Q5) bb7) al7)
    obtain ⟨g7, hg7⟩ : ∃ g, w7.heap.size = g := ⟨_, rfl⟩
    obtain ⟨W7, hW7⟩ : ∃ W, w7.alloc (.cells #[.int .u64 a7, .int .u64 b7, .int .u64 c7, .int .u64 d7] 37) = W := ⟨_, rfl⟩
    rw [hW7] at Q7 U7
    rw [hg7] at Q7
    rw [hW7] at Q3_5_7
    rw [hW7] at Q5_7
    clear ans7 bb7 al7 V7
    have hz3 := ans_z (unhide A3)
    have hz5 := ans_z (unhide A5)
    obtain ⟨k0, k1, k2, k3⟩ := set_cells (unhide Q7)
    by_cases hok : z3 = 0 ∧ z5 = 0
    · obtain ⟨rfl, rfl⟩ := hok
      obtain ⟨rfl, f3, f5, f7, hbits⟩ := ans_yes (unhide A3) (unhide A5) (unhide A7)
      have heq := eqSet a7 b7 c7 d7 a7 b7 c7 d7
      rw [decide_eq_true rfl] at heq
      have HWY : Hid (∀ W, Below W7.heap.size W7 W → Calls Tryd.prog 13 #[.func (.func 15) #[] #[.pointer (some ⟨g3, 0, none⟩), .pointer (some ⟨g5, 0, none⟩)]] W fun e w' => e = .returned (.agg #[.int .u64 a7, .int .u64 b7, .int .u64 c7, .int .u64 d7]) ∧ Below w.heap.size w w' ∧ w'.cell? ⟨g7, 0, none⟩ = some (.int .u64 a7) ∧ w'.cell? ⟨g7, 1, none⟩ = some (.int .u64 b7) ∧ w'.cell? ⟨g7, 2, none⟩ = some (.int .u64 c7) ∧ w'.cell? ⟨g7, 3, none⟩ = some (.int .u64 d7)) := hide (fun W hW => (where_k2 #[.pointer (some ⟨g3, 0, none⟩), .pointer (some ⟨g5, 0, none⟩)] _ W (fun b W' hb hW' => k2_any ⟨a3, b3, c3, d3⟩ ⟨a5, b5, c5, d5⟩ b g3 g5 _ _ W' hb f3 f5 (own_below (own_below (unhide Q3_5_7) hW) hW') (own_below (own_below (unhide Q5_7) hW) hW'))).mono fun e w' h => by
        obtain ⟨s', rfl, fit, bits, bel⟩ := h
        have e1 : s' = ⟨a7, b7, c7, d7⟩ := bits_ext2 fit f7 (fun j hj => by rw [bits j hj, hbits j hj])
        subst e1
        have b9 := bel_trans hW bel
        exact ⟨rfl, bel_trans (unhide U7) b9, set_cells (own_below (unhide Q7) b9)⟩)
      have HBR := hide (Below.refl W7.heap.size W7)
      clear hz3 hz5 f3 f5 f7 hbits A3 A5 A7
      go_wp2_with fail
      clear hW7 hg7
      go_region_with (go_at_call 13; refine ((unhide HWY) _ ?_).mono ?_; (first | exact unhide HBR | exact (unhide HBR).drew); rintro e w8 ⟨rfl, b8, l0, l1, l2, l3⟩)
      all_goals (
        go_wp2_with fail
        go_ret
        exact ⟨by first | rfl | simp, b8⟩)
    · obtain ⟨hx, hr⟩ := ans_no (unhide A3) (unhide A5) (unhide A7) hok
      injection hr with e1 e2 e3 e4
      subst hx e1 e2 e3 e4
      have heq := eqSet 0 0 0 0 0 0 0 0
      rw [decide_eq_true rfl] at heq
      clear A3 A5 A7
      have hput : (((W7.setCell ⟨g7, 0, none⟩ (.int .u64 0)).setCell ⟨g7, 1, none⟩ (.int .u64 0)).setCell ⟨g7, 2, none⟩ (.int .u64 0)).setCell ⟨g7, 3, none⟩ (.int .u64 0) = W7 := by
        rw [← hW7, ← hg7, World.setCell_alloc_new, World.setCell_alloc_new, World.setCell_alloc_new, World.setCell_alloc_new]; rfl
      have f0 := (unhide Q7).frozenAt 0
      have f1 := (unhide Q7).frozenAt 1
      have f2 := (unhide Q7).frozenAt 2
      have f3 := (unhide Q7).frozenAt 3
      rcases hz3 with rfl | rfl
      · rcases hz5 with rfl | rfl
        · exact absurd ⟨rfl, rfl⟩ hok
        · go_wp2_with fail
          go_ret
          exact ⟨by first | rfl | simp, unhide U7⟩
      · go_wp2_with fail
        go_ret
        exact ⟨by first | rfl | simp, unhide U7⟩)
theorem walk (a0 a1 : ByteArray) (hb : a0.size + a1.size ≤ 1048576) (w : World) (hsh : w.ShapedOpen Tryd.prog) (hL : laidMetH Tryd.prog Rows.netsRangesUptoRow.laid w) :
    Calls Tryd.prog 4 #[.string a0, .string a1] w fun e w' => e = .returned (.bool true) ∧ Below w.heap.size w w' := by
  obtain ⟨m, hm⟩ := Tryd.laysM145.s1_3 w hsh
  exact walk_m a0 a1 m hb w hm
theorem own : ownKnob Tryd.prog.godebug = none := by kernel_rfl

theorem small_of {H : Type} {a0 : ByteArray} {a1 : ByteArray} (hk : Rows.uptoSmall H ([.lit (.string a0.data.toList), .lit (.string a1.data.toList)] ++ []) = true) : a0.size + a1.size ≤ 1048576 := by
  have h := of_decide_eq_true hk
  simp only [Rows.uptoBulkAll, Rows.uptoBulk, List.append_nil, Array.length_toList, ByteArray.size_data] at h
  omega

theorem contract (H : Type) (enc : TypeId × Value → H) (W : World) (base : Nat) (args : Array Value) (ds gs : List (DataW H)) (before : List MemPlace) (hsh : W.ShapedOpen Tryd.prog)
    (hval0 : ∀ (j : Nat) t v, Tryd.f4.params[j]? = some t → args[j]? = some v → Value.okWide Tryd.prog W .any base t v)
    (hW : DataW.Whole enc Tryd.prog Tryd.f4.params.toList Rows.netsRangesSpec.vars false W args.toList ds gs before) (hk : Rows.uptoSmall H (ds ++ gs) = true) (hL : laidMetH Tryd.prog Rows.netsRangesUptoRow.laid W) :
    Calls Tryd.prog 4 args W fun e W' => ∃ v, e = .returned v ∧ Rows.netsRangesSpec.post enc Tryd.prog Tryd.f4 false true false false W args v W' := by
  have hval : ∀ (j : Nat) t v, Tryd.f4.params[j]? = some t → args[j]? = some v → Value.okWide Tryd.prog W .any base t v := hval0
  have hW' := hW
  obtain ⟨p, q, hA0, hV, rfl, hfz, hnd⟩ := hW
  have hA : DataW.TrodAll enc Tryd.prog W 0 (fun _ => true) true Tryd.f4.params.toList args.toList ds p := hA0
  rw [Tryd.params4] at hA hval
  obtain ⟨v0, vs0, d0, ds0, p0, q0, hargs, rfl, rfl, h0, r0⟩ := trodAll_cons hA
  obtain ⟨v1, vs1, d1, ds1, p1, q1, rfl, rfl, rfl, h1, r1⟩ := trodAll_cons r0
  obtain ⟨rfl, rfl, rfl⟩ := trodAll_nil r1
  obtain rfl : args = #[v0, v1] := by cases args; simp_all
  obtain ⟨rfl, rfl⟩ := trodVars_none hV
  obtain ⟨a0, rfl, rfl, rfl, w0⟩ := open_string Tryd.underlying9 (hval 0 9 v0 rfl rfl) h0
  obtain ⟨a1, rfl, rfl, rfl, w1⟩ := open_string Tryd.underlying9 (hval 1 9 v1 rfl rfl) h1
  clear hA0 hval0
  simp only [List.append_nil] at hW'
  refine (walk a0 a1 (small_of hk) W hsh hL).mono fun e W' ⟨he, hb⟩ => ?_
  subst he
  exact ⟨_, rfl, _, _, _, [], [], [], hW', (trodAll_cons_mk (shut_bool Tryd.underlying4 _) trodAll_mk0), (trodAll_cons_mk (shut_string Tryd.underlying9 w0) (trodAll_cons_mk (shut_string Tryd.underlying9 w1) trodAll_mk0)), rfl, hb.frame _, fun h => by cases h⟩

theorem reads (os : Os) {H : Type} (enc : TypeId × Value → H) : ∃ places, DataW.whole enc Tryd.prog ((laidIn (World.holding Tryd.prog os ⟨#[], #[], []⟩)).forCall (fun _ _ => 0) ⟨#[], #[.string ByteArray.empty, .string ByteArray.empty], []⟩).memory Tryd.f4.params.toList Rows.netsRangesSpec.vars false (#[.string ByteArray.empty, .string ByteArray.empty] : Array Value).toList 8 = some ([.lit (.string []), .lit (.string [])], [], places) :=
  ⟨[], by kernel_rfl⟩
theorem laid_met (os : Os) : laidMet Tryd.prog Rows.netsRangesUptoRow.laid ((laidIn (World.holding Tryd.prog os ⟨#[], #[], []⟩)).forCall (fun _ _ => 0) ⟨#[], #[.string ByteArray.empty, .string ByteArray.empty], []⟩).memory :=
  laidMet_of_run' 8 (by kernel_rfl) (by kernel_rfl)

set_option maxRecDepth 100000 in
theorem lifted (os : Os) (started : os.Started) (H : Type) (enc : TypeId × Value → H) (F : Stop.Interp) :
    ReturnsInHanded {} Tryd.checked os 4 .any ((Rows.OpenSpec.upto Rows.netsRangesSpec).preRow enc Tryd.prog Tryd.f4 Rows.netsRangesUptoRow.domain false Rows.netsRangesUptoRow.laid) (((Rows.OpenSpec.upto Rows.netsRangesSpec).at F).post enc Tryd.prog Tryd.f4 false true false false) := by
  obtain ⟨places, hx⟩ := reads os enc
  refine returnsInHanded_of_row (C := Tryd.checked) (s := Rows.OpenSpec.upto Rows.netsRangesSpec) own started (by kernel_rfl) Tryd.func4
    (witness_row_at (enc := enc) (C := Tryd.checked) false (laidIn (World.holding Tryd.prog os ⟨#[], #[], []⟩)) #[.string ByteArray.empty, .string ByteArray.empty] rfl (by kernel_rfl) (by kernel_rfl) (by kernel_rfl)
      (OpenSpec.preRow_of_cond 8 hx (by kernel_rfl) (fun k hk => by cases hk; kernel_rfl) (by kernel_rfl) (laid_met os))) ?_
  intro W base args ds gs before hval hW _ hcond _ hL hsh _
  exact contract H enc W base args ds gs before hsh hval hW (hcond _ rfl) hL

theorem row : Rows.NetsRangesUptoSaid :=
  OpenClaim.holds_of_cond 4 Tryd.f4 rfl rfl rfl rfl rfl rfl rfl ⟨rfl, rfl, rfl, rfl, rfl⟩ rfl rfl rfl rfl rfl (by kernel_rfl) Tryd.func4 (by kernel_rfl)
    (of_decide_eq_true (by kernel_rfl)) (by unfold Func.isWrapper; first | (rw [if_pos (by decide +kernel)]; kernel_rfl) | (rw [if_neg (by decide +kernel)]; exact ⟨rfl, rfl⟩))
    (fun os started H enc _ F => by rw [OpenClaim.pre_eq_preRow]; exact lifted os started H enc F)

theorem plain (f : FuncId) (fn : Func) (hf : Tryd.pinned.checked.prog.funcNamed "gatewicket/wickkeep.NetsRanges" = some f) (hfn : Tryd.pinned.checked.prog.funcs[f]? = some fn) :
    false = Tryd.pinned.checked.prog.looks [] ∧ ∀ (j : Nat) t, fn.params[j]? = some t → Tryd.pinned.checked.prog.wantsStandIn t = false := by
  obtain rfl : f = 4 := Option.some.inj ((show Tryd.prog.funcNamed "gatewicket/wickkeep.NetsRanges" = some 4 by kernel_rfl).symm.trans hf) |>.symm
  obtain rfl : fn = Tryd.f4 := (Option.some.inj (Tryd.func4.symm.trans hfn)).symm
  refine ⟨by kernel_rfl, fun j t ht => ?_⟩
  rw [Tryd.params4] at ht
  have hm : t = 9 := by simpa using Array.mem_of_getElem? ht
  subst hm
  exact (show Tryd.prog.wantsStandIn 9 = false by kernel_rfl)

theorem over : Rows.NetsRangesUptoCardSaid :=
  Claim7.holds_tied_plain_at .later [] _ _ _ _ row (fun _ h => by cases h) (by kernel_rfl) (fun _ h => by cases h) netsRangesUpto_row_tie rfl ⟨rfl, rfl⟩ (by kernel_rfl) rfl plain (by kernel_rfl)
end Go.Proofs.YtgmpgacedmjgdaaDoor.netsRanges
namespace Go.Proofs.YtgmpgacedmjgdaaDoor
theorem netsRanges_holds : Rows.NetsRangesUptoCardSaid := netsRanges.over
#print axioms netsRanges_holds
end Go.Proofs.YtgmpgacedmjgdaaDoor
