/- A request that is written is read as it was, whatever stands behind: whatever is handed in.
   Conditions: what is handed in is of bulk at most 1048576; the library's tables are as the program's text lays them, and its own variable MaxLen holds whatever number. -/
import Derived.Test.YtjpclmkekmkddaaGreatDoorRows
import Derived.Test.YtjpclmkekmkddaaGreatDoorTie
import Derived.Test.YtjpclmkekmkddaaGreatDoorCards
import Derived.WalkKit
import Derived.ProofKit
import Derived.OpenShut
import Derived.ShutString
import Derived.JoinedCond
import Derived.Test.YtjpclmkekmkddaaGreatDoorUm
import Derived.Test.YtjpclmkekmkddaaGreatDoorLo
import Derived.Test.YtjpclmkekmkddaaGreatDoorTi
import Derived.Stop.LaidErr
namespace Go.Proofs.YtjpclmkekmkddaaGreatDoor.oneBack
open Go.ChangeShapes Go.WideShapes Go.ChangeAt Go.RowKit
open Go.ChangeMaps (open_string shut_string)
open Kb
open Mh (Fl)
set_option linter.unusedVariables false
set_option maxRecDepth 20000
set_option maxRecDepth 20000

theorem get_text : Mh.text [71, 69, 84] [47] [] = [71, 69, 84, 32, 47, 32, 72, 84, 84, 80, 47, 49, 46, 49, 13, 10, 13, 10] := by
  unfold Mh.text Mh.lines
  rw [List.map_nil, Lib.join_one]
  rfl
theorem get_one : On.oneB 4096 4096 40 [71, 69, 84, 32, 47, 32, 72, 84, 84, 80, 47, 49, 46, 49, 13, 10, 13, 10, 120] = .ok (([71, 69, 84], [47], [], []), 18) := by
  have h := On.one_text (m := [71, 69, 84]) (t := [47]) (fs := []) (b := []) (k := 1) (sz := 0) (hd := 4096) (bd := 4096) (by decide) (by rw [get_text]; decide) (Nat.le_refl _) rfl [] [120] On.body_none
  rw [get_text] at h
  unfold On.oneB
  rw [if_neg (by decide)]
  exact h
set_option maxHeartbeats 8000000 in
theorem walk_m (m t : List UInt8) (u : Value) (fs : List Fl) (b : List UInt8) (v : Value) (zs : List Int) (more : ByteArray) (k : Int) (hb : more.size ≤ 1048576) (w : World) (hu : Flds w u fs) (hz : m.length + t.length ≤ 1048576 ∧ fs.length ≤ 1048576 ∧ b.length ≤ 1048576 ∧ ∀ f ∈ fs, f.1.length + f.2.length ≤ 1048576) (hI : Ints w v zs) (hm : MH k w) (hT : DB w) :
    Calls Tryz.prog 5 #[reqV m t u b, v, .string more] w fun e w' => e = .returned (.bool true) ∧ Below w.heap.size w w' := by
  obtain ⟨hz1, hz2, hz3, hz4⟩ := hz
  have HWD := hide (fun W => wide_any W)
  have HG := hide (fun W (hW : MH k W) => one_any ⟨#[71, 69, 84, 32, 47, 32, 72, 84, 84, 80, 47, 49, 46, 49, 13, 10, 13, 10, 120]⟩ 4096 4096 40 k W (by decide) hW (([71, 69, 84], [47], [], []), 18, 0) (by
    rw [show (⟨#[71, 69, 84, 32, 47, 32, 72, 84, 84, 80, 47, 49, 46, 49, 13, 10, 13, 10, 120]⟩ : ByteArray).data.toList = [71, 69, 84, 32, 47, 32, 72, 84, 84, 80, 47, 49, 46, 49, 13, 10, 13, 10, 120] from rfl, get_one]; rfl))
  obtain ⟨o, ho⟩ : ∃ o, On.askedP m t fs b zs = o := ⟨_, rfl⟩
  obtain ⟨d, hd⟩ := ex_list b
  have HA := hide (fun W (h : Below w.heap.size w W) => asked_any m t u fs d v zs W (hu.below h) ⟨hz1, hz2, hz4⟩ (by have := len_data d; rw [hd] at this; omega) (hI.below h) (hT.below h) o (by rw [hd]; exact ho))
  have HSM := hide (fun W v' (h : Below w.heap.size w W) (h2 : Flds W v' fs) => samereq_any m t b v' u fs W h2 (hu.below h))
  have hbd : mk b = d := by rw [← hd, mk_data]
  unfold reqV at HSM ⊢
  unfold bndV at HG HWD
  rw [hbd] at HSM ⊢
  obtain ⟨uo, uc, rfl, _⟩ := hu.form
  obtain ⟨vo, vc, rfl, _⟩ := hI.form
  dsimp only at HG
  rw [List.length_nil] at HG
  obtain ⟨x, hx⟩ : ∃ x, mk m = x := ⟨_, rfl⟩
  obtain ⟨y, hy⟩ : ∃ y, mk t = y := ⟨_, rfl⟩
  obtain ⟨p1, hp1⟩ : ∃ x, mk [71, 69, 84] = x := ⟨_, rfl⟩
  obtain ⟨p2, hp2⟩ : ∃ x, mk [47] = x := ⟨_, rfl⟩
  obtain ⟨p3, hp3⟩ : ∃ x, mk ([] : List UInt8) = x := ⟨_, rfl⟩
  rw [hp1, hp2, hp3] at HG
  rw [hx, hy] at HA HSM ⊢
  have HON : Hid (∀ l, o = some l → ∀ q : ByteArray, q = mk l → ∀ W, MH k W → Calls Tryz.prog 7 #[.string (q ++ more), .agg #[.int .i64 4096, .int .i64 4096, .int .i64 40]] W fun e w' => ∃ v, e = .returned (.tuple #[.agg #[.string x, .string y, v, .string d], .int .i64 q.size, .int .i64 0]) ∧ w'.ownsRow W.heap.size 73 2 v fs.length (cellsF fs) ∧ Below W.heap.size W w') := hide (fun l hl q hq W hW => by
    obtain ⟨a1, a2, a3⟩ := On.asked_ok (ho.trans hl)
    have hqs : q.size = l.length := by rw [hq, mk_size]
    have := one_any (q ++ more) 4096 4096 40 k W (by rw [ByteArray.size_append]; omega) hW ((m, t, fs, b), (q.size : Int), 0) (by
      rw [cat_data, hq, mk_toList, a1, mk_size]; rfl)
    unfold bndV at this
    rw [← hx, ← hy, ← hbd]
    exact this)
  have HFN : Hid (∀ l, o = some l → fs.length ≤ 30 ∧ l.length ≤ 60000) := hide (fun l hl => ⟨(On.asked_ok (ho.trans hl)).2.2, by have := (On.asked_ok (ho.trans hl)).2.1; omega⟩)
  clear hx hy hp1 hp2 hp3 hd hbd ho hz1 hz2 hz3 hz4 hT
  have X0 := hide (QX.new (base := w.heap.size) w (Nat.le_refl _) x y uo fs.length uc d)
  have bb0 := (Below.refl w.heap.size w).alloc (Nat.le_refl _) (.cells #[.string x, .string y, .slice uo fs.length uc, .string d] 30)
  have B0 := hide bb0
  obtain ⟨W0, hW0⟩ : ∃ W, w.alloc (.cells #[.string x, .string y, .slice uo fs.length uc, .string d] 30) = W := ⟨_, rfl⟩
  rw [hW0] at X0 B0 bb0
  have HM0 := hide (hm.below bb0)
  clear bb0 hm hu hI
  go_enter Tryz.func5, Tryz.ntmps5
  go_wp2_with fail
  clear hW0
  refine ((unhide HWD) W0).mono ?_; rintro e w1 ⟨rfl, b1⟩
  have HM1 := hide ((unhide HM0).below b1)
  have X1 := hide ((unhide X0).below b1)
  have B1 := hide (bel_trans (unhide B0) b1)
  clear b1 HM0 X0 B0
  go_wp2_with fail
  refine ((unhide HG) w1 (unhide HM1)).mono ?_; rintro e w2 ⟨v2, rfl, own2, b2⟩
  obtain ⟨o2, c2, rfl⟩ := own_forms own2
  have HM2 := (unhide HM1).below b2
  have X2 := (unhide X1).below b2
  have B2 := bel_trans (unhide B1) b2
  clear b2 own2 HM1 X1 B1 HG
  have bb := (Below.refl w2.heap.size w2).alloc (Nat.le_refl _) (.cells #[.string p1, .string p2, .slice o2 0 c2, .string p3] 30)
  obtain ⟨W3, hW3⟩ : ∃ W, w2.alloc (.cells #[.string p1, .string p2, .slice o2 0 c2, .string p3] 30) = W := ⟨_, rfl⟩
  rw [hW3] at bb
  have HM3 := hide (HM2.below bb)
  have X3 := hide (X2.below bb)
  have B3' := hide (bel_trans B2 bb)
  clear bb HM2 X2 B2
  obtain ⟨x0, x1, x2, x3⟩ := (unhide X3).cells
  go_wp2_with fail
  clear hW3
  refine ((unhide HA) W3 (unhide B3')).mono ?_; rintro e w4 ⟨rfl, b4⟩
  have HM4 := hide ((unhide HM3).below b4)
  have X4 := hide ((unhide X3).below b4)
  have B4 := hide (bel_trans (unhide B3') b4)
  clear b4 HM3 X3 B3' HA x0 x1 x2 x3
  rcases hoo : o with _ | l
  · go_wp2_with fail
    go_ret
    exact ⟨rfl, unhide B4⟩
  · obtain ⟨hfl, hll⟩ := (unhide HFN) l hoo
    obtain ⟨q, hq⟩ : ∃ q, mk l = q := ⟨_, rfl⟩
    have hqs : q.size ≤ 60000 := by rw [← hq, mk_size]; exact hll
    clear hll
    have HO1 := hide ((unhide HON) l hoo q hq.symm)
    rw [Option.getD_some, hq]
    clear HON HFN hoo hq
    go_wp2_with fail
    refine ((unhide HWD) w4).mono ?_; rintro e w5 ⟨rfl, b5⟩
    have HM5 := hide ((unhide HM4).below b5)
    have X5 := hide ((unhide X4).below b5)
    have B5 := hide (bel_trans (unhide B4) b5)
    clear b5 HM4 X4 B4 HWD
    go_wp2_with fail
    refine ((unhide HO1) w5 (unhide HM5)).mono ?_; rintro e w6 ⟨v6, rfl, own6, b6⟩
    obtain ⟨o6, c6, rfl⟩ := own_forms own6
    have F6 := Flds.own own6 (by omega)
    have X6 := (unhide X5).below b6
    have B6 := bel_trans (unhide B5) b6
    clear b6 own6 HM5 X5 B5 HO1
    have Q7 := QX.new (base := w6.heap.size) w6 (Nat.le_refl _) x y o6 fs.length c6 d
    have bb := (Below.refl w6.heap.size w6).alloc (Nat.le_refl _) (.cells #[.string x, .string y, .slice o6 fs.length c6, .string d] 30)
    obtain ⟨g7, hg7⟩ : ∃ g, w6.heap.size = g := ⟨_, rfl⟩
    obtain ⟨W7, hW7⟩ : ∃ W, w6.alloc (.cells #[.string x, .string y, .slice o6 fs.length c6, .string d] 30) = W := ⟨_, rfl⟩
    rw [hW7] at bb Q7
    rw [hg7] at Q7
    have X7 := X6.below bb
    have B7 := hide (bel_trans B6 bb)
    have HS := hide ((unhide HSM) W7 _ (unhide B7) (F6.below bb))
    obtain ⟨x0, x1, x2, x3⟩ := X7.cells
    obtain ⟨y0, y1, y2, y3⟩ := Q7.cells
    clear bb F6 X6 B6 X7 Q7 HSM
    go_wp2_with fail
    clear hW7 hg7
    refine (unhide HS).mono ?_; rintro e w8 ⟨rfl, b8⟩
    have B8 := hide (bel_trans (unhide B7) b8)
    clear b8 x0 x1 x2 x3 y0 y1 y2 y3
    go_wp2_with fail
    go_ret
    exact ⟨rfl, unhide B8⟩
theorem walk (m t : List UInt8) (u : Value) (fs : List Fl) (b : List UInt8) (v : Value) (zs : List Int) (more : ByteArray) (hb : more.size ≤ 1048576) (w : World) (hu : Flds w u fs) (hz : m.length + t.length ≤ 1048576 ∧ fs.length ≤ 1048576 ∧ b.length ≤ 1048576 ∧ ∀ f ∈ fs, f.1.length + f.2.length ≤ 1048576) (hI : Ints w v zs) (hsh : w.ShapedOpen Tryz.prog) (hL : laidMetH Tryz.prog Rows.oneBackUptoRow.laid w) :
    Calls Tryz.prog 5 #[reqV m t u b, v, .string more] w fun e w' => e = .returned (.bool true) ∧ Below w.heap.size w w' := by
  obtain ⟨k, hk⟩ := Tryz.laysM145.s1_3 w hsh
  exact walk_m m t u fs b v zs more k hb w hu hz hI hk (db_of (W := w) hL)
theorem own : ownKnob Tryz.prog.godebug = none := by kernel_rfl

theorem small_of {H : Type} {a0 : DataW H} {a1 : DataW H} {a2 : ByteArray} (hk : Rows.uptoSmall H ([a0, a1, .lit (.string a2.data.toList)] ++ []) = true) : Rows.uptoBulk a0 + Rows.uptoBulk a1 + a2.size ≤ 1048576 := by
  have h := of_decide_eq_true hk
  simp only [Rows.uptoBulkAll, Rows.uptoBulk, List.append_nil, Array.length_toList, ByteArray.size_data] at h
  omega

set_option maxRecDepth 100000 in
theorem contract (H : Type) (enc : TypeId × Value → H) (W : World) (base : Nat) (args : Array Value) (ds gs : List (DataW H)) (before : List MemPlace) (hsh : W.ShapedOpen Tryz.prog)
    (hval0 : ∀ (j : Nat) t v, Tryz.f5.params[j]? = some t → args[j]? = some v → Value.okWide Tryz.prog W .any base t v)
    (hW : DataW.Whole enc Tryz.prog Tryz.f5.params.toList Rows.oneBackSpec.vars false W args.toList ds gs before) (hk : Rows.uptoSmall H (ds ++ gs) = true) (hL : laidMetH Tryz.prog Rows.oneBackUptoRow.laid W) :
    Calls Tryz.prog 5 args W fun e W' => ∃ v, e = .returned v ∧ Rows.oneBackSpec.post enc Tryz.prog Tryz.f5 false true false false W args v W' := by
  have hval : ∀ (j : Nat) t v, Tryz.f5.params[j]? = some t → args[j]? = some v → Value.okWide Tryz.prog W .any base t v := hval0
  have hW' := hW
  obtain ⟨p, q, hA0, hV, rfl, hfz, hnd⟩ := hW
  have hA : DataW.TrodAll enc Tryz.prog W 0 (fun _ => true) true Tryz.f5.params.toList args.toList ds p := hA0
  rw [Tryz.params5] at hA hval
  obtain ⟨v0, vs0, d0, ds0, p0, q0, hargs, rfl, rfl, h0, r0⟩ := trodAll_cons hA
  obtain ⟨v1, vs1, d1, ds1, p1, q1, rfl, rfl, rfl, h1, r1⟩ := trodAll_cons r0
  obtain ⟨v2, vs2, d2, ds2, p2, q2, rfl, rfl, rfl, h2, r2⟩ := trodAll_cons r1
  obtain ⟨rfl, rfl, rfl⟩ := trodAll_nil r2
  obtain rfl : args = #[v0, v1, v2] := by cases args; simp_all
  obtain ⟨rfl, rfl⟩ := trodVars_none hV
  obtain ⟨a2, rfl, rfl, rfl, w2⟩ := open_string Tryz.underlying9 (hval 2 9 v2 rfl rfl) h2
  have hsm := small_of hk
  obtain ⟨m0, t0, u0, f0, g0, rfl, hI0, hz0, hlt0⟩ := open_req_in (hval 0 30 v0 rfl rfl) h0 (by omega)
  obtain ⟨z1, hI1, hz1, hlt1⟩ := open_ints_in (hval 1 44 v1 rfl rfl) h1 (by omega)
  clear hA0 hval0
  refine (walk m0 t0 u0 f0 g0 v1 z1 a2 (by omega) W hI0 hz0 hI1 hsh hL).mono fun e W' ⟨he, hb⟩ => ?_
  subst he
  exact ⟨_, rfl, _, _, _, [], (p0 ++ (p1 ++ ([] ++ []))), [], hW', (trodAll_cons_mk (shut_bool Tryz.underlying4 _) trodAll_mk0), (trodAll_cons_mk (Below.trod laidOutAll (by kernel_rfl) (of_decide_eq_true (by kernel_rfl)) h0 hb hlt0) (trodAll_cons_mk (Below.trod laidOutAll (by kernel_rfl) (of_decide_eq_true (by kernel_rfl)) h1 hb hlt1) (trodAll_cons_mk (shut_string Tryz.underlying9 w2) trodAll_mk0))), rfl, hb.frame _, fun h => by cases h⟩

theorem reads (os : Os) {H : Type} (enc : TypeId × Value → H) : ∃ places, DataW.whole enc Tryz.prog ((laidIn (World.holding Tryz.prog os ⟨#[], #[], []⟩)).forCall (fun _ _ => 0) ⟨#[], #[.agg #[.string ByteArray.empty, .string ByteArray.empty, .slice none 0 0, .string ByteArray.empty], .slice none 0 0, .string ByteArray.empty], []⟩).memory Tryz.f5.params.toList Rows.oneBackSpec.vars false (#[.agg #[.string ByteArray.empty, .string ByteArray.empty, .slice none 0 0, .string ByteArray.empty], .slice none 0 0, .string ByteArray.empty] : Array Value).toList 8 = some ([.agg [.agg [.lit (.string []), .lit (.string []), .nil], .lit (.string [])], .nil, .lit (.string [])], [], places) :=
  ⟨[], by kernel_rfl⟩
theorem laid_met (os : Os) : laidMet Tryz.prog Rows.oneBackUptoRow.laid ((laidIn (World.holding Tryz.prog os ⟨#[], #[], []⟩)).forCall (fun _ _ => 0) ⟨#[], #[.agg #[.string ByteArray.empty, .string ByteArray.empty, .slice none 0 0, .string ByteArray.empty], .slice none 0 0, .string ByteArray.empty], []⟩).memory :=
  laidMet_of_run' 8 (by kernel_rfl) (by kernel_rfl)

set_option maxRecDepth 100000 in
theorem lifted (os : Os) (started : os.Started) (H : Type) (enc : TypeId × Value → H) (F : Stop.Interp) :
    ReturnsInHanded {} Tryz.checked os 5 .any ((Rows.OpenSpec.upto Rows.oneBackSpec).preRow enc Tryz.prog Tryz.f5 Rows.oneBackUptoRow.domain false Rows.oneBackUptoRow.laid) (((Rows.OpenSpec.upto Rows.oneBackSpec).at F).post enc Tryz.prog Tryz.f5 false true false false) := by
  obtain ⟨places, hx⟩ := reads os enc
  refine returnsInHanded_of_row (C := Tryz.checked) (s := Rows.OpenSpec.upto Rows.oneBackSpec) own started (by kernel_rfl) Tryz.func5
    (witness_row_at (enc := enc) (C := Tryz.checked) false (laidIn (World.holding Tryz.prog os ⟨#[], #[], []⟩)) #[.agg #[.string ByteArray.empty, .string ByteArray.empty, .slice none 0 0, .string ByteArray.empty], .slice none 0 0, .string ByteArray.empty] rfl (by kernel_rfl) (by kernel_rfl) (by kernel_rfl)
      (OpenSpec.preRow_of_cond 8 hx (by kernel_rfl) (fun k hk => by cases hk; kernel_rfl) (by kernel_rfl) (laid_met os))) ?_
  intro W base args ds gs before hval hW _ hcond _ hL hsh _
  exact contract H enc W base args ds gs before hsh hval hW (hcond _ rfl) hL

theorem row : Rows.OneBackUptoSaid :=
  OpenClaim.holds_of_cond 5 Tryz.f5 rfl rfl rfl rfl rfl rfl rfl ⟨rfl, rfl, rfl, rfl, rfl⟩ rfl rfl rfl rfl rfl (by kernel_rfl) Tryz.func5 (by kernel_rfl)
    (of_decide_eq_true (by kernel_rfl)) (by unfold Func.isWrapper; first | (rw [if_pos (by decide +kernel)]; kernel_rfl) | (rw [if_neg (by decide +kernel)]; exact ⟨rfl, rfl⟩))
    (fun os started H enc _ F => by rw [OpenClaim.pre_eq_preRow]; exact lifted os started H enc F)

theorem plain (f : FuncId) (fn : Func) (hf : Tryz.pinned.checked.prog.funcNamed "gatewicket/wickkeep.OneBack" = some f) (hfn : Tryz.pinned.checked.prog.funcs[f]? = some fn) :
    false = Tryz.pinned.checked.prog.looks [] ∧ ∀ (j : Nat) t, fn.params[j]? = some t → Tryz.pinned.checked.prog.wantsStandIn t = false := by
  obtain rfl : f = 5 := Option.some.inj ((show Tryz.prog.funcNamed "gatewicket/wickkeep.OneBack" = some 5 by kernel_rfl).symm.trans hf) |>.symm
  obtain rfl : fn = Tryz.f5 := (Option.some.inj (Tryz.func5.symm.trans hfn)).symm
  refine ⟨by kernel_rfl, fun j t ht => ?_⟩
  rw [Tryz.params5] at ht
  have hm : t = 30 ∨ t = 44 ∨ t = 9 := by simpa using Array.mem_of_getElem? ht
  rcases hm with rfl | rfl | rfl
  · exact (show Tryz.prog.wantsStandIn 30 = false by kernel_rfl)
  · exact (show Tryz.prog.wantsStandIn 44 = false by kernel_rfl)
  · exact (show Tryz.prog.wantsStandIn 9 = false by kernel_rfl)

theorem over : Rows.OneBackUptoCardSaid :=
  Claim7.holds_tied_plain_at .later [] _ _ _ _ row (fun _ h => by cases h) (by kernel_rfl) (fun _ h => by cases h) oneBackUpto_row_tie rfl ⟨rfl, rfl⟩ (by kernel_rfl) rfl plain (by kernel_rfl)
end Go.Proofs.YtjpclmkekmkddaaGreatDoor.oneBack
namespace Go.Proofs.YtjpclmkekmkddaaGreatDoor
theorem oneBack_holds : Rows.OneBackUptoCardSaid := oneBack.over
#print axioms oneBack_holds
end Go.Proofs.YtjpclmkekmkddaaGreatDoor
