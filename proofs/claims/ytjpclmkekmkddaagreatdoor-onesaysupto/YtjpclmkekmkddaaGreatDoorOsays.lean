/- Whatever is handed in, Check and One answer what the document says.
   Conditions: what is handed in is of bulk at most 1048576; the library's tables are as the program's text lays them, and its own variable MaxLen holds whatever number. -/
import Derived.Test.YtjpclmkekmkddaaGreatDoorRows
import Derived.Test.YtjpclmkekmkddaaGreatDoorTie
import Derived.Test.YtjpclmkekmkddaaGreatDoorCards
import Derived.WalkKit
import Derived.ProofKit
import Derived.OpenShut
import Derived.ShutString
import Derived.JoinedCond
import Derived.Test.YtjpclmkekmkddaaGreatDoorUi
import Derived.Test.YtjpclmkekmkddaaGreatDoorUB
import Derived.Test.YtjpclmkekmkddaaGreatDoorLaid
import Derived.Stop.LaidErr
namespace Go.Proofs.YtjpclmkekmkddaaGreatDoor.oneSays
open Go.ChangeShapes Go.WideShapes Go.ChangeAt Go.RowKit
open Go.ChangeMaps (open_string shut_string)
open Kb
open Mh (Fl)
set_option linter.unusedVariables false
set_option maxRecDepth 20000
set_option maxRecDepth 20000

set_option maxHeartbeats 8000000 in
theorem walk_m (s : ByteArray) (hd bd ar : Int) (k : Int) (hb : s.size ≤ 1048576) (w : World) (hm : MH k w) :
    Calls Tryz.prog 3 #[.string s, .agg #[.int .i64 hd, .int .i64 bd, .int .i64 ar]] w fun e w' => e = .returned (.bool true) ∧ Below w.heap.size w w' := by
  obtain ⟨⟨⟨a, b, fs, t⟩, n, z⟩, ho⟩ : ∃ o, On.tellQ (On.oneB hd bd ar s.data.toList) = o := ⟨_, rfl⟩
  have HBN := hide (fun W => bounds_any hd bd ar W)
  have HCK := hide (fun W => check1_any hd bd ar W)
  have HON := hide (fun W (hW : MH k W) => one_any s hd bd ar k W hb hW _ ho)
  have hfl : fs.length ≤ 4398046511104 ∧ (On.bnd hd bd ar ≠ 0 → a = [] ∧ b = [] ∧ fs = [] ∧ t = [] ∧ n = 0 ∧ z = On.bnd hd bd ar) := by
    unfold On.oneB at ho
    split at ho
    · dsimp only [On.tellQ] at ho
      injection ho with e1 e2; injection e1 with e1 e3; injection e3 with e3 e4; injection e4 with e4 e5; injection e2 with e2 e6
      subst e1 e3 e4 e5 e2 e6
      exact ⟨by decide, fun _ => ⟨rfl, rfl, rfl, rfl, rfl, rfl⟩⟩
    · rename_i h
      refine ⟨?_, fun h' => absurd h' h⟩
      exact On.one_len ho
  have HR := hide (fun (h : On.bnd hd bd ar = 0) W => rone_b s hd bd ar W hb h _ ho)
  have HSM := hide (fun W v u (h1 : Flds W v fs) (h2 : Flds W u fs) => samereq_any a b t v u fs W h1 h2)
  have HFL := hide hfl
  dsimp only at HON HR
  unfold bndV at HBN HCK HON HR
  unfold reqV at HSM
  obtain ⟨x, hx⟩ : ∃ x, mk a = x := ⟨_, rfl⟩
  obtain ⟨y, hy⟩ : ∃ y, mk b = y := ⟨_, rfl⟩
  obtain ⟨q, hq⟩ : ∃ q, mk t = q := ⟨_, rfl⟩
  have HXY : Hid (mk a = x ∧ mk b = y ∧ mk t = q) := hide ⟨hx, hy, hq⟩
  rw [hx, hy, hq] at HON HR HSM
  obtain ⟨c, hc⟩ : ∃ c, On.bnd hd bd ar = c := ⟨_, rfl⟩
  rw [hc] at HBN HCK HFL HR
  clear hx hy hq hc ho hfl
  obtain ⟨z0, z1, z2⟩ := three_newF w (.int .i64 hd) (.int .i64 bd) (.int .i64 ar) 23
  have b0 := (Below.refl w.heap.size w).alloc (Nat.le_refl _) (.cells #[.int .i64 hd, .int .i64 bd, .int .i64 ar] 23)
  have hl0 : w.heap.size < (w.alloc (.cells #[.int .i64 hd, .int .i64 bd, .int .i64 ar] 23)).heap.size := by simp
  obtain ⟨W0, hW0⟩ : ∃ W, w.alloc (.cells #[.int .i64 hd, .int .i64 bd, .int .i64 ar] 23) = W := ⟨_, rfl⟩
  rw [hW0] at b0 z0 z1 z2 hl0
  have HM0 := hide (hm.below b0)
  have B0 := hide b0
  clear b0 hm
  go_enter Tryz.func3, Tryz.ntmps3
  go_wp2_with fail
  clear hW0
  refine ((unhide HBN) W0).mono ?_; rintro e w1 ⟨rfl, b1⟩
  have B1 := hide (bel_trans (unhide B0) b1)
  have HM1 := hide ((unhide HM0).below b1)
  have x0 := cell_below z0 hl0 b1
  have x1 := cell_below z1 hl0 b1
  have x2 := cell_below z2 hl0 b1
  have hl1 := Nat.lt_of_lt_of_le hl0 b1.size
  clear b1 z0 z1 z2 hl0 B0 HM0 HBN
  go_wp2_with fail
  refine ((unhide HON) w1 (unhide HM1)).mono ?_; rintro e w2 ⟨v, rfl, own2, b2⟩
  obtain ⟨vo, vc, rfl⟩ := own_forms own2
  have F2 := Flds.own own2 (unhide HFL).1
  have B2 := bel_trans (unhide B1) b2
  have z0 := cell_below x0 hl1 b2
  have z1 := cell_below x1 hl1 b2
  have z2 := cell_below x2 hl1 b2
  have hl2 := Nat.lt_of_lt_of_le hl1 b2.size
  clear b2 own2 x0 x1 x2 hl1 B1 HM1 HON
  have Q3 := QX.new (base := w2.heap.size) w2 (Nat.le_refl _) x y vo fs.length vc q
  have bb := (Below.refl w2.heap.size w2).alloc (Nat.le_refl _) (.cells #[.string x, .string y, .slice vo fs.length vc, .string q] 30)
  obtain ⟨g3, hg3⟩ : ∃ g, w2.heap.size = g := ⟨_, rfl⟩
  obtain ⟨W3, hW3⟩ : ∃ W, w2.alloc (.cells #[.string x, .string y, .slice vo fs.length vc, .string q] 30) = W := ⟨_, rfl⟩
  rw [hW3] at bb Q3
  have F3 := hide (F2.below bb)
  have B3 := hide (bel_trans B2 bb)
  have x0 := cell_below z0 hl2 bb
  have x1 := cell_below z1 hl2 bb
  have x2 := cell_below z2 hl2 bb
  have hl3 := Nat.lt_of_lt_of_le hl2 bb.size
  rw [hg3] at Q3
  have R3 := hide Q3
  clear bb F2 B2 z0 z1 z2 hl2 Q3
  go_wp2_with fail
  clear hW3 hg3
  refine ((unhide HCK) W3).mono ?_; rintro e w4 ⟨rfl, b4⟩
  have F4 := hide ((unhide F3).below b4)
  have B4 := hide (bel_trans (unhide B3) b4)
  have R4 := hide ((unhide R3).below b4)
  have z0 := cell_below x0 hl3 b4
  have z1 := cell_below x1 hl3 b4
  have z2 := cell_below x2 hl3 b4
  have hl4 := Nat.lt_of_lt_of_le hl3 b4.size
  clear b4 F3 B3 R3 x0 x1 x2 hl3 HCK
  obtain ⟨q0, q1, q2, q3⟩ := (unhide R4).cells
  by_cases hc : c = 0
  · have HR2 := hide ((unhide HR) hc)
    subst hc
    clear HR
    go_wp2_with fail
    refine ((unhide HR2) w4).mono ?_; rintro e w5 ⟨v5, rfl, own5, b5⟩
    obtain ⟨uo, uc, rfl⟩ := own_forms own5
    have F5 := (unhide F4).below b5
    have G5 := Flds.own own5 (unhide HFL).1
    have B5 := bel_trans (unhide B4) b5
    have R5 := (unhide R4).below b5
    clear b5 own5 F4 B4 R4 z0 z1 z2 hl4 q0 q1 q2 q3 HR2
    have Q6 := QX.new (base := w5.heap.size) w5 (Nat.le_refl _) x y uo fs.length uc q
    have bb := (Below.refl w5.heap.size w5).alloc (Nat.le_refl _) (.cells #[.string x, .string y, .slice uo fs.length uc, .string q] 30)
    obtain ⟨g6, hg6⟩ : ∃ g, w5.heap.size = g := ⟨_, rfl⟩
    obtain ⟨W6, hW6⟩ : ∃ W, w5.alloc (.cells #[.string x, .string y, .slice uo fs.length uc, .string q] 30) = W := ⟨_, rfl⟩
    rw [hW6] at bb Q6
    have HS := hide ((unhide HSM) W6 _ _ (F5.below bb) (G5.below bb))
    have B6 := hide (bel_trans B5 bb)
    have R6 := R5.below bb
    rw [hg6] at Q6
    obtain ⟨q0, q1, q2, q3⟩ := R6.cells
    obtain ⟨y0, y1, y2, y3⟩ := Q6.cells
    clear bb F5 G5 B5 R5 Q6 R6 HSM HFL HXY
    go_wp2_with fail
    refine (unhide HS).mono ?_; rintro e w7 ⟨rfl, b7⟩
    have B7 := hide (bel_trans (unhide B6) b7)
    clear b7 hW6 hg6 q0 q1 q2 q3 y0 y1 y2 y3
    go_wp2_with fail
    go_ret
    exact ⟨rfl, unhide B7⟩
  · obtain ⟨e1, e2, e3, e4, e5, e6⟩ := (unhide HFL).2 hc
    have HS := hide (fun W (b : Below w4.heap.size w4 W) => (unhide HSM) W _ (.slice none 0 0) ((unhide F4).below b) (by rw [e3]; exact Flds.nil _))
    have hc0 : (c != 0) = true := by simpa using hc
    obtain ⟨h1, h2, h3⟩ := unhide HXY
    have hx0 : x = ByteArray.empty := by rw [← h1, e1]; rfl
    have hy0 : y = ByteArray.empty := by rw [← h2, e2]; rfl
    have hq0 : q = ByteArray.empty := by rw [← h3, e4]; rfl
    clear HR HSM HFL HXY h1 h2 h3 hc
    subst hx0 hy0 hq0 e5 e6 e3
    rw [List.length_nil] at q2 HS
    go_wp2_with fail
    refine ((unhide HS) w4 (Below.refl _ _)).mono ?_; rintro e w7 ⟨rfl, b7⟩
    have B7 := hide (bel_trans (unhide B4) b7)
    clear b7 q0 q1 q2 q3
    go_wp2_with fail
    go_ret
    exact ⟨rfl, unhide B7⟩
theorem walk (s : ByteArray) (hd bd ar : Int) (hb : s.size ≤ 1048576) (hh : (-9223372036854775808 ≤ hd ∧ hd ≤ 9223372036854775807) ∧ (-9223372036854775808 ≤ bd ∧ bd ≤ 9223372036854775807) ∧ (-9223372036854775808 ≤ ar ∧ ar ≤ 9223372036854775807)) (w : World) (hsh : w.ShapedOpen Tryz.prog) (hL : laidMetH Tryz.prog Rows.oneSaysUptoRow.laid w) :
    Calls Tryz.prog 3 #[.string s, .agg #[.int .i64 hd, .int .i64 bd, .int .i64 ar]] w fun e w' => e = .returned (.bool true) ∧ Below w.heap.size w w' := by
  obtain ⟨k, hk⟩ := Tryz.laysM145.s1_3 w hsh
  exact walk_m s hd bd ar k hb w hk
theorem own : ownKnob Tryz.prog.godebug = none := by kernel_rfl

theorem small_of {H : Type} {b1 c1 : Int} {a0 : ByteArray} {a1 : Int} (hk : Rows.uptoSmall H ([.lit (.string a0.data.toList), .agg [.lit (.int .i64 a1), .lit (.int .i64 b1), .lit (.int .i64 c1)]] ++ []) = true) : a0.size ≤ 1048576 := by
  have h := of_decide_eq_true hk
  simp only [Rows.uptoBulkAll, Rows.uptoBulk, List.append_nil, Array.length_toList, ByteArray.size_data] at h
  omega

theorem contract (H : Type) (enc : TypeId × Value → H) (W : World) (base : Nat) (args : Array Value) (ds gs : List (DataW H)) (before : List MemPlace) (hsh : W.ShapedOpen Tryz.prog)
    (hval0 : ∀ (j : Nat) t v, Tryz.f3.params[j]? = some t → args[j]? = some v → Value.okWide Tryz.prog W .any base t v)
    (hW : DataW.Whole enc Tryz.prog Tryz.f3.params.toList Rows.oneSaysSpec.vars false W args.toList ds gs before) (hk : Rows.uptoSmall H (ds ++ gs) = true) (hL : laidMetH Tryz.prog Rows.oneSaysUptoRow.laid W) :
    Calls Tryz.prog 3 args W fun e W' => ∃ v, e = .returned v ∧ Rows.oneSaysSpec.post enc Tryz.prog Tryz.f3 false true false false W args v W' := by
  have hval : ∀ (j : Nat) t v, Tryz.f3.params[j]? = some t → args[j]? = some v → Value.okWide Tryz.prog W .any base t v := hval0
  have hW' := hW
  obtain ⟨p, q, hA0, hV, rfl, hfz, hnd⟩ := hW
  have hA : DataW.TrodAll enc Tryz.prog W 0 (fun _ => true) true Tryz.f3.params.toList args.toList ds p := hA0
  rw [Tryz.params3] at hA hval
  obtain ⟨v0, vs0, d0, ds0, p0, q0, hargs, rfl, rfl, h0, r0⟩ := trodAll_cons hA
  obtain ⟨v1, vs1, d1, ds1, p1, q1, rfl, rfl, rfl, h1, r1⟩ := trodAll_cons r0
  obtain ⟨rfl, rfl, rfl⟩ := trodAll_nil r1
  obtain rfl : args = #[v0, v1] := by cases args; simp_all
  obtain ⟨rfl, rfl⟩ := trodVars_none hV
  obtain ⟨a0, rfl, rfl, rfl, w0⟩ := open_string Tryz.underlying9 (hval 0 9 v0 rfl rfl) h0
  obtain ⟨c1, e1, k1, y1, z1, o1, m1, rfl, rfl, rfl, hy1, hz1, ho1⟩ := Go.Joins.open_agg3 Tryz.underlying23 (by kernel_rfl) (by kernel_rfl) (hval 1 23 v1 rfl rfl) h1
  obtain ⟨a1, ea1, rfl, w1⟩ := DataW.trod_int Tryz.underlying3 hy1
  obtain ⟨b1, eb1, rfl, x1⟩ := DataW.trod_int Tryz.underlying3 hz1
  obtain ⟨j1, ej1, rfl, xx1⟩ := DataW.trod_int Tryz.underlying3 ho1
  simp at ea1 eb1 ej1
  subst ea1 eb1 ej1
  clear hA0 hval0
  simp only [List.append_nil] at hW'
  have hd1 : (-9223372036854775808 ≤ a1 ∧ a1 ≤ 9223372036854775807) ∧ (-9223372036854775808 ≤ b1 ∧ b1 ≤ 9223372036854775807) ∧ (-9223372036854775808 ≤ j1 ∧ j1 ≤ 9223372036854775807) := ⟨ by simpa [Lit.wf, IntKind.min, IntKind.max, IntKind.signed, IntKind.bits] using w1, by simpa [Lit.wf, IntKind.min, IntKind.max, IntKind.signed, IntKind.bits] using x1, by simpa [Lit.wf, IntKind.min, IntKind.max, IntKind.signed, IntKind.bits] using xx1⟩
  refine (walk a0 a1 b1 j1 (small_of hk) hd1 W hsh hL).mono fun e W' ⟨he, hb⟩ => ?_
  subst he
  exact ⟨_, rfl, _, _, _, [], [], [], hW', (trodAll_cons_mk (shut_bool Tryz.underlying4 _) trodAll_mk0), (trodAll_cons_mk (shut_string Tryz.underlying9 w0) (trodAll_cons_mk (Go.Joins.shut_agg3 (y0 := (.lit (.int .i64 a1), [])) (y1 := (.lit (.int .i64 b1), [])) (y2 := (.lit (.int .i64 j1), [])) Tryz.underlying23 (by kernel_rfl) (by kernel_rfl) ⟨1, by simp [DataW.trod, Tryz.underlying3, w1]⟩ ⟨1, by simp [DataW.trod, Tryz.underlying3, x1]⟩ ⟨1, by simp [DataW.trod, Tryz.underlying3, xx1]⟩) trodAll_mk0)), rfl, hb.frame _, fun h => by cases h⟩

theorem reads (os : Os) {H : Type} (enc : TypeId × Value → H) : ∃ places, DataW.whole enc Tryz.prog ((laidIn (World.holding Tryz.prog os ⟨#[], #[], []⟩)).forCall (fun _ _ => 0) ⟨#[], #[.string ByteArray.empty, .agg #[.int .i64 0, .int .i64 0, .int .i64 0]], []⟩).memory Tryz.f3.params.toList Rows.oneSaysSpec.vars false (#[.string ByteArray.empty, .agg #[.int .i64 0, .int .i64 0, .int .i64 0]] : Array Value).toList 8 = some ([.lit (.string []), .agg [.lit (.int .i64 0), .lit (.int .i64 0), .lit (.int .i64 0)]], [], places) :=
  ⟨[], by kernel_rfl⟩
theorem laid_met (os : Os) : laidMet Tryz.prog Rows.oneSaysUptoRow.laid ((laidIn (World.holding Tryz.prog os ⟨#[], #[], []⟩)).forCall (fun _ _ => 0) ⟨#[], #[.string ByteArray.empty, .agg #[.int .i64 0, .int .i64 0, .int .i64 0]], []⟩).memory :=
  laidMet_of_run' 8 (by kernel_rfl) (by kernel_rfl)

set_option maxRecDepth 100000 in
theorem lifted (os : Os) (started : os.Started) (H : Type) (enc : TypeId × Value → H) (F : Stop.Interp) :
    ReturnsInHanded {} Tryz.checked os 3 .any ((Rows.OpenSpec.upto Rows.oneSaysSpec).preRow enc Tryz.prog Tryz.f3 Rows.oneSaysUptoRow.domain false Rows.oneSaysUptoRow.laid) (((Rows.OpenSpec.upto Rows.oneSaysSpec).at F).post enc Tryz.prog Tryz.f3 false true false false) := by
  obtain ⟨places, hx⟩ := reads os enc
  refine returnsInHanded_of_row (C := Tryz.checked) (s := Rows.OpenSpec.upto Rows.oneSaysSpec) own started (by kernel_rfl) Tryz.func3
    (witness_row_at (enc := enc) (C := Tryz.checked) false (laidIn (World.holding Tryz.prog os ⟨#[], #[], []⟩)) #[.string ByteArray.empty, .agg #[.int .i64 0, .int .i64 0, .int .i64 0]] rfl (by kernel_rfl) (by kernel_rfl) (by kernel_rfl)
      (OpenSpec.preRow_of_cond 8 hx (by kernel_rfl) (fun k hk => by cases hk; kernel_rfl) (by kernel_rfl) (laid_met os))) ?_
  intro W base args ds gs before hval hW _ hcond _ hL hsh _
  exact contract H enc W base args ds gs before hsh hval hW (hcond _ rfl) hL

theorem row : Rows.OneSaysUptoSaid :=
  OpenClaim.holds_of_cond 3 Tryz.f3 rfl rfl rfl rfl rfl rfl rfl ⟨rfl, rfl, rfl, rfl, rfl⟩ rfl rfl rfl rfl rfl (by kernel_rfl) Tryz.func3 (by kernel_rfl)
    (of_decide_eq_true (by kernel_rfl)) (by unfold Func.isWrapper; first | (rw [if_pos (by decide +kernel)]; kernel_rfl) | (rw [if_neg (by decide +kernel)]; exact ⟨rfl, rfl⟩))
    (fun os started H enc _ F => by rw [OpenClaim.pre_eq_preRow]; exact lifted os started H enc F)

theorem plain (f : FuncId) (fn : Func) (hf : Tryz.pinned.checked.prog.funcNamed "gatewicket/wicklaw.OneSays" = some f) (hfn : Tryz.pinned.checked.prog.funcs[f]? = some fn) :
    false = Tryz.pinned.checked.prog.looks [] ∧ ∀ (j : Nat) t, fn.params[j]? = some t → Tryz.pinned.checked.prog.wantsStandIn t = false := by
  obtain rfl : f = 3 := Option.some.inj ((show Tryz.prog.funcNamed "gatewicket/wicklaw.OneSays" = some 3 by kernel_rfl).symm.trans hf) |>.symm
  obtain rfl : fn = Tryz.f3 := (Option.some.inj (Tryz.func3.symm.trans hfn)).symm
  refine ⟨by kernel_rfl, fun j t ht => ?_⟩
  rw [Tryz.params3] at ht
  have hm : t = 9 ∨ t = 23 := by simpa using Array.mem_of_getElem? ht
  rcases hm with rfl | rfl
  · exact (show Tryz.prog.wantsStandIn 9 = false by kernel_rfl)
  · exact (show Tryz.prog.wantsStandIn 23 = false by kernel_rfl)

theorem over : Rows.OneSaysUptoCardSaid :=
  Claim7.holds_tied_plain_at .later [] _ _ _ _ row (fun _ h => by cases h) (by kernel_rfl) (fun _ h => by cases h) oneSaysUpto_row_tie rfl ⟨rfl, rfl⟩ (by kernel_rfl) rfl plain (by kernel_rfl)
end Go.Proofs.YtjpclmkekmkddaaGreatDoor.oneSays
namespace Go.Proofs.YtjpclmkekmkddaaGreatDoor
theorem oneSays_holds : Rows.OneSaysUptoCardSaid := oneSays.over
#print axioms oneSays_holds
end Go.Proofs.YtjpclmkekmkddaaGreatDoor
