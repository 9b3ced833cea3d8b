/- What is printed is read as it was; an address is in its own net, and in a wider one if in a narrower: whatever is handed in.
   Conditions: the library's tables are as the program's text lays them, and its own variable MaxLen holds whatever number. -/
import Derived.Test.YtmhjfiaohbioeaaDoorRows
import Derived.Test.YtmhjfiaohbioeaaDoorTie
import Derived.Test.YtmhjfiaohbioeaaDoorCards
import Derived.WalkKit
import Derived.ProofKit
import Derived.OpenShut
import Derived.ShutString
import Derived.JoinedCond
import Derived.Lib.SmallJoins
import Derived.Test.YtmhjfiaohbioeaaDoorNe
import Derived.Test.YtmhjfiaohbioeaaDoorLq
import Derived.Stop.LaidErr
namespace Go.Proofs.YtmhjfiaohbioeaaDoor.netsBack
open Go.ChangeShapes Go.WideShapes Go.ChangeAt Go.RowKit
open Kb
set_option linter.unusedVariables false
set_option maxRecDepth 20000

theorem p10 : Nt.parse [49, 48, 46, 49, 46, 48, 46, 48, 47, 49, 54] = (167837696, 16, 0) := by
  have h := Nt.parse_tx (a := 167837696) (b := 16) (by decide) ⟨by decide, by decide, by decide⟩
  have e : Nt.tx 167837696 16 = [49, 48, 46, 49, 46, 48, 46, 48, 47, 49, 54] := by
    unfold Nt.tx Nt.txA
    rw [if_pos (by decide), Lib.decDigits_two (i := 167837696 / 16777216) (by decide) (by decide), Lib.decDigits_one (i := 167837696 / 65536 % 256) (by decide), Lib.decDigits_one (i := 167837696 / 256 % 256) (by decide), Lib.decDigits_two (i := 16) (by decide) (by decide)]
    rfl
  rwa [e] at h
set_option maxHeartbeats 4000000 in
theorem walk_m (a : Nat) (b : Int) (d : Nat) (bits : Int) (ha : a < 4294967296) (hb : -9223372036854775808 ≤ b ∧ b ≤ 9223372036854775807) (hd : d < 4294967296) (hbits : -9223372036854775808 ≤ bits ∧ bits ≤ 9223372036854775807) (m : Int) (w : World) (hm : MX m w)
    (ht : Lib.TabIs Tryd.prog w "internal/strconv.uint64pow10" .u64 Lib.pow10Tab) :
    Calls Tryd.prog 5 #[.agg #[.int .u32 a, .int .i64 b], .int .u32 d, .int .i64 bits] w fun e w' => e = .returned (.bool true) ∧ Below w.heap.size w w' := by
  have P0 := hide (fun W (hW : MX m W) => nparse_any ⟨#[49, 48, 46, 49, 46, 48, 46, 48, 47, 49, 54]⟩ m W (by decide) hW 167837696 16 0 p10)
  have X0 := hide (NX.new (base := w.heap.size) w (Nat.le_refl _) a b)
  have B0 := hide ((Below.refl w.heap.size w).alloc (Nat.le_refl _) (.cells #[.int .u32 a, .int .i64 b] 24))
  have T0 := hide ((Lib.tabBelow_of_tabIs ht).on (unhide B0))
  have M0 := hide (hm.below (unhide B0))
  clear ht hm
  obtain ⟨W0, hW0⟩ : ∃ W0, w.alloc (.cells #[.int .u32 a, .int .i64 b] 24) = W0 := ⟨_, rfl⟩
  rw [hW0] at X0 B0 T0 M0
  go_enter Tryd.func5, Tryd.ntmps5
  go_wp2_with fail
  clear hW0
  refine ((unhide P0) W0 (unhide M0)).mono ?_
  rintro e w1 ⟨rfl, b1⟩
  have B1 := hide (bel_trans (unhide B0) b1)
  have X1 := hide ((unhide X0).below b1)
  have T1 := hide ((unhide T0).on (b1.mono (unhide B0).size))
  have M1 := hide ((unhide M0).below b1)
  clear b1 P0 B0 X0 T0 M0
  obtain ⟨x0, x1⟩ := (unhide X1).cells
  have hl1 := (unhide X1).lt
  have bb := (Below.refl w1.heap.size w1).alloc (Nat.le_refl _) (.cells #[.int .u32 167837696, .int .i64 16] 24)
  have B2 := hide (bel_trans (unhide B1) bb)
  have X2 := hide ((unhide X1).below bb)
  have T2 := hide ((unhide T1).on (bb.mono (unhide B1).size))
  have M2 := hide ((unhide M1).below bb)
  obtain ⟨W2, hW2⟩ : ∃ W2, w1.alloc (.cells #[.int .u32 167837696, .int .i64 16] 24) = W2 := ⟨_, rfl⟩
  have Y2 := NX.new (base := w.heap.size) w1 (unhide B1).size 167837696 16
  rw [hW2] at B2 X2 T2 M2 Y2
  obtain ⟨m0, m1⟩ := Y2.cells
  clear bb B1 X1 T1 M1 Y2 x0 x1
  obtain ⟨x0, x1⟩ := (unhide X2).cells
  have IN := hide (fun (d : Nat) (hd : d < 4294967296) (W : World) => In_any a b d ha hd W)
  have hl2 := (unhide X2).lt
  by_cases hr : Nt.right a b
  · have hr' := hr
    obtain ⟨n, rfl⟩ := Int.eq_ofNat_of_zero_le hr'.1
    obtain ⟨q, hq⟩ : ∃ q, q = Nt.tx a n := ⟨_, rfl⟩
    have PR := hide (fun (W : World) (hT : Lib.TabIs Tryd.prog W "internal/strconv.uint64pow10" .u64 Lib.pow10Tab) => print_yes a n ha hr W hT q hq)
    have hql : q.length ≤ 18 := by rw [hq]; exact Nt.tx_len ha
    have P1 := hide (fun W (hW : MX m W) => nparse_any (mk q) m W (by rw [szM]; omega) hW a n 0 (by rw [show (mk q).data.toList = q by simp [mk], hq]; exact Nt.parse_tx ha hr))
    clear hr hr' hq
    go_wp2_with fail
    refine ((unhide PR) W2 (unhide T2).here).mono ?_
    rintro e w3 ⟨rfl, b3⟩
    have B3 := hide (bel_trans (unhide B2) b3)
    have X3 := hide ((unhide X2).below b3)
    have M3 := hide ((unhide M2).below b3)
    clear b3 PR B2 X2 T2 M2 hW2 x0 x1 m0 m1
    go_wp2_with fail
    refine ((unhide P1) w3 (unhide M3)).mono ?_
    rintro e w4 ⟨rfl, b4⟩
    have bb := (Below.refl w4.heap.size w4).alloc (Nat.le_refl _) (.cells #[.int .u32 a, .int .i64 n] 24)
    have B4 := hide (bel_trans (bel_trans (unhide B3) b4) bb)
    have X4 := hide (((unhide X3).below b4).below bb)
    have Y4 := NX.new (base := w.heap.size) w4 (bel_trans (unhide B3) b4).size a n
    obtain ⟨W4, hW4⟩ : ∃ W4, w4.alloc (.cells #[.int .u32 a, .int .i64 n] 24) = W4 := ⟨_, rfl⟩
    rw [hW4] at B4 X4 Y4
    obtain ⟨m0, m1⟩ := Y4.cells
    obtain ⟨x0, x1⟩ := (unhide X4).cells
    have hl4 := (unhide X4).lt
    have IS := hide (fun (W : World) => unhide IN a ha W)
    rw [Nt.in_self] at IS
    clear b4 bb B3 X3 M3 P1 Y4
    go_wp2_with fail
    refine ((unhide IS) W4).mono ?_
    rintro e w5 ⟨rfl, b5⟩
    have B5 := hide (bel_trans (unhide B4) b5)
    have X5 := hide ((unhide X4).below b5)
    clear b5 B4 X4 hW4 m0 m1 x0 x1 IS
    obtain ⟨x0, x1⟩ := (unhide X5).cells
    have hl5 := (unhide X5).lt
    have RS := hide (fun (W : World) => Rest_any bits 33 hbits (by omega) (by omega) W)
    have hk0 := Int.emod_nonneg bits (by omega : (33 : Int) ≠ 0)
    have hk1 := Int.emod_lt_of_pos bits (by omega : (0 : Int) < 33)
    obtain ⟨k, hk⟩ : ∃ k, bits % 33 = k := ⟨_, rfl⟩
    rw [hk] at RS hk0 hk1
    have HWD : Hid (Nt.inN a n d = true → Nt.inN a (min k n) d = true) := hide (Nt.in_wide (by unfold Nt.ask; omega))
    have IW := hide (fun (W : World) => In_any a (min k n) d ha hd W)
    have ID := hide (fun (W : World) => unhide IN d hd W)
    clear hk IN
    go_wp2_with fail
    refine ((unhide RS) w5).mono ?_
    rintro e wr ⟨rfl, hw⟩; rw [hw]; clear hw wr
    have bb := (Below.refl w5.heap.size w5).alloc (Nat.le_refl _) (.cells #[.int .u32 a, .int .i64 (min k n)] 24)
    have BA := hide (bel_trans (unhide B5) bb)
    have XA := hide ((unhide X5).below bb)
    have YA := NX.new (base := w.heap.size) w5 (unhide B5).size a (min k n)
    obtain ⟨ga, hga⟩ : ∃ g, w5.heap.size = g := ⟨_, rfl⟩
    obtain ⟨WA, hWA⟩ : ∃ WA, w5.alloc (.cells #[.int .u32 a, .int .i64 (min k n)] 24) = WA := ⟨_, rfl⟩
    rw [hWA] at BA XA YA
    rw [hga] at YA hl5
    obtain ⟨p0, p1⟩ := YA.cells
    have YAH := hide YA
    obtain ⟨v0, v1⟩ := (unhide XA).cells
    have hlA := (unhide XA).lt
    clear bb B5 X5 RS YA
    go_wp2_with fail
    refine ((unhide ID) WA).mono ?_
    rintro e wb ⟨rfl, b5⟩
    have BB := hide (bel_trans (unhide BA) b5)
    have XB := hide ((unhide XA).below b5)
    have YB := hide ((unhide YAH).below b5)
    clear b5 BA XA YAH hWA hga p0 p1 v0 v1 x0 x1 ID
    obtain ⟨x0, x1⟩ := (unhide XB).cells
    obtain ⟨p0, p1⟩ := (unhide YB).cells
    obtain ⟨t, hin⟩ : ∃ t, Nt.inN a n d = t := ⟨_, rfl⟩
    rw [hin] at HWD ⊢
    clear hin
    cases t with
    | false =>
      go_wp2_with fail
      go_ret
      exact ⟨ret_bool (by simp), unhide BB⟩
    | true =>
      have hin2 := unhide HWD rfl
      rw [hin2] at IW
      clear HWD hin2
      go_wp2_with fail
      refine ((unhide IW) wb).mono ?_
      rintro e wc ⟨rfl, b6⟩
      have BC := hide (bel_trans (unhide BB) b6)
      clear b6
      go_wp2_with fail
      go_ret
      exact ⟨ret_bool (by simp), unhide BC⟩
  · have PR := hide (fun (W : World) => print_no a b ha hr W)
    clear hr
    go_wp2_with fail
    refine ((unhide PR) W2).mono ?_
    rintro e w3 ⟨rfl, b3⟩
    have B3 := hide (bel_trans (unhide B2) b3)
    have X3 := hide ((unhide X2).below b3)
    clear b3 PR B2 X2 T2 M2 hW2 x0 x1 m0 m1
    obtain ⟨x0, x1⟩ := (unhide X3).cells
    have hl3 := (unhide X3).lt
    have RS := hide (fun (W : World) => Rest_any bits 33 hbits (by omega) (by omega) W)
    have hk0 := Int.emod_nonneg bits (by omega : (33 : Int) ≠ 0)
    have hk1 := Int.emod_lt_of_pos bits (by omega : (0 : Int) < 33)
    obtain ⟨k, hk⟩ : ∃ k, bits % 33 = k := ⟨_, rfl⟩
    rw [hk] at RS hk0 hk1
    have HWD : Hid (Nt.inN a b d = true → Nt.inN a (min k b) d = true) := hide (Nt.in_wide (by unfold Nt.ask; omega))
    have IW := hide (fun (W : World) => In_any a (min k b) d ha hd W)
    have ID := hide (fun (W : World) => unhide IN d hd W)
    clear hk IN
    go_wp2_with fail
    refine ((unhide RS) w3).mono ?_
    rintro e wr ⟨rfl, hw⟩; rw [hw]; clear hw wr
    have bb := (Below.refl w3.heap.size w3).alloc (Nat.le_refl _) (.cells #[.int .u32 a, .int .i64 (min k b)] 24)
    have BA := hide (bel_trans (unhide B3) bb)
    have XA := hide ((unhide X3).below bb)
    have YA := NX.new (base := w.heap.size) w3 (unhide B3).size a (min k b)
    obtain ⟨ga, hga⟩ : ∃ g, w3.heap.size = g := ⟨_, rfl⟩
    obtain ⟨WA, hWA⟩ : ∃ WA, w3.alloc (.cells #[.int .u32 a, .int .i64 (min k b)] 24) = WA := ⟨_, rfl⟩
    rw [hWA] at BA XA YA
    rw [hga] at YA hl3
    obtain ⟨p0, p1⟩ := YA.cells
    have YAH := hide YA
    obtain ⟨v0, v1⟩ := (unhide XA).cells
    have hlA := (unhide XA).lt
    clear bb B3 X3 RS YA
    go_wp2_with fail
    refine ((unhide ID) WA).mono ?_
    rintro e wb ⟨rfl, b5⟩
    have BB := hide (bel_trans (unhide BA) b5)
    have XB := hide ((unhide XA).below b5)
    have YB := hide ((unhide YAH).below b5)
    clear b5 BA XA YAH hWA hga p0 p1 v0 v1 x0 x1 ID
    obtain ⟨x0, x1⟩ := (unhide XB).cells
    obtain ⟨p0, p1⟩ := (unhide YB).cells
    obtain ⟨t, hin⟩ : ∃ t, Nt.inN a b d = t := ⟨_, rfl⟩
    rw [hin] at HWD ⊢
    clear hin
    cases t with
    | false =>
      go_wp2_with fail
      go_ret
      exact ⟨ret_bool (by simp), unhide BB⟩
    | true =>
      have hin2 := unhide HWD rfl
      rw [hin2] at IW
      clear HWD hin2
      go_wp2_with fail
      refine ((unhide IW) wb).mono ?_
      rintro e wc ⟨rfl, b6⟩
      have BC := hide (bel_trans (unhide BB) b6)
      clear b6
      go_wp2_with fail
      go_ret
      exact ⟨ret_bool (by simp), unhide BC⟩

theorem walk (a0 b0 a1 a2 : Int) (hi2 : -9223372036854775808 ≤ a2 ∧ a2 ≤ 9223372036854775807) (hu1 : 0 ≤ a1 ∧ a1 ≤ 4294967295) (hu0 : 0 ≤ a0 ∧ a0 ≤ 4294967295) (hn0 : -9223372036854775808 ≤ b0 ∧ b0 ≤ 9223372036854775807) (w : World) (hsh : w.ShapedOpen Tryd.prog) (hL : laidMetH Tryd.prog Rows.netsBackRow.laid w) :
    Calls Tryd.prog 5 #[.agg #[.int .u32 a0, .int .i64 b0], .int .u32 a1, .int .i64 a2] w fun e w' => e = .returned (.bool true) ∧ Below w.heap.size w w' := by
  obtain ⟨m, hm⟩ := Tryd.laysM145.s1_3 w hsh
  have h1 : laidMet Tryd.prog [("math/bits.deBruijn32tab", Rows.laid_math_bits_deBruijn32tab), ("math/bits.deBruijn64tab", Rows.laid_math_bits_deBruijn64tab), ("internal/strconv.uint64pow10", Rows.laid_internal_strconv_uint64pow10)] w := hL
  obtain ⟨a, rfl⟩ := Int.eq_ofNat_of_zero_le hu0.1
  obtain ⟨d, rfl⟩ := Int.eq_ofNat_of_zero_le hu1.1
  exact walk_m a b0 d a2 (by omega) hn0 (by omega) hi2 m w hm (pow_tab h1.tail.tail)

theorem own : ownKnob Tryd.prog.godebug = none := by kernel_rfl

theorem contract (H : Type) (enc : TypeId × Value → H) (W : World) (base : Nat) (args : Array Value) (ds gs : List (DataW H)) (before : List MemPlace) (hsh : W.ShapedOpen Tryd.prog)
    (hval0 : ∀ (j : Nat) t v, Tryd.f5.params[j]? = some t → args[j]? = some v → Value.okWide Tryd.prog W .any base t v)
    (hW : DataW.Whole enc Tryd.prog Tryd.f5.params.toList Rows.netsBackSpec.vars false W args.toList ds gs before) (hL : laidMetH Tryd.prog Rows.netsBackRow.laid W) :
    Calls Tryd.prog 5 args W fun e W' => ∃ v, e = .returned v ∧ Rows.netsBackSpec.post enc Tryd.prog Tryd.f5 false true false false W args v W' := by
  have hval : ∀ (j : Nat) t v, Tryd.f5.params[j]? = some t → args[j]? = some v → Value.okWide Tryd.prog W .any base t v := hval0
  have hW' := hW
  obtain ⟨p, q, hA0, hV, rfl, hfz, hnd⟩ := hW
  have hA : DataW.TrodAll enc Tryd.prog W 0 (fun _ => true) true Tryd.f5.params.toList args.toList ds p := hA0
  rw [Tryd.params5] at hA hval
  obtain ⟨v0, vs0, d0, ds0, p0, q0, hargs, rfl, rfl, h0, r0⟩ := trodAll_cons hA
  obtain ⟨v1, vs1, d1, ds1, p1, q1, rfl, rfl, rfl, h1, r1⟩ := trodAll_cons r0
  obtain ⟨v2, vs2, d2, ds2, p2, q2, rfl, rfl, rfl, h2, r2⟩ := trodAll_cons r1
  obtain ⟨rfl, rfl, rfl⟩ := trodAll_nil r2
  obtain rfl : args = #[v0, v1, v2] := by cases args; simp_all
  obtain ⟨rfl, rfl⟩ := trodVars_none hV
  obtain ⟨c0, e0, y0, z0, m0, rfl, rfl, rfl, hy0, hz0⟩ := Go.Joins.open_agg2 Tryd.underlying24 (by kernel_rfl) (by kernel_rfl) (hval 0 24 v0 rfl rfl) h0
  obtain ⟨a0, ea0, rfl, w0⟩ := DataW.trod_int Tryd.underlying22 hy0
  obtain ⟨b0, eb0, rfl, x0⟩ := DataW.trod_int Tryd.underlying3 hz0
  simp at ea0 eb0
  subst ea0 eb0
  obtain ⟨a1, rfl, rfl, rfl, w1⟩ := open_int Tryd.underlying22 (hval 1 22 v1 rfl rfl) h1
  obtain ⟨a2, rfl, rfl, rfl, w2⟩ := open_int Tryd.underlying3 (hval 2 3 v2 rfl rfl) h2
  clear hA0 hval0
  simp only [List.append_nil] at hW'
  have hi2 : -9223372036854775808 ≤ a2 ∧ a2 ≤ 9223372036854775807 := by simpa [Lit.wf, IntKind.min, IntKind.max, IntKind.signed, IntKind.bits] using w2
  have hu1 : 0 ≤ a1 ∧ a1 ≤ 4294967295 := by simpa [Lit.wf, IntKind.min, IntKind.max, IntKind.signed, IntKind.bits] using w1
  have hu0 : 0 ≤ a0 ∧ a0 ≤ 4294967295 := by simpa [Lit.wf, IntKind.min, IntKind.max, IntKind.signed, IntKind.bits] using w0
  have hn0 : -9223372036854775808 ≤ b0 ∧ b0 ≤ 9223372036854775807 := by simpa [Lit.wf, IntKind.min, IntKind.max, IntKind.signed, IntKind.bits] using x0
  refine (walk a0 b0 a1 a2 hi2 hu1 hu0 hn0 W hsh hL).mono fun e W' ⟨he, hb⟩ => ?_
  subst he
  exact ⟨_, rfl, _, _, _, [], [], [], hW', (trodAll_cons_mk (shut_bool Tryd.underlying4 _) trodAll_mk0), (trodAll_cons_mk (Go.Joins.shut_agg2 (y0 := (.lit (.int .u32 a0), [])) (y1 := (.lit (.int .i64 b0), [])) Tryd.underlying24 (by kernel_rfl) (by kernel_rfl) ⟨1, by simp [DataW.trod, Tryd.underlying22, w0]⟩ ⟨1, by simp [DataW.trod, Tryd.underlying3, x0]⟩) (trodAll_cons_mk (shut_int Tryd.underlying22 w1) (trodAll_cons_mk (shut_int Tryd.underlying3 w2) trodAll_mk0))), rfl, hb.frame _, fun h => by cases h⟩

theorem reads (os : Os) {H : Type} (enc : TypeId × Value → H) : ∃ places, DataW.whole enc Tryd.prog ((laidIn (World.holding Tryd.prog os ⟨#[], #[], []⟩)).forCall (fun _ _ => 0) ⟨#[], #[.agg #[.int .u32 0, .int .i64 0], .int .u32 0, .int .i64 0], []⟩).memory Tryd.f5.params.toList Rows.netsBackSpec.vars false (#[.agg #[.int .u32 0, .int .i64 0], .int .u32 0, .int .i64 0] : Array Value).toList 8 = some ([.agg [.lit (.int .u32 0), .lit (.int .i64 0)], .lit (.int .u32 0), .lit (.int .i64 0)], [], places) :=
  ⟨[], by kernel_rfl⟩
theorem laid_met (os : Os) : laidMet Tryd.prog Rows.netsBackRow.laid ((laidIn (World.holding Tryd.prog os ⟨#[], #[], []⟩)).forCall (fun _ _ => 0) ⟨#[], #[.agg #[.int .u32 0, .int .i64 0], .int .u32 0, .int .i64 0], []⟩).memory :=
  laidMet_of_run' 8 (by kernel_rfl) (by kernel_rfl)

set_option maxRecDepth 100000 in
theorem lifted (os : Os) (started : os.Started) (H : Type) (enc : TypeId × Value → H) (F : Stop.Interp) :
    ReturnsInHanded {} Tryd.checked os 5 .any ((OpenSpec.ofChange Rows.netsBackSpec).preRow enc Tryd.prog Tryd.f5 Rows.netsBackRow.domain false Rows.netsBackRow.laid) (((OpenSpec.ofChange Rows.netsBackSpec).at F).post enc Tryd.prog Tryd.f5 false true false false) := by
  obtain ⟨places, hx⟩ := reads os enc
  refine returnsInHanded_of_row (C := Tryd.checked) (s := OpenSpec.ofChange Rows.netsBackSpec) own started (by kernel_rfl) Tryd.func5
    (witness_row_at (enc := enc) (C := Tryd.checked) false (laidIn (World.holding Tryd.prog os ⟨#[], #[], []⟩)) #[.agg #[.int .u32 0, .int .i64 0], .int .u32 0, .int .i64 0] rfl (by kernel_rfl) (by kernel_rfl) (by kernel_rfl)
      (OpenSpec.preRow_of_cond 8 hx (by kernel_rfl) (fun k hk => by cases hk) (by kernel_rfl) (laid_met os))) ?_
  intro W base args ds gs before hval hW _ hcond _ hL hsh _
  exact contract H enc W base args ds gs before hsh hval hW hL

theorem row : Rows.NetsBackSaid :=
  OpenClaim.holds_of_cond 5 Tryd.f5 rfl rfl rfl rfl rfl rfl rfl ⟨rfl, rfl, rfl, rfl, rfl⟩ rfl rfl rfl rfl rfl (by kernel_rfl) Tryd.func5 (by kernel_rfl)
    (of_decide_eq_true (by kernel_rfl)) (by unfold Func.isWrapper; first | (rw [if_pos (by decide +kernel)]; kernel_rfl) | (rw [if_neg (by decide +kernel)]; exact ⟨rfl, rfl⟩))
    (fun os started H enc _ F => by rw [OpenClaim.pre_eq_preRow]; exact lifted os started H enc F)

theorem plain (f : FuncId) (fn : Func) (hf : Tryd.pinned.checked.prog.funcNamed "gatewicket/wickkeep.NetsBack" = some f) (hfn : Tryd.pinned.checked.prog.funcs[f]? = some fn) :
    false = Tryd.pinned.checked.prog.looks [] ∧ ∀ (j : Nat) t, fn.params[j]? = some t → Tryd.pinned.checked.prog.wantsStandIn t = false := by
  obtain rfl : f = 5 := Option.some.inj ((show Tryd.prog.funcNamed "gatewicket/wickkeep.NetsBack" = some 5 by kernel_rfl).symm.trans hf) |>.symm
  obtain rfl : fn = Tryd.f5 := (Option.some.inj (Tryd.func5.symm.trans hfn)).symm
  refine ⟨by kernel_rfl, fun j t ht => ?_⟩
  rw [Tryd.params5] at ht
  have hm : t = 24 ∨ t = 22 ∨ t = 3 := by simpa using Array.mem_of_getElem? ht
  rcases hm with rfl | rfl | rfl
  · exact (show Tryd.prog.wantsStandIn 24 = false by kernel_rfl)
  · exact (show Tryd.prog.wantsStandIn 22 = false by kernel_rfl)
  · exact (show Tryd.prog.wantsStandIn 3 = false by kernel_rfl)

theorem over : Rows.NetsBackCardSaid :=
  Claim7.holds_tied_plain_at .later [] _ _ _ _ row (fun _ h => by cases h) (by kernel_rfl) (fun _ h => by cases h) netsBack_row_tie rfl ⟨rfl, rfl⟩ (by kernel_rfl) rfl plain (by kernel_rfl)
end Go.Proofs.YtmhjfiaohbioeaaDoor.netsBack
namespace Go.Proofs.YtmhjfiaohbioeaaDoor
theorem netsBack_holds : Rows.NetsBackCardSaid := netsBack.over
#print axioms netsBack_holds
end Go.Proofs.YtmhjfiaohbioeaaDoor
