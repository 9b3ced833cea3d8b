/- Find answers what the document says, of texts of at most 60 bytes: whatever is handed in.
   Conditions: what is handed in is of bulk at most 1048576; the library's table lies as its initialiser lays it. -/
import Derived.Test.YtjecopdbcaojcaaDoorRows
import Derived.Test.YtjecopdbcaojcaaDoorTie
import Derived.Test.YtjecopdbcaojcaaDoorCards
import Derived.WalkKit
import Derived.ProofKit
import Derived.OpenShut
import Derived.ShutString
import Derived.JoinedCond
import Derived.Laws.StructEq
import Derived.Deep.CutRange
import Derived.Lib.LaidTab
import Derived.Stop.LaidErr
import Derived.Deep.DeepHandedRow
import Derived.HandedShaped
import Derived.Deep.CondSized
import Derived.Test.YtjecopdbcaojcaaDoorZy
import Derived.Test.YtjecopdbcaojcaaDoorZp
import Derived.Test.YtjecopdbcaojcaaDoorZq
import Derived.Test.YtjecopdbcaojcaaDoorHb
import Derived.Test.YtjecopdbcaojcaaDoorWrap
namespace Go.Proofs.YtjecopdbcaojcaaDoor.rexFinds
open Go.ChangeShapes Go.WideShapes Go.ChangeAt Go.RowKit
open Go.ChangeMaps (open_string shut_string)
open Kb Pop Sp
set_option linter.unusedVariables false
set_option maxRecDepth 20000

theorem Spans_any (x : Ex) (k0 a1 a2 a3 a4 : Int) (o0 : Option Addr) (n0 c0 : Nat) (s : ByteArray) (w : World) (hV : RexV w (.agg #[.int .i64 k0, .int .u64 a1, .int .u64 a2, .int .u64 a3, .int .u64 a4, .slice o0 n0 c0]) x.rx) (hF : x.Full) (hs : s.size ≤ 60) :
    Calls Tryd.prog 10 #[.agg #[.int .i64 k0, .int .u64 a1, .int .u64 a2, .int .u64 a3, .int .u64 a4, .slice o0 n0 c0], .string s] w fun e w' => ∃ g h, e = .returned (.slice (some ⟨g, 0, none⟩) (s.size + 1) (s.size + 1)) ∧ TB w' g h s.size (M s.data.toList x) ∧ Below w.heap.size w w' := by
  have b0 := (Below.refl w.heap.size w).alloc (Nat.le_refl _) (.cells #[.int .i64 k0, .int .u64 a1, .int .u64 a2, .int .u64 a3, .int .u64 a4, .slice o0 n0 c0] 27)
  have HD := hide (ds_any x _ s _ (hV.below b0) hF hs)
  have HB := hide b0
  clear b0 hV
  go_enter Tryd.func10, Tryd.ntmps10
  go_wp2_with fail
  refine (unhide HD).mono ?_
  rintro e w2 ⟨g, h, rfl, t, b, _⟩
  have T := hide t
  have B := hide (bel_trans (unhide HB) b)
  clear t b HD
  go_wp2_with fail
  go_ret
  exact ⟨g, h, rfl, unhide T, unhide B⟩
set_option maxRecDepth 200000 in
set_option maxHeartbeats 16000000 in
theorem walk0 (v0 : Value) (r : Rx) (s : ByteArray) (hb : s.size ≤ 1048576) (w : World) (hV0 : RexV w v0 r) (hT : TZ w) :
    Calls Tryd.prog 3 #[v0, .string s] w fun e w' => e = .returned (.bool true) ∧ Below w.heap.size w w' := by
  have HF := hide (fun (W : World) (k : Below w.heap.size w W) => Find_any r v0 s W (hV0.below k) (hT.below hT.lt k))
  have HR := hide (fun (W : World) (k : Below w.heap.size w W) => rexC_any r v0 W (hV0.below k))
  have HV0 := hide (fun (W : World) (k : Below w.heap.size w W) => hV0.below k)
  obtain ⟨t0, ht0, hk0⟩ := hV0.val
  obtain ⟨o0, c0, rfl, _⟩ := hk0.form
  subst ht0
  unfold rexV at *
  obtain ⟨k0, hk0'⟩ : ∃ z, r.k = z := ⟨_, rfl⟩
  obtain ⟨⟨a1, a2, a3, a4⟩, hs0'⟩ : ∃ z, r.s = z := ⟨_, rfl⟩
  obtain ⟨n0, hn0'⟩ : ∃ z, r.ks.length = z := ⟨_, rfl⟩
  rw [hk0', hs0', hn0'] at HV0 HF HR ⊢
  dsimp only at HV0 HF HR ⊢
  clear hk0' hs0' hn0' hk0 hV0 hT
  have X0 := RX.new (base := w.heap.size) w (Nat.le_refl _) k0 ⟨a1, a2, a3, a4⟩ (.slice o0 n0 c0)
  have b0 := (Below.refl w.heap.size w).alloc (Nat.le_refl _) (.cells #[.int .i64 k0, .int .u64 a1, .int .u64 a2, .int .u64 a3, .int .u64 a4, .slice o0 n0 c0] 27)
  dsimp only at X0
  obtain ⟨W0, hW0⟩ : ∃ W0, w.alloc (.cells #[.int .i64 k0, .int .u64 a1, .int .u64 a2, .int .u64 a3, .int .u64 a4, .slice o0 n0 c0] 27) = W0 := ⟨_, rfl⟩
  rw [hW0] at X0 b0
  have HM : Hid (∀ W, Below W0.heap.size W0 W → (W.cell? ⟨w.heap.size, 0, none⟩ = some (.int .i64 k0) ∧ W.cell? ⟨w.heap.size, 1, none⟩ = some (.int .u64 a1) ∧ W.cell? ⟨w.heap.size, 2, none⟩ = some (.int .u64 a2) ∧ W.cell? ⟨w.heap.size, 3, none⟩ = some (.int .u64 a3) ∧ W.cell? ⟨w.heap.size, 4, none⟩ = some (.int .u64 a4) ∧ W.cell? ⟨w.heap.size, 5, none⟩ = some (.slice o0 n0 c0)) ∧ Below w.heap.size w W ∧ w.heap.size < W.heap.size) := hide (fun W k =>
    ⟨(X0.below k).cells, bel_trans b0 k, (X0.below k).lt.2⟩)
  obtain ⟨⟨y0, y1, y2, y3, y4, y5⟩, hbw, hl⟩ := (unhide HM) W0 (Below.refl _ _)
  have HFA := hide ((unhide HF) W0 hbw)
  clear X0 b0 hbw HF
  go_enter Tryd.func3, Tryd.ntmps3
  go_wp2_with fail
  clear hW0 y0 y1 y2 y3 y4 y5 hl
  refine (unhide HFA).mono ?_
  rintro e w1 ⟨u, rfl, hu, bb1⟩
  have B1 := hide bb1
  clear bb1 HFA
  obtain ⟨fa, fb, is, z, rfl, _⟩ := hu.fo
  have HU := hide hu
  clear hu
  unfold spanV
  have pp := (unhide B1).alloc (unhide B1).size (.cells #[.int .i64 fa, .int .i64 fb] 29)
  have hp0 : (w1.alloc (.cells #[.int .i64 fa, .int .i64 fb] 29)).cell? ⟨w1.heap.size, 0, none⟩ = some (.int .i64 fa) := by rw [World.cell?_alloc_new]; rfl
  have hp1 : (w1.alloc (.cells #[.int .i64 fa, .int .i64 fb] 29)).cell? ⟨w1.heap.size, 1, none⟩ = some (.int .i64 fb) := by rw [World.cell?_alloc_new]; rfl
  obtain ⟨w2, hw2⟩ : ∃ w2, w1.alloc (.cells #[.int .i64 fa, .int .i64 fb] 29) = w2 := ⟨_, rfl⟩
  rw [hw2] at pp hp0 hp1
  have hl2 := World.block_lt_of_cell? _ _ hp0
  obtain ⟨gx, hgx⟩ : ∃ g, w1.heap.size = g := ⟨_, rfl⟩
  rw [hgx] at hp0 hp1 hl2
  have HP : Hid (∀ W, Below w2.heap.size w2 W → W.cell? ⟨gx, 0, none⟩ = some (.int .i64 fa) ∧ W.cell? ⟨gx, 1, none⟩ = some (.int .i64 fb) ∧ gx < W.heap.size) := hide (fun W k => ⟨(k.cell (p := ⟨gx, 0, none⟩) hl2).trans hp0, (k.cell (p := ⟨gx, 1, none⟩) hl2).trans hp1, Nat.lt_of_lt_of_le hl2 k.size⟩)
  have B2 := hide pp
  obtain ⟨⟨y0, y1, y2, y3, y4, y5⟩, hbw, hl⟩ := (unhide HM) w2 pp
  have HRC := hide ((unhide HR) w2 hbw)
  clear pp hp0 hp1 hl2 hbw B1 HR
  go_wp2_with fail
  clear hw2 hgx y0 y1 y2 y3 y4 y5 hl
  refine (unhide HRC).mono ?_
  rintro e w3 ⟨rfl, bb3⟩
  have B3 := hide (bel_trans (unhide B2) bb3)
  have D3 := hide bb3
  have C3 := hide (((unhide HM) w3 (bel_trans (unhide B2) bb3)).2.1)
  obtain ⟨p0, p1, hlp⟩ := (unhide HP) w3 bb3
  obtain ⟨ck, hck⟩ : ∃ ck, chkR r = ck := ⟨_, rfl⟩
  have HCK := hide hck
  rw [hck]
  clear bb3 HRC B2 hck
  have hcase := unhide HU
  unfold FindP foundV spanV at hcase
  rw [unhide HCK] at hcase
  rcases hcase with ⟨h1, h2⟩ | ⟨h1, h2, h3⟩ | ⟨h1, h2, x, o, hx, hfx, ho, h3⟩
  · simp only [Value.tuple.injEq, Array.mk.injEq, List.cons.injEq, Value.agg.injEq, Value.int.injEq, Value.bool.injEq, and_true, true_and] at h2
    obtain ⟨⟨rfl, rfl⟩, rfl, rfl⟩ := h2
    have hne : (z != 0) = true := bne_iff_ne.2 h1
    have heq : (z == 0) = false := beq_eq_false_iff_ne.2 h1
    clear h1
    go_wp2_with fail
    go_ret
    exact ⟨by first | rfl | exact ret_bool (by simp), unhide C3⟩
  · subst h1
    simp only [Value.tuple.injEq, Array.mk.injEq, List.cons.injEq, Value.agg.injEq, Value.int.injEq, Value.bool.injEq, and_true, true_and] at h3
    obtain ⟨⟨rfl, rfl⟩, rfl, rfl⟩ := h3
    have hI : (s.size : Int) > 300 := by omega
    go_wp2_with fail
    go_ret
    exact ⟨by first | rfl | exact ret_bool (by simp), unhide C3⟩
  · subst h1
    have hI : ¬ ((s.size : Int) > 300) := by omega
    have hz : z = 0 := by
      cases o with
      | none =>
        simp only [Value.tuple.injEq, Array.mk.injEq, List.cons.injEq, Value.agg.injEq, Value.int.injEq, Value.bool.injEq, and_true, true_and] at h3
        exact h3.2.2
      | some q =>
        simp only [Value.tuple.injEq, Array.mk.injEq, List.cons.injEq, Value.agg.injEq, Value.int.injEq, Value.bool.injEq, and_true, true_and] at h3
        exact h3.2.2
    subst hz
    have H3 := hide h3
    have HO := hide ho
    clear h3 ho
    by_cases h60 : 60 < s.size
    · have hI2 : (s.size : Int) > 60 := by omega
      go_wp2_with fail
      go_ret
      exact ⟨by first | rfl | exact ret_bool (by simp), unhide C3⟩
    · have hI2 : ¬ ((s.size : Int) > 60) := by omega
      have HSP := hide (Spans_any x k0 a1 a2 a3 a4 o0 n0 c0 s w3 (by rw [← hx]; exact (unhide HV0) w3 (unhide C3)) hfx (by omega))
      obtain ⟨⟨y0, y1, y2, y3, y4, y5⟩, _, hl⟩ := (unhide HM) w3 (unhide B3)
      clear p0 p1 hlp
      go_wp2_with fail
      clear y0 y1 y2 y3 y4 y5 hl
      refine (unhide HSP).mono ?_
      rintro e w4 ⟨g4, h4, rfl, t4, bb4⟩
      have B4 := hide bb4
      have HFI := hide (dfirst_any g4 h4 s.size (M s.data.toList x) (by omega) (fun i j h => M_okm s x i j h) w4 t4)
      clear t4 bb4 HSP
      go_wp2_with fail
      refine (unhide HFI).mono ?_
      rintro e w5 ⟨o', rfl, ho', bb5⟩
      obtain rfl := (unhide HO).uniq ho'
      have C5 := hide (bel_trans (unhide C3) (bel_trans (unhide B4) bb5))
      have D5 := hide (bel_trans (unhide D3) (bel_trans (unhide B4) bb5))
      clear ho' bb5 HFI
      have h3 := unhide H3
      unfold firstV spanV
      cases o with
      | none =>
        simp only [Value.tuple.injEq, Array.mk.injEq, List.cons.injEq, Value.agg.injEq, Value.int.injEq, Value.bool.injEq, and_true, true_and] at h3
        obtain ⟨⟨rfl, rfl⟩, rfl⟩ := h3
        obtain ⟨p0, p1, hlp⟩ := (unhide HP) _ ((unhide D5).alloc (unhide D5).size (.cells #[.int .i64 0, .int .i64 0] 29))
        have C6 := hide ((unhide C5).alloc (unhide C5).size (.cells #[.int .i64 0, .int .i64 0] 29))
        obtain ⟨q0, q1, hlq⟩ := (unhide HP) w5 (unhide D5)
        clear p0 p1 hlp
        go_wp2_with fail
        go_ret
        exact ⟨by first | rfl | exact ret_bool (by simp), unhide C6⟩
      | some q =>
        obtain ⟨qi, qj⟩ := q
        simp only [Value.tuple.injEq, Array.mk.injEq, List.cons.injEq, Value.agg.injEq, Value.int.injEq, Value.bool.injEq, and_true, true_and] at h3
        obtain ⟨⟨rfl, rfl⟩, rfl⟩ := h3
        have C6 := hide ((unhide C5).alloc (unhide C5).size (.cells #[.int .i64 (qi : Int), .int .i64 (qj : Int)] 29))
        obtain ⟨q0, q1, hlq⟩ := (unhide HP) w5 (unhide D5)
        go_wp2_with fail
        go_ret
        exact ⟨by first | rfl | exact ret_bool (by simp), unhide C6⟩
theorem walk (v0 : Value) (r : Rx) (s : ByteArray) (hb : s.size ≤ 1048576) (w : World) (hV0 : RexV w v0 r) (hL : laidMetH Tryd.prog Rows.rexFindsUptoRow.laid w) :
    Calls Tryd.prog 3 #[v0, .string s] w fun e w' => e = .returned (.bool true) ∧ Below w.heap.size w w' :=
  walk0 v0 r s hb w hV0 (tz_of (W := w) hL)
theorem own : ownKnob Tryd.prog.godebug = none := by kernel_rfl

theorem small_of {H : Type} {a0 : DataW H} {a1 : ByteArray} (hk : Rows.uptoSmall H ([a0, .lit (.string a1.data.toList)] ++ []) = true) : Rows.uptoBulk a0 + a1.size ≤ 1048576 := by
  have h := of_decide_eq_true hk
  simp only [Rows.uptoBulkAll, Rows.uptoBulk, List.append_nil, Array.length_toList, ByteArray.size_data] at h
  omega

set_option maxRecDepth 100000 in
theorem contract (H : Type) (enc : TypeId × Value → H) (W : World) (base : Nat) (args : Array Value) (ds gs : List (DataW H)) (before : List MemPlace) (hsh : W.ShapedOpen Tryd.prog)
    (hval0 : ∀ (j : Nat) t v, Tryd.f3.params[j]? = some t → args[j]? = some v → Value.okWide Tryd.prog W .any base t v)
    (hW : DataW.Whole enc Tryd.prog Tryd.f3.params.toList Rows.rexFindsSpec.vars false W args.toList ds gs before) (hk : Rows.uptoSmall H (ds ++ gs) = true) (hL : laidMetH Tryd.prog Rows.rexFindsUptoRow.laid W) :
    Calls Tryd.prog 3 args W fun e W' => ∃ v, e = .returned v ∧ Rows.rexFindsSpec.post enc Tryd.prog Tryd.f3 false true false false W args v W' := by
  have hval : ∀ (j : Nat) t v, Tryd.f3.params[j]? = some t → args[j]? = some v → Value.okWide Tryd.prog W .any base t v := hval0
  have hW' := hW
  obtain ⟨p, q, hA0, hV, rfl, hfz, hnd⟩ := hW
  have hA : DataW.TrodAll enc Tryd.prog W 0 (fun _ => true) true Tryd.f3.params.toList args.toList ds p := hA0
  rw [Tryd.params3] at hA hval
  obtain ⟨v0, vs0, d0, ds0, p0, q0, hargs, rfl, rfl, h0, r0⟩ := trodAll_cons hA
  obtain ⟨v1, vs1, d1, ds1, p1, q1, rfl, rfl, rfl, h1, r1⟩ := trodAll_cons r0
  obtain ⟨rfl, rfl, rfl⟩ := trodAll_nil r1
  obtain rfl : args = #[v0, v1] := by cases args; simp_all
  obtain ⟨rfl, rfl⟩ := trodVars_none hV
  obtain ⟨a1, rfl, rfl, rfl, w1⟩ := open_string Tryd.underlying9 (hval 1 9 v1 rfl rfl) h1
  have hsm := small_of hk
  obtain ⟨z0, hI0, hlt0⟩ := open_rex_in (hval 0 27 v0 rfl rfl) h0 (by omega)
  clear hA0 hval0
  refine (walk v0 z0 a1 (by omega) W hI0 hL).mono fun e W' ⟨he, hb⟩ => ?_
  subst he
  exact ⟨_, rfl, _, _, _, [], (p0 ++ ([] ++ [])), [], hW', (trodAll_cons_mk (shut_bool Tryd.underlying4 _) trodAll_mk0), (trodAll_cons_mk (Below.trod laidOutAll (by kernel_rfl) (of_decide_eq_true (by kernel_rfl)) h0 hb hlt0) (trodAll_cons_mk (shut_string Tryd.underlying9 w1) trodAll_mk0)), rfl, hb.frame _, fun h => by cases h⟩

theorem reads (os : Os) {H : Type} (enc : TypeId × Value → H) : ∃ places, DataW.whole enc Tryd.prog ((laidIn (World.holding Tryd.prog os ⟨#[], #[], []⟩)).forCall (fun _ _ => 0) ⟨#[], #[.agg #[.int .i64 0, .int .u64 0, .int .u64 0, .int .u64 0, .int .u64 0, .slice none 0 0], .string ByteArray.empty], []⟩).memory Tryd.f3.params.toList Rows.rexFindsSpec.vars false (#[.agg #[.int .i64 0, .int .u64 0, .int .u64 0, .int .u64 0, .int .u64 0, .slice none 0 0], .string ByteArray.empty] : Array Value).toList 8 = some ([.agg [.lit (.int .i64 0), .agg [.lit (.int .u64 0), .lit (.int .u64 0), .lit (.int .u64 0), .lit (.int .u64 0)], .nil], .lit (.string [])], [], places) :=
  ⟨[], by kernel_rfl⟩
theorem laid_met (os : Os) : laidMet Tryd.prog Rows.rexFindsUptoRow.laid ((laidIn (World.holding Tryd.prog os ⟨#[], #[], []⟩)).forCall (fun _ _ => 0) ⟨#[], #[.agg #[.int .i64 0, .int .u64 0, .int .u64 0, .int .u64 0, .int .u64 0, .slice none 0 0], .string ByteArray.empty], []⟩).memory :=
  laidMet_of_run' 8 (by kernel_rfl) (by kernel_rfl)

set_option maxRecDepth 100000 in
theorem lifted (os : Os) (started : os.Started) (H : Type) (enc : TypeId × Value → H) (F : Stop.Interp) :
    ReturnsInHanded {} Tryd.checked os 3 .any ((Rows.OpenSpec.upto Rows.rexFindsSpec).preRow enc Tryd.prog Tryd.f3 Rows.rexFindsUptoRow.domain false Rows.rexFindsUptoRow.laid) (((Rows.OpenSpec.upto Rows.rexFindsSpec).at F).post enc Tryd.prog Tryd.f3 false true false false) := by
  obtain ⟨places, hx⟩ := reads os enc
  refine returnsInHanded_of_row (C := Tryd.checked) (s := Rows.OpenSpec.upto Rows.rexFindsSpec) own started (by kernel_rfl) Tryd.func3
    (witness_row_at (enc := enc) (C := Tryd.checked) false (laidIn (World.holding Tryd.prog os ⟨#[], #[], []⟩)) #[.agg #[.int .i64 0, .int .u64 0, .int .u64 0, .int .u64 0, .int .u64 0, .slice none 0 0], .string ByteArray.empty] rfl (by kernel_rfl) (by kernel_rfl) (by kernel_rfl)
      (OpenSpec.preRow_of_cond 8 hx (by kernel_rfl) (fun k hk => by cases hk; kernel_rfl) (by kernel_rfl) (laid_met os))) ?_
  intro W base args ds gs before hval hW _ hcond _ hL hsh _
  exact contract H enc W base args ds gs before hsh hval hW (hcond _ rfl) hL

theorem row : Rows.RexFindsUptoSaid :=
  OpenClaim.holds_of_cond 3 Tryd.f3 rfl rfl rfl rfl rfl rfl rfl ⟨rfl, rfl, rfl, rfl, rfl⟩ rfl rfl rfl rfl rfl (by kernel_rfl) Tryd.func3 (by kernel_rfl)
    (of_decide_eq_true (by kernel_rfl)) (by unfold Func.isWrapper; first | (rw [if_pos (by decide +kernel)]; kernel_rfl) | (rw [if_neg (by decide +kernel)]; exact ⟨rfl, rfl⟩))
    (fun os started H enc _ F => by rw [OpenClaim.pre_eq_preRow]; exact lifted os started H enc F)

theorem plain (f : FuncId) (fn : Func) (hf : Tryd.pinned.checked.prog.funcNamed "gatewicket/wicklaw.RexFinds" = some f) (hfn : Tryd.pinned.checked.prog.funcs[f]? = some fn) :
    false = Tryd.pinned.checked.prog.looks [] ∧ ∀ (j : Nat) t, fn.params[j]? = some t → Tryd.pinned.checked.prog.wantsStandIn t = false := by
  obtain rfl : f = 3 := Option.some.inj ((show Tryd.prog.funcNamed "gatewicket/wicklaw.RexFinds" = some 3 by kernel_rfl).symm.trans hf) |>.symm
  obtain rfl : fn = Tryd.f3 := (Option.some.inj (Tryd.func3.symm.trans hfn)).symm
  refine ⟨by kernel_rfl, fun j t ht => ?_⟩
  rw [Tryd.params3] at ht
  have hm : t = 27 ∨ t = 9 := by simpa using Array.mem_of_getElem? ht
  rcases hm with rfl | rfl
  · exact (show Tryd.prog.wantsStandIn 27 = false by kernel_rfl)
  · exact (show Tryd.prog.wantsStandIn 9 = false by kernel_rfl)

theorem over : Rows.RexFindsUptoCardSaid :=
  Claim7.holds_tied_plain_at .later [] _ _ _ _ row (fun _ h => by cases h) (by kernel_rfl) (fun _ h => by cases h) rexFindsUpto_row_tie rfl ⟨rfl, rfl⟩ (by kernel_rfl) rfl plain (by kernel_rfl)
end Go.Proofs.YtjecopdbcaojcaaDoor.rexFinds
namespace Go.Proofs.YtjecopdbcaojcaaDoor
theorem rexFinds_holds : Rows.RexFindsUptoCardSaid := rexFinds.over
#print axioms rexFinds_holds
end Go.Proofs.YtjecopdbcaojcaaDoor
