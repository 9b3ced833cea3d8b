/- Of two expressions one is found just if either is; with ^ and $ around it is the whole text; more text behind takes nothing away, unless it asks for the end: whatever is handed in.
   Conditions: what is handed in is of bulk at most 1048576; the library's table lies as its initialiser lays it. -/
import Derived.Test.YtjecopdbcaojcaaDoorRows
import Derived.Test.YtjecopdbcaojcaaDoorTie
import Derived.Test.YtjecopdbcaojcaaDoorCards
import Derived.WalkKit
import Derived.ProofKit
import Derived.OpenShut
import Derived.ShutString
import Derived.JoinedCond
import Derived.Laws.StructEq
import Derived.Deep.CutRange
import Derived.Lib.LaidTab
import Derived.Stop.LaidErr
import Derived.Deep.DeepHandedRow
import Derived.HandedShaped
import Derived.Deep.CondSized
import Derived.Test.YtjecopdbcaojcaaDoorZp
import Derived.Test.YtjecopdbcaojcaaDoorZq
import Derived.Test.YtjecopdbcaojcaaDoorHb
import Derived.Test.YtjecopdbcaojcaaDoorWrap
namespace Go.Proofs.YtjecopdbcaojcaaDoor.rexLaws
open Go.ChangeShapes Go.WideShapes Go.ChangeAt Go.RowKit
open Go.ChangeMaps (open_string shut_string)
open Kb Pop Sp
set_option linter.unusedVariables false
set_option maxRecDepth 20000

set_option maxRecDepth 200000 in
set_option maxHeartbeats 16000000 in
theorem walk0 (v0 : Value) (r : Rx) (v1 : Value) (q : Rx) (s m : ByteArray) (hb : s.size + m.size ≤ 1048576) (w : World) (hV0 : RexV w v0 r) (hV1 : RexV w v1 q) (hT : TZ w) :
    Calls Tryd.prog 4 #[v0, v1, .string s, .string m] w fun e w' => e = .returned (.bool true) ∧ Below w.heap.size w w' := by
  have HTW := hide (fun (W : World) (k : Below w.heap.size w W) => hT.below hT.lt k)
  have HV0 := hide (fun (W : World) (k : Below w.heap.size w W) => hV0.below k)
  have HV1 := hide (fun (W : World) (k : Below w.heap.size w W) => hV1.below k)
  obtain ⟨t0, ht0, hk0⟩ := hV0.val
  obtain ⟨o0, c0, rfl, _⟩ := hk0.form
  obtain ⟨t1, ht1, hk1⟩ := hV1.val
  obtain ⟨o1, c1, rfl, _⟩ := hk1.form
  have hq0 := hV0.fit
  obtain ⟨rr, hrr⟩ : ∃ rr, r = rr := ⟨_, rfl⟩
  obtain ⟨qq, hqq⟩ : ∃ qq, q = qq := ⟨_, rfl⟩
  subst ht0
  subst ht1
  unfold rexV at *
  obtain ⟨k0, hk0'⟩ : ∃ z, r.k = z := ⟨_, rfl⟩
  obtain ⟨⟨a1, a2, a3, a4⟩, hs0'⟩ : ∃ z, r.s = z := ⟨_, rfl⟩
  obtain ⟨n0, hn0'⟩ : ∃ z, r.ks.length = z := ⟨_, rfl⟩
  obtain ⟨k1, hk1'⟩ : ∃ z, q.k = z := ⟨_, rfl⟩
  obtain ⟨⟨b1, b2, b3, b4⟩, hs1'⟩ : ∃ z, q.s = z := ⟨_, rfl⟩
  obtain ⟨n1, hn1'⟩ : ∃ z, q.ks.length = z := ⟨_, rfl⟩
  rw [hk0', hs0', hn0'] at HV0 ⊢
  rw [hk1', hs1', hn1'] at HV1 ⊢
  dsimp only at HV0 HV1 ⊢
  clear hk0' hs0' hn0' hk1' hs1' hn1' hk0 hk1 hV0 hV1 hT hq0 hrr hqq
  have e1 : (w.alloc (.cells #[.int .i64 k0, .int .u64 a1, .int .u64 a2, .int .u64 a3, .int .u64 a4, .slice o0 n0 c0] 27)).heap.size = w.heap.size + 1 := by simp
  have X0 := RX.new (base := w.heap.size) w (Nat.le_refl _) k0 ⟨a1, a2, a3, a4⟩ (.slice o0 n0 c0)
  have Y0 := RX.new (base := w.heap.size) (w.alloc (.cells #[.int .i64 k0, .int .u64 a1, .int .u64 a2, .int .u64 a3, .int .u64 a4, .slice o0 n0 c0] 27)) (by simp) k1 ⟨b1, b2, b3, b4⟩ (.slice o1 n1 c1)
  rw [e1] at Y0
  have X1 := X0.below ((Below.refl _ _).alloc (Nat.le_refl _) (.cells #[.int .i64 k1, .int .u64 b1, .int .u64 b2, .int .u64 b3, .int .u64 b4, .slice o1 n1 c1] 27))
  have b0 := ((Below.refl w.heap.size w).alloc (Nat.le_refl _) (.cells #[.int .i64 k0, .int .u64 a1, .int .u64 a2, .int .u64 a3, .int .u64 a4, .slice o0 n0 c0] 27)).alloc (by simp) (.cells #[.int .i64 k1, .int .u64 b1, .int .u64 b2, .int .u64 b3, .int .u64 b4, .slice o1 n1 c1] 27)
  dsimp only at X1 Y0
  obtain ⟨W0, hW0⟩ : ∃ W0, (w.alloc (.cells #[.int .i64 k0, .int .u64 a1, .int .u64 a2, .int .u64 a3, .int .u64 a4, .slice o0 n0 c0] 27)).alloc (.cells #[.int .i64 k1, .int .u64 b1, .int .u64 b2, .int .u64 b3, .int .u64 b4, .slice o1 n1 c1] 27) = W0 := ⟨_, rfl⟩
  rw [hW0] at X1 Y0 b0
  have HM : Hid (∀ W, Below W0.heap.size W0 W → (W.cell? ⟨w.heap.size, 0, none⟩ = some (.int .i64 k0) ∧ W.cell? ⟨w.heap.size, 1, none⟩ = some (.int .u64 a1) ∧ W.cell? ⟨w.heap.size, 2, none⟩ = some (.int .u64 a2) ∧ W.cell? ⟨w.heap.size, 3, none⟩ = some (.int .u64 a3) ∧ W.cell? ⟨w.heap.size, 4, none⟩ = some (.int .u64 a4) ∧ W.cell? ⟨w.heap.size, 5, none⟩ = some (.slice o0 n0 c0)) ∧
      (W.cell? ⟨w.heap.size + 1, 0, none⟩ = some (.int .i64 k1) ∧ W.cell? ⟨w.heap.size + 1, 1, none⟩ = some (.int .u64 b1) ∧ W.cell? ⟨w.heap.size + 1, 2, none⟩ = some (.int .u64 b2) ∧ W.cell? ⟨w.heap.size + 1, 3, none⟩ = some (.int .u64 b3) ∧ W.cell? ⟨w.heap.size + 1, 4, none⟩ = some (.int .u64 b4) ∧ W.cell? ⟨w.heap.size + 1, 5, none⟩ = some (.slice o1 n1 c1)) ∧ Below w.heap.size w W ∧ w.heap.size + 1 < W.heap.size) := hide (fun W k =>
    ⟨(X1.below k).cells, (Y0.below k).cells, bel_trans b0 k, (Y0.below k).lt.2⟩)
  have B0 := hide (Below.refl W0.heap.size W0)
  have C0 := hide b0
  clear e1 X0 X1 Y0 b0
  go_enter Tryd.func4, Tryd.ntmps4
  go_wp2_with fail
  clear hW0
  refine (letter_any 97 (by omega) W0).mono ?_
  rintro e w1 ⟨⟨s1, s2, s3, s4⟩, rfl, hf1, ht1, bb1⟩
  have B1 := hide bb1
  have F1 := hide hf1
  have T1 := hide ht1
  have L1 := hide (rexN_leaf TT w1 3 ⟨s1, s2, s3, s4⟩ (by omega) hf1)
  dsimp only at L1
  clear hf1 ht1 bb1 B0
  go_wp2_with fail
  refine (letter_any 98 (by omega) w1).mono ?_
  rintro e w2 ⟨⟨u1, u2, u3, u4⟩, rfl, hf2, ht2, bb2⟩
  have B2 := hide (bel_trans (unhide B1) bb2)
  have F2 := hide hf2
  have T2 := hide ht2
  have L2 := hide ((unhide L1).bel bb2)
  have M2 := hide (rexN_leaf TT w2 3 ⟨u1, u2, u3, u4⟩ (by omega) hf2)
  dsimp only at M2
  clear hf2 ht2 bb2 B1 L1
  go_wp2_with fail
  refine (star_any 3 u1 u2 u3 u4 none 0 0 _ w2 (unhide M2)).mono ?_
  rintro e w3 ⟨g3, rfl, N3, bb3⟩
  have B3 := hide (bel_trans (unhide B2) bb3)
  have L3 := hide ((unhide L2).bel bb3)
  have M3 := hide N3
  clear N3 bb3 B2 L2 M2
  go_wp2_with fail
  refine (two_any 4 3 s1 s2 s3 s4 none 0 0 _ 6 0 0 0 0 (some ⟨g3, 0, none⟩) 1 1 _ w3 (by omega) (unhide L3) (unhide M3)).mono ?_
  rintro e w4 ⟨g4, rfl, N4, bb4⟩
  have B4 := hide (bel_trans (unhide B3) bb4)
  have HFA := hide (found_any (Ex.cat (.byte ⟨s1, s2, s3, s4⟩) (.star (.byte ⟨u1, u2, u3, u4⟩))).rx _ ⟨#[120, 97, 98, 98]⟩ w4 N4.rexV ((unhide HTW) w4 (bel_trans (unhide C0) (unhide B4))))
  clear N4 bb4 B3 L3 M3
  go_wp2_with fail
  refine (unhide HFA).mono ?_
  rintro e w5 ⟨xa, xb, xi, xo, rfl, hfo, bb5⟩
  obtain ⟨rfl, ho⟩ := hfo.right (x := Ex.cat (.byte ⟨s1, s2, s3, s4⟩) (.star (.byte ⟨u1, u2, u3, u4⟩))) ⟨⟨one_full' (by omega) (unhide T1), unhide F1⟩, one_full' (by omega) (unhide T2), unhide F2⟩ (by simp [Ex.nodes]) (by simp [Ex.high]) (by decide)
  obtain ⟨o, hfi, rfl, hab⟩ := ho
  have hfi2 := first_xabb (unhide T1) (unhide T2)
  obtain rfl := hfi.uniq hfi2
  have hxa : xa = 1 := hab.1
  have hxb : xb = 4 := hab.2
  have hE1 : (xa == 1) = true := by rw [hxa]; rfl
  have hE2 : (xb == 4) = true := by rw [hxb]; rfl
  have B5 := hide (bel_trans (unhide B4) bb5)
  clear hfo bb5 hfi hfi2 hab hxa hxb HFA F1 F2 T1 T2 B4
  unfold spanV
  have p5 : (w5.alloc (.cells #[.int .i64 xa, .int .i64 xb] 29)).cell? ⟨w5.heap.size, 0, none⟩ = some (.int .i64 xa) ∧ (w5.alloc (.cells #[.int .i64 xa, .int .i64 xb] 29)).cell? ⟨w5.heap.size, 1, none⟩ = some (.int .i64 xb) := ⟨by rw [World.cell?_alloc_new]; rfl, by rw [World.cell?_alloc_new]; rfl⟩
  have bb6 := (unhide B5).alloc (unhide B5).size (.cells #[.int .i64 xa, .int .i64 xb] 29)
  obtain ⟨w6, hw6⟩ : ∃ w6, w5.alloc (.cells #[.int .i64 xa, .int .i64 xb] 29) = w6 := ⟨_, rfl⟩
  rw [hw6] at p5 bb6
  obtain ⟨p0, p1⟩ := p5
  obtain ⟨⟨y0, y1, y2, y3, y4, y5⟩, ⟨z0, z1, z2, z3, z4, z5⟩, bw6, hl6⟩ := (unhide HM) w6 bb6
  have B6 := hide bb6
  have HFB := hide (found_any r _ s w6 ((unhide HV0) w6 bw6) ((unhide HTW) w6 bw6))
  clear bb6 bw6 B5
  simp only [Option.isSome_some]
  go_wp2_with fail
  clear hw6 p0 p1 y0 y1 y2 y3 y4 y5 z0 z1 z2 z3 z4 z5 hl6 hE1 hE2
  refine (unhide HFB).mono ?_
  rintro e w7 ⟨xa1, xb1, ia, oa, rfl, fo1, bb7⟩
  have FO1 := hide fo1
  have B7 := hide (bel_trans (unhide B6) bb7)
  clear fo1 bb7 HFB B6
  unfold spanV
  have pp := (unhide B7).alloc (unhide B7).size (.cells #[.int .i64 xa1, .int .i64 xb1] 29)
  have p5 : (w7.alloc (.cells #[.int .i64 xa1, .int .i64 xb1] 29)).cell? ⟨w7.heap.size, 0, none⟩ = some (.int .i64 xa1) ∧ (w7.alloc (.cells #[.int .i64 xa1, .int .i64 xb1] 29)).cell? ⟨w7.heap.size, 1, none⟩ = some (.int .i64 xb1) := ⟨by rw [World.cell?_alloc_new]; rfl, by rw [World.cell?_alloc_new]; rfl⟩
  obtain ⟨w8, hw8⟩ : ∃ w8, w7.alloc (.cells #[.int .i64 xa1, .int .i64 xb1] 29) = w8 := ⟨_, rfl⟩
  rw [hw8] at pp p5
  obtain ⟨p0, p1⟩ := p5
  obtain ⟨⟨y0, y1, y2, y3, y4, y5⟩, ⟨z0, z1, z2, z3, z4, z5⟩, bw, hl⟩ := (unhide HM) w8 pp
  have B8 := hide pp
  have HFC := hide (found_any q _ s w8 ((unhide HV1) w8 bw) ((unhide HTW) w8 bw))
  clear pp bw B7
  go_wp2_with fail
  clear hw8 p0 p1 y0 y1 y2 y3 y4 y5 z0 z1 z2 z3 z4 z5 hl
  refine (unhide HFC).mono ?_
  rintro e w9 ⟨xa2, xb2, ib, ob, rfl, fo2, bb9⟩
  have FO2 := hide fo2
  have B9 := hide (bel_trans (unhide B8) bb9)
  clear fo2 bb9 HFC B8
  unfold spanV
  have pp := (unhide B9).alloc (unhide B9).size (.cells #[.int .i64 xa2, .int .i64 xb2] 29)
  have p5 : (w9.alloc (.cells #[.int .i64 xa2, .int .i64 xb2] 29)).cell? ⟨w9.heap.size, 0, none⟩ = some (.int .i64 xa2) ∧ (w9.alloc (.cells #[.int .i64 xa2, .int .i64 xb2] 29)).cell? ⟨w9.heap.size, 1, none⟩ = some (.int .i64 xb2) := ⟨by rw [World.cell?_alloc_new]; rfl, by rw [World.cell?_alloc_new]; rfl⟩
  obtain ⟨w10, hw10⟩ : ∃ w10, w9.alloc (.cells #[.int .i64 xa2, .int .i64 xb2] 29) = w10 := ⟨_, rfl⟩
  rw [hw10] at pp p5
  obtain ⟨p0, p1⟩ := p5
  obtain ⟨⟨y0, y1, y2, y3, y4, y5⟩, ⟨z0, z1, z2, z3, z4, z5⟩, bw, hl⟩ := (unhide HM) w10 pp
  have B10 := hide pp
  have HTWO := hide (two_any 5 k0 a1 a2 a3 a4 o0 n0 c0 r k1 b1 b2 b3 b4 o1 n1 c1 q w10 (by omega) ((unhide HV0) w10 bw).n ((unhide HV1) w10 bw).n)
  clear pp bw B9
  go_wp2_with fail
  clear hw10 p0 p1 y0 y1 y2 y3 y4 y5 z0 z1 z2 z3 z4 z5 hl
  refine (unhide HTWO).mono ?_
  rintro e w11 ⟨g11, rfl, N11, bb11⟩
  have B11 := hide (bel_trans (unhide B10) bb11)
  have HFD := hide (found_any (.mk 5 noSet [r, q]) _ s w11 N11.rexV ((unhide HTW) w11 (bel_trans (unhide C0) (unhide B11))))
  clear N11 bb11 HTWO B10
  go_wp2_with fail
  refine (unhide HFD).mono ?_
  rintro e w12 ⟨xa3, xb3, ic, oc, rfl, fo3, bb12⟩
  have HALT : Hid (oa = true → ob = true → oc = true → ic = (ia || ib)) := hide (fun h1 h2 h3 => by subst h1; subst h2; subst h3; exact law_alt (unhide FO1) (unhide FO2) fo3)
  have B12 := hide (bel_trans (unhide B11) bb12)
  clear fo3 bb12 HFD B11 FO2
  unfold spanV
  have pp := (unhide B12).alloc (unhide B12).size (.cells #[.int .i64 xa3, .int .i64 xb3] 29)
  have p5 : (w12.alloc (.cells #[.int .i64 xa3, .int .i64 xb3] 29)).cell? ⟨w12.heap.size, 0, none⟩ = some (.int .i64 xa3) ∧ (w12.alloc (.cells #[.int .i64 xa3, .int .i64 xb3] 29)).cell? ⟨w12.heap.size, 1, none⟩ = some (.int .i64 xb3) := ⟨by rw [World.cell?_alloc_new]; rfl, by rw [World.cell?_alloc_new]; rfl⟩
  obtain ⟨w13, hw13⟩ : ∃ w13, w12.alloc (.cells #[.int .i64 xa3, .int .i64 xb3] 29) = w13 := ⟨_, rfl⟩
  rw [hw13] at pp p5
  obtain ⟨p0, p1⟩ := p5
  obtain ⟨⟨y0, y1, y2, y3, y4, y5⟩, ⟨z0, z1, z2, z3, z4, z5⟩, bw, hl⟩ := (unhide HM) w13 pp
  have B13 := hide pp
  clear pp bw B12
  go_upto_region 7 with fail
  clear hw13 p0 p1
  go_cut [85] from 71 to 85 (fun v wx => v = .bool false ∧ wx = w13)
  case first =>
    clear y0 y1 y2 y3 y4 y5 z0 z1 z2 z3 z4 z5 hl
    cases oa
    · go_wp2_with fail
      go_meet
      exact ⟨rfl, rfl⟩
    · cases ob
      · go_wp2_with fail
        go_meet
        exact ⟨rfl, rfl⟩
      · cases oc
        · go_wp2_with fail
          go_meet
          exact ⟨rfl, rfl⟩
        · have hic := (unhide HALT) rfl rfl rfl
          clear HALT
          cases ia
          · obtain rfl : ic = ib := hic
            cases ic
            · go_wp2_with fail
              go_meet
              exact ⟨rfl, rfl⟩
            · go_wp2_with fail
              go_meet
              exact ⟨rfl, rfl⟩
          · obtain rfl : ic = true := hic
            go_wp2_with fail
            go_meet
            exact ⟨rfl, rfl⟩
  case rest =>
    obtain ⟨rfl, rfl⟩ := hcut
    clear HALT z0 z1 z2 z3 z4 z5
    have HTA := hide (two_any 4 7 0 0 0 0 none 0 0 (.mk 7 noSet []) k0 a1 a2 a3 a4 o0 n0 c0 r wc (by omega) (rexN_leaf TT wc 7 ⟨0, 0, 0, 0⟩ (by omega) (by unfold FitS; simp)) ((unhide HV0) wc (bel_trans (unhide C0) (unhide B13))).n)
    go_wp2_with fail
    clear y0 y1 y2 y3 y4 y5 hl
    refine (unhide HTA).mono ?_
    rintro e w14 ⟨g14, rfl, N14, bb14⟩
    have B14 := hide (bel_trans (unhide B13) bb14)
    have HTB := hide (two_any 4 4 0 0 0 0 (some ⟨g14, 0, none⟩) 2 2 _ 8 0 0 0 0 none 0 0 (.mk 8 noSet []) w14 (by omega) N14 (rexN_leaf TT w14 8 ⟨0, 0, 0, 0⟩ (by omega) (by unfold FitS; simp)))
    clear N14 bb14 HTA B13
    go_wp2_with fail
    refine (unhide HTB).mono ?_
    rintro e w15 ⟨g15, rfl, N15, bb15⟩
    have bb16 := bb15.alloc bb15.size (.cells #[.int .i64 4, .int .u64 0, .int .u64 0, .int .u64 0, .int .u64 0, .slice (some ⟨g15, 0, none⟩) 2 2] 27)
    have hbx : ∀ j x, (#[.int .i64 4, .int .u64 0, .int .u64 0, .int .u64 0, .int .u64 0, .slice (some ⟨g15, 0, none⟩) 2 2] : Array Value)[j]? = some x → (w15.alloc (.cells #[.int .i64 4, .int .u64 0, .int .u64 0, .int .u64 0, .int .u64 0, .slice (some ⟨g15, 0, none⟩) 2 2] 27)).cell? ⟨w15.heap.size, j, none⟩ = some x := fun j x h => by
      rw [World.cell?_alloc_new]; exact h
    have hN16 := N15.bel ((Below.refl w15.heap.size w15).alloc (Nat.le_refl _) (.cells #[.int .i64 4, .int .u64 0, .int .u64 0, .int .u64 0, .int .u64 0, .slice (some ⟨g15, 0, none⟩) 2 2] 27))
    obtain ⟨w16, hw16⟩ : ∃ w16, w15.alloc (.cells #[.int .i64 4, .int .u64 0, .int .u64 0, .int .u64 0, .int .u64 0, .slice (some ⟨g15, 0, none⟩) 2 2] 27) = w16 := ⟨_, rfl⟩
    rw [hw16] at bb16 hbx hN16
    have q0 := hbx 0 _ rfl
    have q1 := hbx 1 _ rfl
    have q2 := hbx 2 _ rfl
    have q3 := hbx 3 _ rfl
    have q4 := hbx 4 _ rfl
    have q5 := hbx 5 _ rfl
    have B16 := hide (bel_trans (unhide B14) bb16)
    have HFW := hide (found_any (wholeR r) _ s w16 hN16.rexV ((unhide HTW) w16 (bel_trans (unhide C0) (unhide B16))))
    clear N15 bb15 bb16 hbx hN16 HTB B14
    go_wp2_with fail
    clear hw16 q0 q1 q2 q3 q4 q5
    refine (unhide HFW).mono ?_
    rintro e w17 ⟨xa4, xb4, i4, o4, rfl, fo4, bb17⟩
    have HWH : Hid (o4 = true → i4 = true → xa4 = 0 ∧ xb4 = s.size) := hide (fun h1 h2 => by subst h1; subst h2; exact law_whole fo4)
    have B17 := hide (bel_trans (unhide B16) bb17)
    clear fo4 bb17 HFW B16
    unfold spanV
    have pp := (unhide B17).alloc (unhide B17).size (.cells #[.int .i64 xa4, .int .i64 xb4] 29)
    have p5 : (w17.alloc (.cells #[.int .i64 xa4, .int .i64 xb4] 29)).cell? ⟨w17.heap.size, 0, none⟩ = some (.int .i64 xa4) ∧ (w17.alloc (.cells #[.int .i64 xa4, .int .i64 xb4] 29)).cell? ⟨w17.heap.size, 1, none⟩ = some (.int .i64 xb4) := ⟨by rw [World.cell?_alloc_new]; rfl, by rw [World.cell?_alloc_new]; rfl⟩
    obtain ⟨w18, hw18⟩ : ∃ w18, w17.alloc (.cells #[.int .i64 xa4, .int .i64 xb4] 29) = w18 := ⟨_, rfl⟩
    rw [hw18] at pp p5
    obtain ⟨p0, p1⟩ := p5
    obtain ⟨⟨y0, y1, y2, y3, y4, y5⟩, ⟨z0, z1, z2, z3, z4, z5⟩, bw, hl⟩ := (unhide HM) w18 pp
    have B18 := hide pp
    clear pp bw B17 z0 z1 z2 z3 z4 z5
    go_upto_region 11 with fail
    clear hw18
    go_cut [108] from 98 to 108 (fun v wx => v = .bool false ∧ wx = w18)
    case first =>
      clear y0 y1 y2 y3 y4 y5 hl
      cases o4
      · go_wp2_with fail
        go_meet
        exact ⟨rfl, rfl⟩
      · cases i4
        · go_wp2_with fail
          go_meet
          exact ⟨rfl, rfl⟩
        · have h12 := (unhide HWH) rfl rfl
          have hE1 : (xa4 == 0) = true := by rw [h12.1]; rfl
          have hE2 : (xb4 == (s.size : Int)) = true := by rw [h12.2]; simp
          clear HWH h12
          go_wp2_with fail
          go_meet
          exact ⟨rfl, rfl⟩
    case rest =>
      obtain ⟨rfl, hwc⟩ := hcut
      subst hwc
      clear HWH p0 p1
      cases oa
      · clear y0 y1 y2 y3 y4 y5
        go_wp2_with fail
        go_ret
        exact ⟨rfl, bel_trans (unhide C0) (unhide B18)⟩
      · have HAS := hide (asks_any 8 r _ wc ((unhide HV0) wc (bel_trans (unhide C0) (unhide B18))))
        go_wp2_with fail
        clear y0 y1 y2 y3 y4 y5 hl
        refine (unhide HAS).mono ?_
        rintro e w19 ⟨t, rfl, ht, bb19⟩
        have HN := hide ht
        have B19 := hide (bel_trans (unhide B18) bb19)
        clear ht bb19 HAS B18
        cases t with
        | true =>
          go_wp2_with fail
          go_ret
          exact ⟨rfl, bel_trans (unhide C0) (unhide B19)⟩
        | false =>
          obtain ⟨⟨y0, y1, y2, y3, y4, y5⟩, _, bw, hl⟩ := (unhide HM) w19 (unhide B19)
          have HFE := hide (found_any r _ (s ++ m) w19 ((unhide HV0) w19 bw) ((unhide HTW) w19 bw))
          clear bw
          go_wp2_with fail
          clear y0 y1 y2 y3 y4 y5 hl
          refine (unhide HFE).mono ?_
          rintro e w20 ⟨xa5, xb5, d, fine, rfl, fo5, bb20⟩
          have hd : Hid (fine = true → ia = true → d = true) := hide (fun h1 h2 => by
            subst h1; subst h2
            exact law_more (unhide FO1) fo5 (fun h => by have := (unhide HN).2 h; cases this))
          have B20 := hide (bel_trans (bel_trans (unhide B19) bb20) ((Below.refl w20.heap.size w20).alloc (Nat.le_refl _) (.cells #[.int .i64 xa5, .int .i64 xb5] 29)))
          clear fo5 bb20 HFE B19 FO1
          unfold spanV
          cases fine
          · go_wp2_with fail
            go_ret
            exact ⟨rfl, bel_trans (unhide C0) (unhide B20)⟩
          · cases ia
            · go_wp2_with fail
              go_ret
              exact ⟨rfl, bel_trans (unhide C0) (unhide B20)⟩
            · obtain rfl := (unhide hd) rfl rfl
              go_wp2_with fail
              go_ret
              exact ⟨rfl, bel_trans (unhide C0) (unhide B20)⟩
theorem walk (v0 : Value) (r : Rx) (v1 : Value) (q : Rx) (s m : ByteArray) (hb : s.size + m.size ≤ 1048576) (w : World) (hV0 : RexV w v0 r) (hV1 : RexV w v1 q) (hL : laidMetH Tryd.prog Rows.rexLawsUptoRow.laid w) :
    Calls Tryd.prog 4 #[v0, v1, .string s, .string m] w fun e w' => e = .returned (.bool true) ∧ Below w.heap.size w w' :=
  walk0 v0 r v1 q s m hb w hV0 hV1 (tz_of (W := w) hL)
theorem own : ownKnob Tryd.prog.godebug = none := by kernel_rfl

theorem small_of {H : Type} {a0 : DataW H} {a1 : DataW H} {a2 : ByteArray} {a3 : ByteArray} (hk : Rows.uptoSmall H ([a0, a1, .lit (.string a2.data.toList), .lit (.string a3.data.toList)] ++ []) = true) : Rows.uptoBulk a0 + Rows.uptoBulk a1 + a2.size + a3.size ≤ 1048576 := by
  have h := of_decide_eq_true hk
  simp only [Rows.uptoBulkAll, Rows.uptoBulk, List.append_nil, Array.length_toList, ByteArray.size_data] at h
  omega

set_option maxRecDepth 100000 in
theorem contract (H : Type) (enc : TypeId × Value → H) (W : World) (base : Nat) (args : Array Value) (ds gs : List (DataW H)) (before : List MemPlace) (hsh : W.ShapedOpen Tryd.prog)
    (hval0 : ∀ (j : Nat) t v, Tryd.f4.params[j]? = some t → args[j]? = some v → Value.okWide Tryd.prog W .any base t v)
    (hW : DataW.Whole enc Tryd.prog Tryd.f4.params.toList Rows.rexLawsSpec.vars false W args.toList ds gs before) (hk : Rows.uptoSmall H (ds ++ gs) = true) (hL : laidMetH Tryd.prog Rows.rexLawsUptoRow.laid W) :
    Calls Tryd.prog 4 args W fun e W' => ∃ v, e = .returned v ∧ Rows.rexLawsSpec.post enc Tryd.prog Tryd.f4 false true false false W args v W' := by
  have hval : ∀ (j : Nat) t v, Tryd.f4.params[j]? = some t → args[j]? = some v → Value.okWide Tryd.prog W .any base t v := hval0
  have hW' := hW
  obtain ⟨p, q, hA0, hV, rfl, hfz, hnd⟩ := hW
  have hA : DataW.TrodAll enc Tryd.prog W 0 (fun _ => true) true Tryd.f4.params.toList args.toList ds p := hA0
  rw [Tryd.params4] at hA hval
  obtain ⟨v0, vs0, d0, ds0, p0, q0, hargs, rfl, rfl, h0, r0⟩ := trodAll_cons hA
  obtain ⟨v1, vs1, d1, ds1, p1, q1, rfl, rfl, rfl, h1, r1⟩ := trodAll_cons r0
  obtain ⟨v2, vs2, d2, ds2, p2, q2, rfl, rfl, rfl, h2, r2⟩ := trodAll_cons r1
  obtain ⟨v3, vs3, d3, ds3, p3, q3, rfl, rfl, rfl, h3, r3⟩ := trodAll_cons r2
  obtain ⟨rfl, rfl, rfl⟩ := trodAll_nil r3
  obtain rfl : args = #[v0, v1, v2, v3] := by cases args; simp_all
  obtain ⟨rfl, rfl⟩ := trodVars_none hV
  obtain ⟨a2, rfl, rfl, rfl, w2⟩ := open_string Tryd.underlying9 (hval 2 9 v2 rfl rfl) h2
  obtain ⟨a3, rfl, rfl, rfl, w3⟩ := open_string Tryd.underlying9 (hval 3 9 v3 rfl rfl) h3
  have hsm := small_of hk
  obtain ⟨z0, hI0, hlt0⟩ := open_rex_in (hval 0 27 v0 rfl rfl) h0 (by omega)
  obtain ⟨z1, hI1, hlt1⟩ := open_rex_in (hval 1 27 v1 rfl rfl) h1 (by omega)
  clear hA0 hval0
  refine (walk v0 z0 v1 z1 a2 a3 (by omega) W hI0 hI1 hL).mono fun e W' ⟨he, hb⟩ => ?_
  subst he
  exact ⟨_, rfl, _, _, _, [], (p0 ++ (p1 ++ ([] ++ ([] ++ [])))), [], hW', (trodAll_cons_mk (shut_bool Tryd.underlying4 _) trodAll_mk0), (trodAll_cons_mk (Below.trod laidOutAll (by kernel_rfl) (of_decide_eq_true (by kernel_rfl)) h0 hb hlt0) (trodAll_cons_mk (Below.trod laidOutAll (by kernel_rfl) (of_decide_eq_true (by kernel_rfl)) h1 hb hlt1) (trodAll_cons_mk (shut_string Tryd.underlying9 w2) (trodAll_cons_mk (shut_string Tryd.underlying9 w3) trodAll_mk0)))), rfl, hb.frame _, fun h => by cases h⟩

theorem reads (os : Os) {H : Type} (enc : TypeId × Value → H) : ∃ places, DataW.whole enc Tryd.prog ((laidIn (World.holding Tryd.prog os ⟨#[], #[], []⟩)).forCall (fun _ _ => 0) ⟨#[], #[.agg #[.int .i64 0, .int .u64 0, .int .u64 0, .int .u64 0, .int .u64 0, .slice none 0 0], .agg #[.int .i64 0, .int .u64 0, .int .u64 0, .int .u64 0, .int .u64 0, .slice none 0 0], .string ByteArray.empty, .string ByteArray.empty], []⟩).memory Tryd.f4.params.toList Rows.rexLawsSpec.vars false (#[.agg #[.int .i64 0, .int .u64 0, .int .u64 0, .int .u64 0, .int .u64 0, .slice none 0 0], .agg #[.int .i64 0, .int .u64 0, .int .u64 0, .int .u64 0, .int .u64 0, .slice none 0 0], .string ByteArray.empty, .string ByteArray.empty] : Array Value).toList 8 = some ([.agg [.lit (.int .i64 0), .agg [.lit (.int .u64 0), .lit (.int .u64 0), .lit (.int .u64 0), .lit (.int .u64 0)], .nil], .agg [.lit (.int .i64 0), .agg [.lit (.int .u64 0), .lit (.int .u64 0), .lit (.int .u64 0), .lit (.int .u64 0)], .nil], .lit (.string []), .lit (.string [])], [], places) :=
  ⟨[], by kernel_rfl⟩
theorem laid_met (os : Os) : laidMet Tryd.prog Rows.rexLawsUptoRow.laid ((laidIn (World.holding Tryd.prog os ⟨#[], #[], []⟩)).forCall (fun _ _ => 0) ⟨#[], #[.agg #[.int .i64 0, .int .u64 0, .int .u64 0, .int .u64 0, .int .u64 0, .slice none 0 0], .agg #[.int .i64 0, .int .u64 0, .int .u64 0, .int .u64 0, .int .u64 0, .slice none 0 0], .string ByteArray.empty, .string ByteArray.empty], []⟩).memory :=
  laidMet_of_run' 8 (by kernel_rfl) (by kernel_rfl)

set_option maxRecDepth 100000 in
theorem lifted (os : Os) (started : os.Started) (H : Type) (enc : TypeId × Value → H) (F : Stop.Interp) :
    ReturnsInHanded {} Tryd.checked os 4 .any ((Rows.OpenSpec.upto Rows.rexLawsSpec).preRow enc Tryd.prog Tryd.f4 Rows.rexLawsUptoRow.domain false Rows.rexLawsUptoRow.laid) (((Rows.OpenSpec.upto Rows.rexLawsSpec).at F).post enc Tryd.prog Tryd.f4 false true false false) := by
  obtain ⟨places, hx⟩ := reads os enc
  refine returnsInHanded_of_row (C := Tryd.checked) (s := Rows.OpenSpec.upto Rows.rexLawsSpec) own started (by kernel_rfl) Tryd.func4
    (witness_row_at (enc := enc) (C := Tryd.checked) false (laidIn (World.holding Tryd.prog os ⟨#[], #[], []⟩)) #[.agg #[.int .i64 0, .int .u64 0, .int .u64 0, .int .u64 0, .int .u64 0, .slice none 0 0], .agg #[.int .i64 0, .int .u64 0, .int .u64 0, .int .u64 0, .int .u64 0, .slice none 0 0], .string ByteArray.empty, .string ByteArray.empty] rfl (by kernel_rfl) (by kernel_rfl) (by kernel_rfl)
      (OpenSpec.preRow_of_cond 8 hx (by kernel_rfl) (fun k hk => by cases hk; kernel_rfl) (by kernel_rfl) (laid_met os))) ?_
  intro W base args ds gs before hval hW _ hcond _ hL hsh _
  exact contract H enc W base args ds gs before hsh hval hW (hcond _ rfl) hL

theorem row : Rows.RexLawsUptoSaid :=
  OpenClaim.holds_of_cond 4 Tryd.f4 rfl rfl rfl rfl rfl rfl rfl ⟨rfl, rfl, rfl, rfl, rfl⟩ rfl rfl rfl rfl rfl (by kernel_rfl) Tryd.func4 (by kernel_rfl)
    (of_decide_eq_true (by kernel_rfl)) (by unfold Func.isWrapper; first | (rw [if_pos (by decide +kernel)]; kernel_rfl) | (rw [if_neg (by decide +kernel)]; exact ⟨rfl, rfl⟩))
    (fun os started H enc _ F => by rw [OpenClaim.pre_eq_preRow]; exact lifted os started H enc F)

theorem plain (f : FuncId) (fn : Func) (hf : Tryd.pinned.checked.prog.funcNamed "gatewicket/wickkeep.RexLaws" = some f) (hfn : Tryd.pinned.checked.prog.funcs[f]? = some fn) :
    false = Tryd.pinned.checked.prog.looks [] ∧ ∀ (j : Nat) t, fn.params[j]? = some t → Tryd.pinned.checked.prog.wantsStandIn t = false := by
  obtain rfl : f = 4 := Option.some.inj ((show Tryd.prog.funcNamed "gatewicket/wickkeep.RexLaws" = some 4 by kernel_rfl).symm.trans hf) |>.symm
  obtain rfl : fn = Tryd.f4 := (Option.some.inj (Tryd.func4.symm.trans hfn)).symm
  refine ⟨by kernel_rfl, fun j t ht => ?_⟩
  rw [Tryd.params4] at ht
  have hm : t = 27 ∨ t = 9 := by simpa using Array.mem_of_getElem? ht
  rcases hm with rfl | rfl
  · exact (show Tryd.prog.wantsStandIn 27 = false by kernel_rfl)
  · exact (show Tryd.prog.wantsStandIn 9 = false by kernel_rfl)

theorem over : Rows.RexLawsUptoCardSaid :=
  Claim7.holds_tied_plain_at .later [] _ _ _ _ row (fun _ h => by cases h) (by kernel_rfl) (fun _ h => by cases h) rexLawsUpto_row_tie rfl ⟨rfl, rfl⟩ (by kernel_rfl) rfl plain (by kernel_rfl)
end Go.Proofs.YtjecopdbcaojcaaDoor.rexLaws
namespace Go.Proofs.YtjecopdbcaojcaaDoor
theorem rexLaws_holds : Rows.RexLawsUptoCardSaid := rexLaws.over
#print axioms rexLaws_holds
end Go.Proofs.YtjecopdbcaojcaaDoor
