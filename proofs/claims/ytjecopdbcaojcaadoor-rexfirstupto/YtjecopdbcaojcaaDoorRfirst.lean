/- What is found is matched by itself, if it asks for neither end; nothing that begins ahead is, and nothing longer: whatever is handed in.
   Conditions: what is handed in is of bulk at most 1048576; the library's table lies as its initialiser lays it. -/
import Derived.Test.YtjecopdbcaojcaaDoorRows
import Derived.Test.YtjecopdbcaojcaaDoorTie
import Derived.Test.YtjecopdbcaojcaaDoorCards
import Derived.WalkKit
import Derived.ProofKit
import Derived.OpenShut
import Derived.ShutString
import Derived.JoinedCond
import Derived.Laws.StructEq
import Derived.Deep.CutRange
import Derived.Lib.LaidTab
import Derived.Stop.LaidErr
import Derived.Deep.DeepHandedRow
import Derived.HandedShaped
import Derived.Deep.CondSized
import Derived.Test.YtjecopdbcaojcaaDoorZs
import Derived.Test.YtjecopdbcaojcaaDoorZq
import Derived.Test.YtjecopdbcaojcaaDoorHb
import Derived.Test.YtjecopdbcaojcaaDoorWrap
namespace Go.Proofs.YtjecopdbcaojcaaDoor.rexFirst
open Go.ChangeShapes Go.WideShapes Go.ChangeAt Go.RowKit
open Go.ChangeMaps (open_string shut_string)
open Kb Pop Sp
set_option linter.unusedVariables false
set_option maxRecDepth 20000

set_option maxRecDepth 200000 in
set_option maxHeartbeats 16000000 in
theorem walk0 (v0 : Value) (r : Rx) (s : ByteArray) (hb : s.size ≤ 1048576) (w : World) (hV0 : RexV w v0 r) (hT : TZ w) :
    Calls Tryd.prog 5 #[v0, .string s] w fun e w' => e = .returned (.bool true) ∧ Below w.heap.size w w' := by
  have HTW := hide (fun (W : World) (k : Below w.heap.size w W) => hT.below hT.lt k)
  have HV0 := hide (fun (W : World) (k : Below w.heap.size w W) => hV0.below k)
  obtain ⟨t0, ht0, hk0⟩ := hV0.val
  obtain ⟨o0, c0, rfl, _⟩ := hk0.form
  subst ht0
  unfold rexV at *
  obtain ⟨k0, hk0'⟩ : ∃ z, r.k = z := ⟨_, rfl⟩
  obtain ⟨⟨a1, a2, a3, a4⟩, hs0'⟩ : ∃ z, r.s = z := ⟨_, rfl⟩
  obtain ⟨n0, hn0'⟩ : ∃ z, r.ks.length = z := ⟨_, rfl⟩
  rw [hk0', hs0', hn0'] at HV0 ⊢
  dsimp only at HV0 ⊢
  clear hk0' hs0' hn0' hk0 hV0 hT
  have e1 : (w.alloc (.cells #[.int .i64 k0, .int .u64 a1, .int .u64 a2, .int .u64 a3, .int .u64 a4, .slice o0 n0 c0] 27)).heap.size = w.heap.size + 1 := by simp
  have X0 := RX.new (base := w.heap.size) w (Nat.le_refl _) k0 ⟨a1, a2, a3, a4⟩ (.slice o0 n0 c0)
  have X1 := X0.below ((Below.refl _ _).alloc (Nat.le_refl _) (.cells #[.string s] 9))
  have Y0 := World.cell?_alloc_new (w.alloc (.cells #[.int .i64 k0, .int .u64 a1, .int .u64 a2, .int .u64 a3, .int .u64 a4, .slice o0 n0 c0] 27)) #[.string s] 9 0
  rw [e1] at Y0
  have Y1 : ((w.alloc (.cells #[.int .i64 k0, .int .u64 a1, .int .u64 a2, .int .u64 a3, .int .u64 a4, .slice o0 n0 c0] 27)).alloc (.cells #[.string s] 9)).cell? ⟨w.heap.size + 1, 0, none⟩ = some (.string s) := Y0
  have b0 := ((Below.refl w.heap.size w).alloc (Nat.le_refl _) (.cells #[.int .i64 k0, .int .u64 a1, .int .u64 a2, .int .u64 a3, .int .u64 a4, .slice o0 n0 c0] 27)).alloc (by simp) (.cells #[.string s] 9)
  dsimp only at X1
  obtain ⟨W0, hW0⟩ : ∃ W0, (w.alloc (.cells #[.int .i64 k0, .int .u64 a1, .int .u64 a2, .int .u64 a3, .int .u64 a4, .slice o0 n0 c0] 27)).alloc (.cells #[.string s] 9) = W0 := ⟨_, rfl⟩
  rw [hW0] at X1 Y1 b0
  have hlW : w.heap.size + 1 < W0.heap.size := World.block_lt_of_cell? _ _ Y1
  have HM : Hid (∀ W, Below W0.heap.size W0 W → (W.cell? ⟨w.heap.size, 0, none⟩ = some (.int .i64 k0) ∧ W.cell? ⟨w.heap.size, 1, none⟩ = some (.int .u64 a1) ∧ W.cell? ⟨w.heap.size, 2, none⟩ = some (.int .u64 a2) ∧ W.cell? ⟨w.heap.size, 3, none⟩ = some (.int .u64 a3) ∧ W.cell? ⟨w.heap.size, 4, none⟩ = some (.int .u64 a4) ∧ W.cell? ⟨w.heap.size, 5, none⟩ = some (.slice o0 n0 c0)) ∧
      W.cell? ⟨w.heap.size + 1, 0, none⟩ = some (.string s) ∧ Below w.heap.size w W ∧ w.heap.size + 1 < W.heap.size) := hide (fun W k =>
    ⟨(X1.below k).cells, (k.cell (p := ⟨w.heap.size + 1, 0, none⟩) hlW).trans Y1, bel_trans b0 k, Nat.lt_of_lt_of_le hlW k.size⟩)
  have B0 := hide (Below.refl W0.heap.size W0)
  have C0 := hide b0
  clear e1 X0 X1 Y0 Y1 b0 hlW
  go_enter Tryd.func5, Tryd.ntmps5
  go_wp2_with fail
  clear hW0
  refine (letter_any 97 (by omega) W0).mono ?_
  rintro e w1 ⟨⟨s1, s2, s3, s4⟩, rfl, hf1, ht1, bb1⟩
  have B1 := hide bb1
  have F1 := hide hf1
  have T1 := hide ht1
  have L1 := hide (rexN_leaf TT w1 3 ⟨s1, s2, s3, s4⟩ (by omega) hf1)
  dsimp only at L1
  clear hf1 ht1 bb1 B0
  go_wp2_with fail
  refine (star_any 3 s1 s2 s3 s4 none 0 0 _ w1 (unhide L1)).mono ?_
  rintro e w3 ⟨g3, rfl, N3, bb3⟩
  have B3 := hide (bel_trans (unhide B1) bb3)
  have HFA := hide (found_any (Ex.star (.byte ⟨s1, s2, s3, s4⟩)).rx _ ⟨#[98, 97, 97]⟩ w3 N3.rexV ((unhide HTW) w3 (bel_trans (unhide C0) (unhide B3))))
  clear N3 bb3 B1 L1
  go_wp2_with fail
  refine (unhide HFA).mono ?_
  rintro e w5 ⟨xa, xb, xi, xo, rfl, hfo, bb5⟩
  obtain ⟨rfl, ho⟩ := hfo.right (x := Ex.star (.byte ⟨s1, s2, s3, s4⟩)) ⟨one_full' (by omega) (unhide T1), unhide F1⟩ (by simp [Ex.nodes]) (by simp [Ex.high]) (by decide)
  obtain ⟨o, hfi, rfl, hab⟩ := ho
  have hfi2 := first_baa (unhide T1)
  obtain rfl := hfi.uniq hfi2
  have hxa : xa = 0 := hab.1
  have hxb : xb = 0 := hab.2
  have hE1 : (xa == 0) = true := by rw [hxa]; rfl
  have hE2 : (xb == 0) = true := by rw [hxb]; rfl
  have B5 := hide (bel_trans (unhide B3) bb5)
  clear hfo bb5 hfi hfi2 hab hxa hxb HFA F1 T1 B3
  unfold spanV
  have p5 : (w5.alloc (.cells #[.int .i64 xa, .int .i64 xb] 29)).cell? ⟨w5.heap.size, 0, none⟩ = some (.int .i64 xa) ∧ (w5.alloc (.cells #[.int .i64 xa, .int .i64 xb] 29)).cell? ⟨w5.heap.size, 1, none⟩ = some (.int .i64 xb) := ⟨by rw [World.cell?_alloc_new]; rfl, by rw [World.cell?_alloc_new]; rfl⟩
  have bb6 := (unhide B5).alloc (unhide B5).size (.cells #[.int .i64 xa, .int .i64 xb] 29)
  obtain ⟨w6, hw6⟩ : ∃ w6, w5.alloc (.cells #[.int .i64 xa, .int .i64 xb] 29) = w6 := ⟨_, rfl⟩
  rw [hw6] at p5 bb6
  obtain ⟨p0, p1⟩ := p5
  obtain ⟨⟨y0, y1, y2, y3, y4, y5⟩, z, bw6, hl6⟩ := (unhide HM) w6 bb6
  have B6 := hide bb6
  have HFB := hide (found_any r _ s w6 ((unhide HV0) w6 bw6) ((unhide HTW) w6 bw6))
  clear bb6 bw6 B5
  simp only [Option.isSome_some]
  go_wp2_with fail
  clear hw6 p0 p1 y0 y1 y2 y3 y4 y5 z hl6 hE1 hE2
  refine (unhide HFB).mono ?_
  rintro e w7 ⟨fa, fb, is, ok, rfl, fo1, bb7⟩
  have FO1 := hide fo1
  have B7 := hide (bel_trans (unhide B6) bb7)
  clear fo1 bb7 HFB B6
  unfold spanV
  have pp := (unhide B7).alloc (unhide B7).size (.cells #[.int .i64 fa, .int .i64 fb] 29)
  have hp0 : (w7.alloc (.cells #[.int .i64 fa, .int .i64 fb] 29)).cell? ⟨w7.heap.size, 0, none⟩ = some (.int .i64 fa) := by rw [World.cell?_alloc_new]; rfl
  have hp1 : (w7.alloc (.cells #[.int .i64 fa, .int .i64 fb] 29)).cell? ⟨w7.heap.size, 1, none⟩ = some (.int .i64 fb) := by rw [World.cell?_alloc_new]; rfl
  obtain ⟨w8, hw8⟩ : ∃ w8, w7.alloc (.cells #[.int .i64 fa, .int .i64 fb] 29) = w8 := ⟨_, rfl⟩
  rw [hw8] at pp hp0 hp1
  have hl8 := World.block_lt_of_cell? _ _ hp0
  obtain ⟨gx, hgx⟩ : ∃ g, w7.heap.size = g := ⟨_, rfl⟩
  rw [hgx] at hp0 hp1 hl8
  have HP : Hid (∀ W, Below w8.heap.size w8 W → W.cell? ⟨gx, 0, none⟩ = some (.int .i64 fa) ∧ W.cell? ⟨gx, 1, none⟩ = some (.int .i64 fb) ∧ gx < W.heap.size) := hide (fun W k => ⟨(k.cell (p := ⟨gx, 0, none⟩) hl8).trans hp0, (k.cell (p := ⟨gx, 1, none⟩) hl8).trans hp1, Nat.lt_of_lt_of_le hl8 k.size⟩)
  have B8 := hide pp
  have D8 := hide (Below.refl w8.heap.size w8)
  obtain ⟨⟨y0, y1, y2, y3, y4, y5⟩, z, bw, hl⟩ := (unhide HM) w8 pp
  have HK7 := hide (asks_any 7 r _ w8 ((unhide HV0) w8 bw))
  clear pp hp0 hp1 hl8 bw B7
  cases ok
  · have his : is = false := by
      rcases unhide FO1 with ⟨_, h, _⟩ | ⟨h, _⟩
      · exact h
      · cases h
    subst his
    clear HK7
    go_wp2_with fail
    go_ret
    exact ⟨rfl, bel_trans (unhide C0) (unhide B8)⟩
  · go_wp2_with fail
    clear hw8 hgx y0 y1 y2 y3 y4 y5 z hl
    refine (unhide HK7).mono ?_
    rintro e w9 ⟨t7, rfl, ht7, bb9⟩
    have N7 := hide ht7
    have D9 := hide (bel_trans (unhide D8) bb9)
    have B9 := hide (bel_trans (unhide B8) bb9)
    clear ht7 bb9 HK7
    cases t7 with
    | true =>
      go_wp2_with fail
      go_ret
      exact ⟨rfl, bel_trans (unhide C0) (unhide B9)⟩
    | false =>
      obtain ⟨⟨y0, y1, y2, y3, y4, y5⟩, z, bw, hl⟩ := (unhide HM) w9 (unhide B9)
      have HK8 := hide (asks_any 8 r _ w9 ((unhide HV0) w9 bw))
      clear bw
      go_wp2_with fail
      clear y0 y1 y2 y3 y4 y5 z hl
      refine (unhide HK8).mono ?_
      rintro e w10 ⟨t8, rfl, ht8, bb10⟩
      have N8 := hide ht8
      have D10 := hide (bel_trans (unhide D9) bb10)
      have B10 := hide (bel_trans (unhide B9) bb10)
      clear ht8 bb10 HK8 D9 B9
      cases t8 with
      | true =>
        go_wp2_with fail
        go_ret
        exact ⟨rfl, bel_trans (unhide C0) (unhide B10)⟩
      | false =>
        obtain ⟨⟨y0, y1, y2, y3, y4, y5⟩, z, bw, hl⟩ := (unhide HM) w10 (unhide B10)
        have HTA := hide (two_any 4 7 0 0 0 0 none 0 0 (.mk 7 noSet []) k0 a1 a2 a3 a4 o0 n0 c0 r w10 (by omega) (leafN w10 7 (by omega)) ((unhide HV0) w10 bw).n)
        clear bw
        go_wp2_with fail
        clear y0 y1 y2 y3 y4 y5 z hl
        refine (unhide HTA).mono ?_
        rintro e w11 ⟨g11, rfl, N11, bb11⟩
        have D11 := hide (bel_trans (unhide D10) bb11)
        have HTB := hide (two_any 4 4 0 0 0 0 (some ⟨g11, 0, none⟩) 2 2 _ 8 0 0 0 0 none 0 0 (.mk 8 noSet []) w11 (by omega) N11 (leafN w11 8 (by omega)))
        clear N11 bb11 HTA D10
        go_wp2_with fail
        refine (unhide HTB).mono ?_
        rintro e w12 ⟨g12, rfl, N12, bb12⟩
        have D12 := hide (bel_trans (unhide D11) bb12)
        have HCK := hide (Check_any (wholeR r) _ w12 N12.rexV)
        clear N12 bb12 HTB D11
        go_wp2_with fail
        refine (unhide HCK).mono ?_
        rintro e w13 ⟨rfl, bb13⟩
        have D13 := hide (bel_trans (unhide D12) bb13)
        have B13 := hide (bel_trans (unhide B8) (unhide D13))
        clear bb13 HCK D12
        obtain ⟨cw, hcw⟩ : ∃ cw, chkR (wholeR r) = cw := ⟨_, rfl⟩
        rw [hcw]
        by_cases h0 : cw = 0
        · subst h0
          obtain ⟨_, hs3, x, o, hx, _, ho, hio, hoo⟩ := (unhide FO1).good
          have hnb : NoBeg x := (hasK_ex x).1 (fun h => by have := (unhide N7).2 (by rw [hx]; exact h); cases this)
          have hne : NoEn x := (hasK_ex x).2 (fun h => by have := (unhide N8).2 (by rw [hx]; exact h); cases this)
          have HW : Hid (∀ (f t : Nat) (W : World), f ≤ t → t ≤ s.size → Below w8.heap.size w8 W → Calls Tryd.prog 16 #[.int .i64 f, .int .i64 t, .pointer (some ⟨w.heap.size, 0, none⟩), .pointer (some ⟨w.heap.size + 1, 0, none⟩)] W fun e W' => e = .returned (.bool (M s.data.toList x f t)) ∧ Below W.heap.size W W') := hide (fun f t W h1 h2 k => by
            obtain ⟨hy, hz, hbw, hl⟩ := (unhide HM) W (bel_trans (unhide B8) k)
            exact first1_any r x k0 a1 a2 a3 a4 o0 n0 c0 s w.heap.size f t W h1 h2 hs3 hx (by rw [← hx]; exact hcw) hnb hne ((unhide HV0) W hbw) ((unhide HTW) W hbw) hl hy hz)
          have HO := hide ho
          have HOK := hide (fun i j (h : M s.data.toList x i j = true) => M_okm s x i j h)
          obtain ⟨_, z, _, hl⟩ := (unhide HM) w13 (unhide B13)
          clear hcw hnb hne hx ho
          by_cases h12 : 12 < s.size
          · have hI : (s.size : Int) > 12 := by omega
            cases o with
            | none =>
              obtain rfl : is = false := hio
              go_wp2_with fail
              go_ret
              exact ⟨rfl, bel_trans (unhide C0) (unhide B13)⟩
            | some p =>
              obtain rfl : is = true := hio
              obtain ⟨pi, pj⟩ := p
              have h1 : fa = (pi : Int) := hoo.1
              have h2 : fb = (pj : Int) := hoo.2
              subst h1
              subst h2
              have hm := (unhide HO).1
              have hmo := (unhide HOK) _ _ hm
              have HCL := hide ((unhide HW) pi pj w13 hmo.1 hmo.2 (unhide D13))
              rw [hm] at HCL
              obtain ⟨q0, q1, hlq⟩ := (unhide HP) w13 (unhide D13)
              clear hm hmo hoo
              go_wp2_with fail
              refine (unhide HCL).mono ?_
              rintro e w14 ⟨rfl, bb14⟩
              have B14 := hide (bel_trans (unhide B13) bb14)
              clear bb14 HCL q0 q1 hlq z hl
              go_wp2_with fail
              go_ret
              exact ⟨rfl, bel_trans (unhide C0) (unhide B14)⟩
          · have hI : ¬ ((s.size : Int) > 12) := by omega
            have HIO := hide hio
            have HOO := hide hoo
            clear hio hoo h12
            go_wp2_with fail
            clear z hl hI
            go_loopw [12] (fun xv wr => ∃ i : Nat, xv = .int .i64 i ∧ i ≤ s.size + 1 ∧ (∀ h k, h < i → M s.data.toList x h k = false) ∧ Below w13.heap.size w13 wr) (fun xv _ => s.size + 1 - (intOf xv).toNat)
            case atStart => exact ⟨0, rfl, by omega, fun h k hh => by omega, Below.refl _ _⟩
            case round =>
              obtain ⟨i, rfl, hi, hno, hbel⟩ := hrel
              have HNO := hide hno
              have BR := hide hbel
              clear hno hbel
              by_cases hlt : i ≤ s.size
              · have hI1 : (i : Int) ≤ s.size := by omega
                obtain ⟨_, z, _, hl⟩ := (unhide HM) wr (bel_trans (unhide B13) (unhide BR))
                go_wp2_with fail
                clear z hl
                go_loopw [13] (fun xv wr => ∃ p : Nat, xv = .int .i64 ((p : Int) - 1) ∧ i ≤ p ∧ p ≤ s.size + 1 ∧ (∀ k, p ≤ k → M s.data.toList x i k = false) ∧ Below w13.heap.size w13 wr) (fun xv _ => (intOf xv + 1).toNat)
                case atStart =>
                  refine ⟨s.size + 1, ?_, by omega, by omega, fun k hk => ?_, unhide BR⟩
                  · rw [show ((s.size + 1 : Nat) : Int) - 1 = (s.size : Int) by omega]
                  · cases ht : M s.data.toList x i k with
                    | false => rfl
                    | true => have := (unhide HOK) i k ht; omega
                case round =>
                  obtain ⟨p, rfl, hip, hps, hnk, hbel⟩ := hrel
                  have HNK := hide hnk
                  have BQ := hide hbel
                  clear hnk hbel BR
                  by_cases hgt : i < p
                  · obtain ⟨t, rfl⟩ : ∃ t, p = t + 1 := ⟨p - 1, by omega⟩
                    rw [show ((t + 1 : Nat) : Int) - 1 = (t : Int) by omega]
                    have hI2 : (t : Int) ≥ i := by omega
                    have HCL := hide ((unhide HW) i t wr (by omega) (by omega) (bel_trans (unhide D13) (unhide BQ)))
                    obtain ⟨mt, hmt⟩ : ∃ mt, M s.data.toList x i t = mt := ⟨_, rfl⟩
                    rw [hmt] at HCL
                    have HMT := hide hmt
                    clear hmt
                    go_wp2_with fail
                    refine (unhide HCL).mono ?_
                    rintro e w14 ⟨rfl, bb14⟩
                    have B14 := hide (bel_trans (unhide BQ) bb14)
                    clear bb14 HCL BQ
                    cases mt with
                    | true =>
                      have hF : First (M s.data.toList x) (some (i, t)) := ⟨unhide HMT, fun k hk => by
                        rcases Nat.lt_or_ge t k with g | g
                        · rw [(unhide HNK) k g] at hk; cases hk
                        · exact g, fun h k hh => (unhide HNO) h k hh⟩
                      obtain rfl := (unhide HO).uniq hF
                      obtain rfl : is = true := unhide HIO
                      have h1 : fa = (i : Int) := (unhide HOO).1
                      have h2 : fb = (t : Int) := (unhide HOO).2
                      subst h1
                      subst h2
                      obtain ⟨q0, q1, hlq⟩ := (unhide HP) w14 (bel_trans (unhide D13) (unhide B14))
                      clear hF HMT HNK HNO
                      go_wp2_with fail
                      go_ret
                      exact ⟨by first | rfl | exact ret_bool (by simp), bel_trans (unhide C0) (bel_trans (unhide B13) (unhide B14))⟩
                    | false =>
                      have HN2 : Hid (∀ k, t ≤ k → M s.data.toList x i k = false) := hide (fun k hk => by
                        by_cases e : k = t
                        · rw [e]; exact unhide HMT
                        · exact (unhide HNK) k (by omega))
                      clear HMT HNK
                      go_wp2_with fail
                      exact ⟨⟨t, rfl, by omega, by omega, unhide HN2, unhide B14⟩, by simp [intOf]; try omega⟩
                  · have hpi : p = i := by omega
                    subst hpi
                    have hI2 : ¬ ((p : Int) - 1 ≥ p) := by omega
                    have HN2 : Hid (∀ h k, h < p + 1 → M s.data.toList x h k = false) := hide (fun h k hh => by
                      by_cases e : h < p
                      · exact (unhide HNO) h k e
                      · obtain rfl : h = p := by omega
                        by_cases e2 : h ≤ k
                        · exact (unhide HNK) k e2
                        · cases ht : M s.data.toList x h k with
                          | false => rfl
                          | true => have := (unhide HOK) h k ht; omega)
                    clear HNK HNO
                    go_wp2_with fail
                    exact ⟨⟨p + 1, by go_num, by omega, unhide HN2, unhide BQ⟩, by simp [intOf]; omega⟩
              · have hI1 : ¬ ((i : Int) ≤ s.size) := by omega
                have hon : First (M s.data.toList x) none := fun h k => by
                  cases ht : M s.data.toList x h k with
                  | false => rfl
                  | true =>
                    have := (unhide HOK) h k ht
                    exact absurd ht (by rw [(unhide HNO) h k (by omega)]; simp)
                obtain rfl := (unhide HO).uniq hon
                obtain rfl : is = false := unhide HIO
                obtain ⟨_, z, _, hl⟩ := (unhide HM) wr (bel_trans (unhide B13) (unhide BR))
                clear hon HNO
                go_wp2_with fail
                go_ret
                exact ⟨rfl, bel_trans (unhide C0) (bel_trans (unhide B13) (unhide BR))⟩
        · have hne : (cw != 0) = true := bne_iff_ne.2 h0
          clear h0 hcw
          go_wp2_with fail
          go_ret
          exact ⟨rfl, bel_trans (unhide C0) (unhide B13)⟩
theorem walk (v0 : Value) (r : Rx) (s : ByteArray) (hb : s.size ≤ 1048576) (w : World) (hV0 : RexV w v0 r) (hL : laidMetH Tryd.prog Rows.rexFirstUptoRow.laid w) :
    Calls Tryd.prog 5 #[v0, .string s] w fun e w' => e = .returned (.bool true) ∧ Below w.heap.size w w' :=
  walk0 v0 r s hb w hV0 (tz_of (W := w) hL)
theorem own : ownKnob Tryd.prog.godebug = none := by kernel_rfl

theorem small_of {H : Type} {a0 : DataW H} {a1 : ByteArray} (hk : Rows.uptoSmall H ([a0, .lit (.string a1.data.toList)] ++ []) = true) : Rows.uptoBulk a0 + a1.size ≤ 1048576 := by
  have h := of_decide_eq_true hk
  simp only [Rows.uptoBulkAll, Rows.uptoBulk, List.append_nil, Array.length_toList, ByteArray.size_data] at h
  omega

set_option maxRecDepth 100000 in
theorem contract (H : Type) (enc : TypeId × Value → H) (W : World) (base : Nat) (args : Array Value) (ds gs : List (DataW H)) (before : List MemPlace) (hsh : W.ShapedOpen Tryd.prog)
    (hval0 : ∀ (j : Nat) t v, Tryd.f5.params[j]? = some t → args[j]? = some v → Value.okWide Tryd.prog W .any base t v)
    (hW : DataW.Whole enc Tryd.prog Tryd.f5.params.toList Rows.rexFirstSpec.vars false W args.toList ds gs before) (hk : Rows.uptoSmall H (ds ++ gs) = true) (hL : laidMetH Tryd.prog Rows.rexFirstUptoRow.laid W) :
    Calls Tryd.prog 5 args W fun e W' => ∃ v, e = .returned v ∧ Rows.rexFirstSpec.post enc Tryd.prog Tryd.f5 false true false false W args v W' := by
  have hval : ∀ (j : Nat) t v, Tryd.f5.params[j]? = some t → args[j]? = some v → Value.okWide Tryd.prog W .any base t v := hval0
  have hW' := hW
  obtain ⟨p, q, hA0, hV, rfl, hfz, hnd⟩ := hW
  have hA : DataW.TrodAll enc Tryd.prog W 0 (fun _ => true) true Tryd.f5.params.toList args.toList ds p := hA0
  rw [Tryd.params5] at hA hval
  obtain ⟨v0, vs0, d0, ds0, p0, q0, hargs, rfl, rfl, h0, r0⟩ := trodAll_cons hA
  obtain ⟨v1, vs1, d1, ds1, p1, q1, rfl, rfl, rfl, h1, r1⟩ := trodAll_cons r0
  obtain ⟨rfl, rfl, rfl⟩ := trodAll_nil r1
  obtain rfl : args = #[v0, v1] := by cases args; simp_all
  obtain ⟨rfl, rfl⟩ := trodVars_none hV
  obtain ⟨a1, rfl, rfl, rfl, w1⟩ := open_string Tryd.underlying9 (hval 1 9 v1 rfl rfl) h1
  have hsm := small_of hk
  obtain ⟨z0, hI0, hlt0⟩ := open_rex_in (hval 0 27 v0 rfl rfl) h0 (by omega)
  clear hA0 hval0
  refine (walk v0 z0 a1 (by omega) W hI0 hL).mono fun e W' ⟨he, hb⟩ => ?_
  subst he
  exact ⟨_, rfl, _, _, _, [], (p0 ++ ([] ++ [])), [], hW', (trodAll_cons_mk (shut_bool Tryd.underlying4 _) trodAll_mk0), (trodAll_cons_mk (Below.trod laidOutAll (by kernel_rfl) (of_decide_eq_true (by kernel_rfl)) h0 hb hlt0) (trodAll_cons_mk (shut_string Tryd.underlying9 w1) trodAll_mk0)), rfl, hb.frame _, fun h => by cases h⟩

theorem reads (os : Os) {H : Type} (enc : TypeId × Value → H) : ∃ places, DataW.whole enc Tryd.prog ((laidIn (World.holding Tryd.prog os ⟨#[], #[], []⟩)).forCall (fun _ _ => 0) ⟨#[], #[.agg #[.int .i64 0, .int .u64 0, .int .u64 0, .int .u64 0, .int .u64 0, .slice none 0 0], .string ByteArray.empty], []⟩).memory Tryd.f5.params.toList Rows.rexFirstSpec.vars false (#[.agg #[.int .i64 0, .int .u64 0, .int .u64 0, .int .u64 0, .int .u64 0, .slice none 0 0], .string ByteArray.empty] : Array Value).toList 8 = some ([.agg [.lit (.int .i64 0), .agg [.lit (.int .u64 0), .lit (.int .u64 0), .lit (.int .u64 0), .lit (.int .u64 0)], .nil], .lit (.string [])], [], places) :=
  ⟨[], by kernel_rfl⟩
theorem laid_met (os : Os) : laidMet Tryd.prog Rows.rexFirstUptoRow.laid ((laidIn (World.holding Tryd.prog os ⟨#[], #[], []⟩)).forCall (fun _ _ => 0) ⟨#[], #[.agg #[.int .i64 0, .int .u64 0, .int .u64 0, .int .u64 0, .int .u64 0, .slice none 0 0], .string ByteArray.empty], []⟩).memory :=
  laidMet_of_run' 8 (by kernel_rfl) (by kernel_rfl)

set_option maxRecDepth 100000 in
theorem lifted (os : Os) (started : os.Started) (H : Type) (enc : TypeId × Value → H) (F : Stop.Interp) :
    ReturnsInHanded {} Tryd.checked os 5 .any ((Rows.OpenSpec.upto Rows.rexFirstSpec).preRow enc Tryd.prog Tryd.f5 Rows.rexFirstUptoRow.domain false Rows.rexFirstUptoRow.laid) (((Rows.OpenSpec.upto Rows.rexFirstSpec).at F).post enc Tryd.prog Tryd.f5 false true false false) := by
  obtain ⟨places, hx⟩ := reads os enc
  refine returnsInHanded_of_row (C := Tryd.checked) (s := Rows.OpenSpec.upto Rows.rexFirstSpec) own started (by kernel_rfl) Tryd.func5
    (witness_row_at (enc := enc) (C := Tryd.checked) false (laidIn (World.holding Tryd.prog os ⟨#[], #[], []⟩)) #[.agg #[.int .i64 0, .int .u64 0, .int .u64 0, .int .u64 0, .int .u64 0, .slice none 0 0], .string ByteArray.empty] rfl (by kernel_rfl) (by kernel_rfl) (by kernel_rfl)
      (OpenSpec.preRow_of_cond 8 hx (by kernel_rfl) (fun k hk => by cases hk; kernel_rfl) (by kernel_rfl) (laid_met os))) ?_
  intro W base args ds gs before hval hW _ hcond _ hL hsh _
  exact contract H enc W base args ds gs before hsh hval hW (hcond _ rfl) hL

theorem row : Rows.RexFirstUptoSaid :=
  OpenClaim.holds_of_cond 5 Tryd.f5 rfl rfl rfl rfl rfl rfl rfl ⟨rfl, rfl, rfl, rfl, rfl⟩ rfl rfl rfl rfl rfl (by kernel_rfl) Tryd.func5 (by kernel_rfl)
    (of_decide_eq_true (by kernel_rfl)) (by unfold Func.isWrapper; first | (rw [if_pos (by decide +kernel)]; kernel_rfl) | (rw [if_neg (by decide +kernel)]; exact ⟨rfl, rfl⟩))
    (fun os started H enc _ F => by rw [OpenClaim.pre_eq_preRow]; exact lifted os started H enc F)

theorem plain (f : FuncId) (fn : Func) (hf : Tryd.pinned.checked.prog.funcNamed "gatewicket/wickkeep.RexFirst" = some f) (hfn : Tryd.pinned.checked.prog.funcs[f]? = some fn) :
    false = Tryd.pinned.checked.prog.looks [] ∧ ∀ (j : Nat) t, fn.params[j]? = some t → Tryd.pinned.checked.prog.wantsStandIn t = false := by
  obtain rfl : f = 5 := Option.some.inj ((show Tryd.prog.funcNamed "gatewicket/wickkeep.RexFirst" = some 5 by kernel_rfl).symm.trans hf) |>.symm
  obtain rfl : fn = Tryd.f5 := (Option.some.inj (Tryd.func5.symm.trans hfn)).symm
  refine ⟨by kernel_rfl, fun j t ht => ?_⟩
  rw [Tryd.params5] at ht
  have hm : t = 27 ∨ t = 9 := by simpa using Array.mem_of_getElem? ht
  rcases hm with rfl | rfl
  · exact (show Tryd.prog.wantsStandIn 27 = false by kernel_rfl)
  · exact (show Tryd.prog.wantsStandIn 9 = false by kernel_rfl)

theorem over : Rows.RexFirstUptoCardSaid :=
  Claim7.holds_tied_plain_at .later [] _ _ _ _ row (fun _ h => by cases h) (by kernel_rfl) (fun _ h => by cases h) rexFirstUpto_row_tie rfl ⟨rfl, rfl⟩ (by kernel_rfl) rfl plain (by kernel_rfl)
end Go.Proofs.YtjecopdbcaojcaaDoor.rexFirst
namespace Go.Proofs.YtjecopdbcaojcaaDoor
theorem rexFirst_holds : Rows.RexFirstUptoCardSaid := rexFirst.over
#print axioms rexFirst_holds
end Go.Proofs.YtjecopdbcaojcaaDoor
