/- Whatever is handed in, Feed answers what the document says.
   Conditions: what is handed in is of bulk at most 1048576; the library's tables are as the program's text lays them, and its own variable MaxLen holds whatever number. -/
import Derived.Test.YtjpclmkekmkddaaGreatDoorRows
import Derived.Test.YtjpclmkekmkddaaGreatDoorTie
import Derived.Test.YtjpclmkekmkddaaGreatDoorCards
import Derived.WalkKit
import Derived.ProofKit
import Derived.OpenShut
import Derived.ShutString
import Derived.JoinedCond
import Derived.BigQuiet
import Derived.Deep.QuietTactic
import Derived.Test.YtjpclmkekmkddaaGreatDoorUC
import Derived.Test.YtjpclmkekmkddaaGreatDoorUp
import Derived.Test.YtjpclmkekmkddaaGreatDoorLaid
import Derived.Stop.LaidErr
namespace Go.Proofs.YtjpclmkekmkddaaGreatDoor.oneFeeds
open Go.ChangeShapes Go.WideShapes Go.ChangeAt Go.RowKit
open Go.ChangeMaps (open_string shut_string)
open Kb
open Mh (Fl)
set_option linter.unusedVariables false
set_option maxRecDepth 20000
set_option maxRecDepth 20000

set_option maxHeartbeats 8000000 in
theorem walk_m (rest : ByteArray) (over hd bd ar : Int) (s : ByteArray) (k : Int) (hb : rest.size + s.size ≤ 1048576) (w : World) (hm : MH k w) :
    Calls Tryz.prog 4 #[.agg #[.string rest, .int .i64 over], .agg #[.int .i64 hd, .int .i64 bd, .int .i64 ar], .string s] w fun e w' => e = .returned (.bool true) ∧ Below w.heap.size w w' := by
  obtain ⟨⟨⟨oa, ob⟩, ol, oe⟩, ho⟩ : ∃ o, On.feed hd bd ar rest.data.toList over s.data.toList = o := ⟨_, rfl⟩
  have HF := hide (fun W (hW : MH k W) => feed_any rest over hd bd ar s k W (by omega) hW _ ho)
  have HBN := hide (fun W => bounds_any hd bd ar W)
  have HRQ := hide (fun (h : On.bnd hd bd ar = 0) W o hoo => requests_any (rest ++ s) hd bd ar W (by rw [ByteArray.size_append]; omega) h o hoo)
  rw [cat_data] at HRQ
  have HEQ := hide (fun W B C V U l m (h1 : Reqs W B V l) (h2 : Reqs W C U m) (hq : l.map Prod.fst = m.map Prod.fst) (hn : l.length ≤ 1099511627776) => equal_reqs W B C V U l m h1 h2 hq hn)
  rw [On.feed_chk, len_data, len_data] at ho
  dsimp only at HF
  unfold bndV at HF HBN HRQ
  obtain ⟨x, hx⟩ : ∃ x, mk oa = x := ⟨_, rfl⟩
  rw [hx] at HF
  have HX := hide hx
  obtain ⟨c, hc⟩ : ∃ c, On.bnd hd bd ar = c := ⟨_, rfl⟩
  have HO := hide ho
  have HCK : Hid (On.chkF hd bd ar rest.size over s.size = if c ≠ 0 then c else if (65536 : Int) < rest.size ∨ (8192 : Int) < s.size then 2 else if over ≠ 0 then 8 else 0) := hide (by unfold On.chkF; rw [hc])
  rw [hc] at HBN HRQ
  have hcat : rest.size + s.size ≤ 16777216 := by omega
  clear hx hc ho
  have X1 := RX.new (base := w.heap.size) w (Nat.le_refl _) rest over
  have b1 := (Below.refl w.heap.size w).alloc (Nat.le_refl _) (.cells #[.string rest, .int .i64 over] 36)
  obtain ⟨W1, hW1⟩ : ∃ W, w.alloc (.cells #[.string rest, .int .i64 over] 36) = W := ⟨_, rfl⟩
  rw [hW1] at X1 b1
  obtain ⟨z0, z1, z2⟩ := three_newF W1 (.int .i64 hd) (.int .i64 bd) (.int .i64 ar) 23
  have b2 := (Below.refl W1.heap.size W1).alloc (Nat.le_refl _) (.cells #[.int .i64 hd, .int .i64 bd, .int .i64 ar] 23)
  have hl2 : W1.heap.size < (W1.alloc (.cells #[.int .i64 hd, .int .i64 bd, .int .i64 ar] 23)).heap.size := by simp
  obtain ⟨g2, hg2⟩ : ∃ g, W1.heap.size = g := ⟨_, rfl⟩
  obtain ⟨W2, hW2⟩ : ∃ W, W1.alloc (.cells #[.int .i64 hd, .int .i64 bd, .int .i64 ar] 23) = W := ⟨_, rfl⟩
  have X2 := X1.below b2
  rw [hW2] at b2 X2 z0 z1 z2 hl2
  rw [hg2] at z0 z1 z2 hl2
  have B2 := hide (bel_trans b1 b2)
  have HM2 := hide (hm.below (bel_trans b1 b2))
  have HVR := hide (fun W (h : Below W2.heap.size W2 W) => (⟨(X2.below h).cells, cell_below z0 hl2 h, cell_below z1 hl2 h, cell_below z2 hl2 h⟩ : (W.cell? ⟨w.heap.size, 0, none⟩ = some (.string rest) ∧ W.cell? ⟨w.heap.size, 1, none⟩ = some (.int .i64 over)) ∧ W.cell? ⟨g2, 0, none⟩ = some (.int .i64 hd) ∧ W.cell? ⟨g2, 1, none⟩ = some (.int .i64 bd) ∧ W.cell? ⟨g2, 2, none⟩ = some (.int .i64 ar)))
  obtain ⟨r0, r1⟩ := X2.cells
  clear b1 b2 X1 X2 hm
  go_enter Tryz.func4, Tryz.ntmps4
  go_wp2_with fail
  clear hW1 hW2 hg2 r0 r1 z0 z1 z2
  refine ((unhide HF) W2 (unhide HM2)).mono ?_; rintro e w3 ⟨V, l, rfl, hl1, hR, hl3, b3⟩
  obtain ⟨vo, vc, rfl⟩ := own_forms hR.own
  have X4 := RX.new (base := w3.heap.size) w3 (Nat.le_refl _) x ob
  have bb := (Below.refl w3.heap.size w3).alloc (Nat.le_refl _) (.cells #[.string x, .int .i64 ob] 36)
  obtain ⟨g4, hg4⟩ : ∃ g, w3.heap.size = g := ⟨_, rfl⟩
  obtain ⟨W4, hW4⟩ : ∃ W, w3.alloc (.cells #[.string x, .int .i64 ob] 36) = W := ⟨_, rfl⟩
  rw [hW4] at X4 bb
  rw [hg4] at X4
  have R4 := hide (hR.below bb)
  have HL := hide hl1
  have B4 := hide (bel_trans b3 bb)
  have Y4 := hide X4
  clear b3 bb hR hl1 X4 HF HM2
  obtain ⟨⟨r0, r1⟩, z0, z1, z2⟩ := (unhide HVR) W4 (unhide B4)
  go_wp2_with fail
  clear hW4 hg4 r0 r1 z0 z1 z2
  refine ((unhide HBN) W4).mono ?_; rintro e w5 ⟨rfl, b5⟩
  have R5 := hide ((unhide R4).below b5)
  have Y5 := hide ((unhide Y4).below b5)
  have B5 := hide (bel_trans (unhide B4) b5)
  clear b5 R4 Y4 B4 HBN
  obtain ⟨⟨r0, r1⟩, z0, z1, z2⟩ := (unhide HVR) w5 (unhide B5)
  obtain ⟨y0, y1⟩ := (unhide Y5).cells
  have hxe := eq_tq x
  have HBAD : Hid (∀ y : Int, On.chkF hd bd ar rest.size over s.size = y → y ≠ 0 → x = rest ∧ ob = over ∧ oe = y ∧ l = []) := hide (fun y hy h0 => by
    have ho := unhide HO
    rw [hy, if_pos h0] at ho
    injection ho with e1 e2; injection e1 with e1 e3; injection e2 with e2 e4
    subst e1 e3 e2 e4
    exact ⟨by rw [← unhide HX, mk_data], rfl, rfl, List.map_eq_nil_iff.1 (unhide HL)⟩)
  have HFIN := hide (bel_trans (unhide B2) (unhide B5))
  by_cases h1 : c = 0
  case neg =>
    obtain ⟨e1, e2, e3, e4⟩ := (unhide HBAD) c (by rw [unhide HCK, if_pos h1]) h1
    have hc0 : (c != 0) = true := by simpa using h1
    subst e1 e2 e3 e4
    clear HBAD HCK HO HX HL HRQ HEQ R5 HVR h1
    rw [List.length_nil]
    go_wp2_with fail
    (try (go_quiet (fail)))
    (try go_wp2)
    go_ret
    exact ⟨rfl, by first | exact unhide HFIN | exact Go.below_drewN (unhide HFIN) _⟩
  subst h1
  by_cases h2 : (65536 : Int) < rest.size
  · obtain ⟨e1, e2, e3, e4⟩ := (unhide HBAD) 2 (by rw [unhide HCK]; rw [if_neg (by simp), if_pos (.inl h2)]) (by decide)
    subst e1 e2 e3 e4
    clear HBAD HCK HO HX HL HRQ HEQ R5 HVR
    rw [List.length_nil]
    go_wp2_with fail
    (try (go_quiet (fail)))
    (try go_wp2)
    go_ret
    exact ⟨rfl, by first | exact unhide HFIN | exact Go.below_drewN (unhide HFIN) _⟩
  by_cases h3 : (8192 : Int) < s.size
  · obtain ⟨e1, e2, e3, e4⟩ := (unhide HBAD) 2 (by rw [unhide HCK]; rw [if_neg (by simp), if_pos (.inr h3)]) (by decide)
    subst e1 e2 e3 e4
    clear HBAD HCK HO HX HL HRQ HEQ R5 HVR
    rw [List.length_nil]
    go_wp2_with fail
    (try (go_quiet (fail)))
    (try go_wp2)
    go_ret
    exact ⟨rfl, by first | exact unhide HFIN | exact Go.below_drewN (unhide HFIN) _⟩
  have h23 : ¬ ((65536 : Int) < rest.size ∨ (8192 : Int) < s.size) := by omega
  by_cases h4 : over = 0
  case neg =>
    have hov : (over != 0) = true := by simpa using h4
    obtain ⟨e1, e2, e3, e4⟩ := (unhide HBAD) 8 (by rw [unhide HCK]; rw [if_neg (by simp), if_neg h23, if_pos h4]) (by decide)
    subst e1 e2 e3 e4
    clear h4 h23 HBAD HCK HO HX HL HRQ HEQ R5 HVR
    rw [List.length_nil]
    go_wp2_with fail
    (try (go_quiet (fail)))
    (try go_wp2)
    go_ret
    exact ⟨rfl, by first | exact unhide HFIN | exact Go.below_drewN (unhide HFIN) _⟩
  have hck : On.chkF hd bd ar rest.size over s.size = 0 := by rw [unhide HCK, if_neg (by simp), if_neg h23, if_neg (by simpa using h4)]
  subst h4
  obtain ⟨⟨qa, qe⟩, hq⟩ : ∃ q : List UInt8 × Int, (if (On.all hd.toNat bd (rest.data.toList ++ s.data.toList)).2.2 = 7 then ((On.all hd.toNat bd (rest.data.toList ++ s.data.toList)).2.1, 0) else ([], (On.all hd.toNat bd (rest.data.toList ++ s.data.toList)).2.2)) = q := ⟨_, rfl⟩
  have HE : Hid (oa = qa ∧ ob = qe ∧ oe = qe ∧ ol = (On.all hd.toNat bd (rest.data.toList ++ s.data.toList)).1) := hide (by
    have ho := unhide HO
    rw [hck, if_neg (by decide)] at ho
    split at ho
    · rename_i h7
      rw [if_pos h7] at hq
      injection ho with e1 e2; injection e1 with e1 e3; injection e2 with e2 e4; injection hq with e5 e6
      exact ⟨by rw [← e1, e5], by rw [← e3, e6], by rw [← e4, e6], e2.symm⟩
    · rename_i h7
      rw [if_neg h7] at hq
      injection ho with e1 e2; injection e1 with e1 e3; injection e2 with e2 e4; injection hq with e5 e6
      exact ⟨by rw [← e1, e5], by rw [← e3, e6], by rw [← e4, e6], e2.symm⟩)
  have HQ2 := hide (fun W => (unhide HRQ) rfl W (qa, qe) hq)
  obtain ⟨f1, f2, f3, f4⟩ := unhide HE
  have hxq : mk qa = x := by rw [← f1]; exact unhide HX
  dsimp only at HQ2
  rw [hxq] at HQ2
  have HLL : Hid (l.map Prod.fst = (On.all hd.toNat bd (rest.data.toList ++ s.data.toList)).1) := hide (by rw [unhide HL, f4])
  subst f2 f3
  clear HE HRQ HCK HBAD HO HX HL hq hck h23 hxq f1 f4
  go_wp2_with fail
  refine ((unhide HQ2) w5).mono ?_; rintro e w6 ⟨U, m, rfl, hm1, hR6, hm3, b6⟩
  obtain ⟨uo, uc, rfl⟩ := own_forms hR6.own
  obtain ⟨y0, y1⟩ := ((unhide Y5).below b6).cells
  have HS := hide ((unhide HEQ) w6 _ _ _ _ l m ((unhide R5).below b6) hR6 (by rw [unhide HLL, hm1]) (by omega))
  have HF6 := hide (bel_trans (unhide HFIN) b6)
  clear hm1 hR6 b6 HQ2 HEQ R5 Y5 HLL HFIN B5 r0 r1 z0 z1 z2 HVR B2
  go_wp2_with fail
  refine (unhide HS).mono ?_; rintro e w7 ⟨rfl, b7⟩
  have HF7 := hide (bel_trans (unhide HF6) b7)
  clear b7 HS HF6 y0 y1
  go_wp2_with fail
  go_ret
  exact ⟨rfl, unhide HF7⟩
theorem walk (rest : ByteArray) (over hd bd ar : Int) (s : ByteArray) (hb : rest.size + s.size ≤ 1048576) (he : -9223372036854775808 ≤ over ∧ over ≤ 9223372036854775807) (hh : (-9223372036854775808 ≤ hd ∧ hd ≤ 9223372036854775807) ∧ (-9223372036854775808 ≤ bd ∧ bd ≤ 9223372036854775807) ∧ (-9223372036854775808 ≤ ar ∧ ar ≤ 9223372036854775807)) (w : World) (hsh : w.ShapedOpen Tryz.prog) (hL : laidMetH Tryz.prog Rows.oneFeedsUptoRow.laid w) :
    Calls Tryz.prog 4 #[.agg #[.string rest, .int .i64 over], .agg #[.int .i64 hd, .int .i64 bd, .int .i64 ar], .string s] w fun e w' => e = .returned (.bool true) ∧ Below w.heap.size w w' := by
  obtain ⟨k, hk⟩ := Tryz.laysM145.s1_3 w hsh
  exact walk_m rest over hd bd ar s k hb w hk
theorem own : ownKnob Tryz.prog.godebug = none := by kernel_rfl

theorem small_of {H : Type} {b0 : Int} {b1 c1 : Int} {a0 : ByteArray} {a1 : Int} {a2 : ByteArray} (hk : Rows.uptoSmall H ([.agg [.lit (.string a0.data.toList), .lit (.int .i64 b0)], .agg [.lit (.int .i64 a1), .lit (.int .i64 b1), .lit (.int .i64 c1)], .lit (.string a2.data.toList)] ++ []) = true) : a0.size + a2.size ≤ 1048576 := by
  have h := of_decide_eq_true hk
  simp only [Rows.uptoBulkAll, Rows.uptoBulk, List.append_nil, Array.length_toList, ByteArray.size_data] at h
  omega

theorem contract (H : Type) (enc : TypeId × Value → H) (W : World) (base : Nat) (args : Array Value) (ds gs : List (DataW H)) (before : List MemPlace) (hsh : W.ShapedOpen Tryz.prog)
    (hval0 : ∀ (j : Nat) t v, Tryz.f4.params[j]? = some t → args[j]? = some v → Value.okWide Tryz.prog W .any base t v)
    (hW : DataW.Whole enc Tryz.prog Tryz.f4.params.toList Rows.oneFeedsSpec.vars false W args.toList ds gs before) (hk : Rows.uptoSmall H (ds ++ gs) = true) (hL : laidMetH Tryz.prog Rows.oneFeedsUptoRow.laid W) :
    Calls Tryz.prog 4 args W fun e W' => ∃ v, e = .returned v ∧ Rows.oneFeedsSpec.post enc Tryz.prog Tryz.f4 false true false false W args v W' := by
  have hval : ∀ (j : Nat) t v, Tryz.f4.params[j]? = some t → args[j]? = some v → Value.okWide Tryz.prog W .any base t v := hval0
  have hW' := hW
  obtain ⟨p, q, hA0, hV, rfl, hfz, hnd⟩ := hW
  have hA : DataW.TrodAll enc Tryz.prog W 0 (fun _ => true) true Tryz.f4.params.toList args.toList ds p := hA0
  rw [Tryz.params4] at hA hval
  obtain ⟨v0, vs0, d0, ds0, p0, q0, hargs, rfl, rfl, h0, r0⟩ := trodAll_cons hA
  obtain ⟨v1, vs1, d1, ds1, p1, q1, rfl, rfl, rfl, h1, r1⟩ := trodAll_cons r0
  obtain ⟨v2, vs2, d2, ds2, p2, q2, rfl, rfl, rfl, h2, r2⟩ := trodAll_cons r1
  obtain ⟨rfl, rfl, rfl⟩ := trodAll_nil r2
  obtain rfl : args = #[v0, v1, v2] := by cases args; simp_all
  obtain ⟨rfl, rfl⟩ := trodVars_none hV
  obtain ⟨c0, e0, y0, z0, m0, rfl, rfl, rfl, hy0, hz0⟩ := Go.Joins.open_agg2 Tryz.underlying36 (by kernel_rfl) (by kernel_rfl) (hval 0 36 v0 rfl rfl) h0
  obtain ⟨a0, ea0, rfl, w0⟩ := DataW.trod_string Tryz.underlying9 hy0
  obtain ⟨b0, eb0, rfl, x0⟩ := DataW.trod_int Tryz.underlying24 hz0
  simp at ea0 eb0
  subst ea0 eb0
  obtain ⟨c1, e1, k1, y1, z1, o1, m1, rfl, rfl, rfl, hy1, hz1, ho1⟩ := Go.Joins.open_agg3 Tryz.underlying23 (by kernel_rfl) (by kernel_rfl) (hval 1 23 v1 rfl rfl) h1
  obtain ⟨a1, ea1, rfl, w1⟩ := DataW.trod_int Tryz.underlying3 hy1
  obtain ⟨b1, eb1, rfl, x1⟩ := DataW.trod_int Tryz.underlying3 hz1
  obtain ⟨j1, ej1, rfl, xx1⟩ := DataW.trod_int Tryz.underlying3 ho1
  simp at ea1 eb1 ej1
  subst ea1 eb1 ej1
  obtain ⟨a2, rfl, rfl, rfl, w2⟩ := open_string Tryz.underlying9 (hval 2 9 v2 rfl rfl) h2
  clear hA0 hval0
  simp only [List.append_nil] at hW'
  have he0 : -9223372036854775808 ≤ b0 ∧ b0 ≤ 9223372036854775807 := by simpa [Lit.wf, IntKind.min, IntKind.max, IntKind.signed, IntKind.bits] using x0
  have hd1 : (-9223372036854775808 ≤ a1 ∧ a1 ≤ 9223372036854775807) ∧ (-9223372036854775808 ≤ b1 ∧ b1 ≤ 9223372036854775807) ∧ (-9223372036854775808 ≤ j1 ∧ j1 ≤ 9223372036854775807) := ⟨ by simpa [Lit.wf, IntKind.min, IntKind.max, IntKind.signed, IntKind.bits] using w1, by simpa [Lit.wf, IntKind.min, IntKind.max, IntKind.signed, IntKind.bits] using x1, by simpa [Lit.wf, IntKind.min, IntKind.max, IntKind.signed, IntKind.bits] using xx1⟩
  refine (walk a0 b0 a1 b1 j1 a2 (small_of hk) he0 hd1 W hsh hL).mono fun e W' ⟨he, hb⟩ => ?_
  subst he
  exact ⟨_, rfl, _, _, _, [], [], [], hW', (trodAll_cons_mk (shut_bool Tryz.underlying4 _) trodAll_mk0), (trodAll_cons_mk (Go.Joins.shut_agg2 (y0 := (.lit (.string a0.data.toList), [])) (y1 := (.lit (.int .i64 b0), [])) Tryz.underlying36 (by kernel_rfl) (by kernel_rfl) ⟨1, by simp [DataW.trod, Tryz.underlying9, w0]⟩ ⟨1, by simp [DataW.trod, Tryz.underlying24, x0]⟩) (trodAll_cons_mk (Go.Joins.shut_agg3 (y0 := (.lit (.int .i64 a1), [])) (y1 := (.lit (.int .i64 b1), [])) (y2 := (.lit (.int .i64 j1), [])) Tryz.underlying23 (by kernel_rfl) (by kernel_rfl) ⟨1, by simp [DataW.trod, Tryz.underlying3, w1]⟩ ⟨1, by simp [DataW.trod, Tryz.underlying3, x1]⟩ ⟨1, by simp [DataW.trod, Tryz.underlying3, xx1]⟩) (trodAll_cons_mk (shut_string Tryz.underlying9 w2) trodAll_mk0))), rfl, hb.frame _, fun h => by cases h⟩

theorem reads (os : Os) {H : Type} (enc : TypeId × Value → H) : ∃ places, DataW.whole enc Tryz.prog ((laidIn (World.holding Tryz.prog os ⟨#[], #[], []⟩)).forCall (fun _ _ => 0) ⟨#[], #[.agg #[.string ByteArray.empty, .int .i64 0], .agg #[.int .i64 0, .int .i64 0, .int .i64 0], .string ByteArray.empty], []⟩).memory Tryz.f4.params.toList Rows.oneFeedsSpec.vars false (#[.agg #[.string ByteArray.empty, .int .i64 0], .agg #[.int .i64 0, .int .i64 0, .int .i64 0], .string ByteArray.empty] : Array Value).toList 8 = some ([.agg [.lit (.string []), .lit (.int .i64 0)], .agg [.lit (.int .i64 0), .lit (.int .i64 0), .lit (.int .i64 0)], .lit (.string [])], [], places) :=
  ⟨[], by kernel_rfl⟩
theorem laid_met (os : Os) : laidMet Tryz.prog Rows.oneFeedsUptoRow.laid ((laidIn (World.holding Tryz.prog os ⟨#[], #[], []⟩)).forCall (fun _ _ => 0) ⟨#[], #[.agg #[.string ByteArray.empty, .int .i64 0], .agg #[.int .i64 0, .int .i64 0, .int .i64 0], .string ByteArray.empty], []⟩).memory :=
  laidMet_of_run' 8 (by kernel_rfl) (by kernel_rfl)

set_option maxRecDepth 100000 in
theorem lifted (os : Os) (started : os.Started) (H : Type) (enc : TypeId × Value → H) (F : Stop.Interp) :
    ReturnsInHanded {} Tryz.checked os 4 .any ((Rows.OpenSpec.upto Rows.oneFeedsSpec).preRow enc Tryz.prog Tryz.f4 Rows.oneFeedsUptoRow.domain false Rows.oneFeedsUptoRow.laid) (((Rows.OpenSpec.upto Rows.oneFeedsSpec).at F).post enc Tryz.prog Tryz.f4 false true false false) := by
  obtain ⟨places, hx⟩ := reads os enc
  refine returnsInHanded_of_row (C := Tryz.checked) (s := Rows.OpenSpec.upto Rows.oneFeedsSpec) own started (by kernel_rfl) Tryz.func4
    (witness_row_at (enc := enc) (C := Tryz.checked) false (laidIn (World.holding Tryz.prog os ⟨#[], #[], []⟩)) #[.agg #[.string ByteArray.empty, .int .i64 0], .agg #[.int .i64 0, .int .i64 0, .int .i64 0], .string ByteArray.empty] rfl (by kernel_rfl) (by kernel_rfl) (by kernel_rfl)
      (OpenSpec.preRow_of_cond 8 hx (by kernel_rfl) (fun k hk => by cases hk; kernel_rfl) (by kernel_rfl) (laid_met os))) ?_
  intro W base args ds gs before hval hW _ hcond _ hL hsh _
  exact contract H enc W base args ds gs before hsh hval hW (hcond _ rfl) hL

theorem row : Rows.OneFeedsUptoSaid :=
  OpenClaim.holds_of_cond 4 Tryz.f4 rfl rfl rfl rfl rfl rfl rfl ⟨rfl, rfl, rfl, rfl, rfl⟩ rfl rfl rfl rfl rfl (by kernel_rfl) Tryz.func4 (by kernel_rfl)
    (of_decide_eq_true (by kernel_rfl)) (by unfold Func.isWrapper; first | (rw [if_pos (by decide +kernel)]; kernel_rfl) | (rw [if_neg (by decide +kernel)]; exact ⟨rfl, rfl⟩))
    (fun os started H enc _ F => by rw [OpenClaim.pre_eq_preRow]; exact lifted os started H enc F)

theorem plain (f : FuncId) (fn : Func) (hf : Tryz.pinned.checked.prog.funcNamed "gatewicket/wicklaw.OneFeeds" = some f) (hfn : Tryz.pinned.checked.prog.funcs[f]? = some fn) :
    false = Tryz.pinned.checked.prog.looks [] ∧ ∀ (j : Nat) t, fn.params[j]? = some t → Tryz.pinned.checked.prog.wantsStandIn t = false := by
  obtain rfl : f = 4 := Option.some.inj ((show Tryz.prog.funcNamed "gatewicket/wicklaw.OneFeeds" = some 4 by kernel_rfl).symm.trans hf) |>.symm
  obtain rfl : fn = Tryz.f4 := (Option.some.inj (Tryz.func4.symm.trans hfn)).symm
  refine ⟨by kernel_rfl, fun j t ht => ?_⟩
  rw [Tryz.params4] at ht
  have hm : t = 36 ∨ t = 23 ∨ t = 9 := by simpa using Array.mem_of_getElem? ht
  rcases hm with rfl | rfl | rfl
  · exact (show Tryz.prog.wantsStandIn 36 = false by kernel_rfl)
  · exact (show Tryz.prog.wantsStandIn 23 = false by kernel_rfl)
  · exact (show Tryz.prog.wantsStandIn 9 = false by kernel_rfl)

theorem over : Rows.OneFeedsUptoCardSaid :=
  Claim7.holds_tied_plain_at .later [] _ _ _ _ row (fun _ h => by cases h) (by kernel_rfl) (fun _ h => by cases h) oneFeedsUpto_row_tie rfl ⟨rfl, rfl⟩ (by kernel_rfl) rfl plain (by kernel_rfl)
end Go.Proofs.YtjpclmkekmkddaaGreatDoor.oneFeeds
namespace Go.Proofs.YtjpclmkekmkddaaGreatDoor
theorem oneFeeds_holds : Rows.OneFeedsUptoCardSaid := oneFeeds.over
#print axioms oneFeeds_holds
end Go.Proofs.YtjpclmkekmkddaaGreatDoor
