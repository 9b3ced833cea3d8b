/- THOMPSON: the instructions of an expression find just what it matches: whatever is handed in.
   Conditions: what is handed in is of bulk at most 1048576; the library's table lies as its initialiser lays it. -/
import Derived.Test.YtmgealcolofomaaDoorRows
import Derived.Test.YtmgealcolofomaaDoorTie
import Derived.Test.YtmgealcolofomaaDoorCards
import Derived.WalkKit
import Derived.ProofKit
import Derived.OpenShut
import Derived.ShutString
import Derived.JoinedCond
import Derived.Laws.StructEq
import Derived.Deep.CutRange
import Derived.Lib.LaidTab
import Derived.Stop.LaidErr
import Derived.Deep.DeepHandedRow
import Derived.HandedShaped
import Derived.Deep.CondSized
import Derived.Test.YtmgealcolofomaaDoorZm
import Derived.Test.YtmgealcolofomaaDoorZn
import Derived.Test.YtmgealcolofomaaDoorZq
import Derived.Test.YtmgealcolofomaaDoorHb
import Derived.Test.YtmgealcolofomaaDoorOd
import Derived.Test.YtmgealcolofomaaDoorEv
import Derived.Test.YtmgealcolofomaaDoorEw
import Derived.Test.YtmgealcolofomaaDoorWrap
namespace Go.Proofs.YtmgealcolofomaaDoor.progSame
open Go.ChangeShapes Go.WideShapes Go.ChangeAt Go.RowKit
open Go.ChangeMaps (open_string shut_string)
open Kb Pop Sp
set_option linter.unusedVariables false
set_option maxRecDepth 20000
theorem one_full {t : Se} {b : Nat} (hb : b < 256) (h : ∀ j, j < 256 → bit t j = decide (j = b)) : t ≠ noSet := fun e => by
  have h1 := h b hb
  rw [e] at h1
  have : ∀ j ∈ List.range 256, bit noSet j = false := by decide +kernel
  rw [this b (List.mem_range.2 hb)] at h1
  simp at h1
/-- what the expression's Find answers, in numbers -/
theorem find_form {x : Ex} {s : ByteArray} {u : Value} (h : FindP x.rx s u) (hc : chkR x.rx = 0) : ∃ (fa fb : Int) (is : Bool) (z : Int), u = .tuple #[.agg #[.int .i64 fa, .int .i64 fb], .bool is, .int .i64 z] ∧ ((z = 2 ∧ 300 < s.size) ∨ (z = 0 ∧ s.size ≤ 300 ∧ ∃ o : Option (Nat × Nat), First (M s.data.toList x) o ∧ fa = fF o ∧ fb = fT o ∧ is = o.isSome)) := by
  rcases h with ⟨h, _⟩ | ⟨_, h, rfl⟩ | ⟨_, h, y, o, hy, _, ho, rfl⟩
  · exact absurd hc h
  · exact ⟨0, 0, false, 2, rfl, .inl ⟨rfl, h⟩⟩
  · rw [← rx_inj x y hy] at ho
    refine ⟨fF o, fT o, o.isSome, 0, ?_, .inr ⟨rfl, h, o, ho, rfl, rfl, rfl⟩⟩
    cases o <;> rfl
set_option maxRecDepth 200000 in
set_option maxHeartbeats 16000000 in
theorem walk0 (v0 : Value) (r : Rx) (s : ByteArray) (hb : s.size ≤ 1048576) (w : World) (hV0 : RexV w v0 r) (hT : TZ w) :
    Calls Tryd.prog 4 #[v0, .string s] w fun e w' => e = .returned (.bool true) ∧ Below w.heap.size w w' := by
  have HF := hide (fun (W : World) (k : Below w.heap.size w W) => Find_any r v0 s W (hV0.below k) (hT.below hT.lt k))
  have HMK := hide (fun (W : World) (k : Below w.heap.size w W) => Make_any r v0 W (hV0.below k))
  have HX : Hid (chkR r = 0 → ∃ x : Ex, r = x.rx ∧ x.nodes ≤ 80 ∧ x.Full) := hide (fun h => by
    obtain ⟨x, h1, h2, _, h4⟩ := chk_ex h hV0
    exact ⟨x, h1, h2, h4⟩)
  obtain ⟨t0, ht0, hk0⟩ := hV0.val
  obtain ⟨o0, c0, rfl, _⟩ := hk0.form
  subst ht0
  unfold rexV at *
  obtain ⟨k0, hk0'⟩ : ∃ z, r.k = z := ⟨_, rfl⟩
  obtain ⟨⟨a1, a2, a3, a4⟩, hs0'⟩ : ∃ z, r.s = z := ⟨_, rfl⟩
  obtain ⟨n0, hn0'⟩ : ∃ z, r.ks.length = z := ⟨_, rfl⟩
  rw [hk0', hs0', hn0'] at HF HMK ⊢
  dsimp only at HF HMK ⊢
  clear hk0' hs0' hn0' hk0 hV0 hT
  have X0 := RX.new (base := w.heap.size) w (Nat.le_refl _) k0 ⟨a1, a2, a3, a4⟩ (.slice o0 n0 c0)
  have b0 := (Below.refl w.heap.size w).alloc (Nat.le_refl _) (.cells #[.int .i64 k0, .int .u64 a1, .int .u64 a2, .int .u64 a3, .int .u64 a4, .slice o0 n0 c0] 38)
  dsimp only at X0
  obtain ⟨W0, hW0⟩ : ∃ W0, w.alloc (.cells #[.int .i64 k0, .int .u64 a1, .int .u64 a2, .int .u64 a3, .int .u64 a4, .slice o0 n0 c0] 38) = W0 := ⟨_, rfl⟩
  rw [hW0] at X0 b0
  have HM : Hid (∀ W, Below W0.heap.size W0 W → (W.cell? ⟨w.heap.size, 0, none⟩ = some (.int .i64 k0) ∧ W.cell? ⟨w.heap.size, 1, none⟩ = some (.int .u64 a1) ∧ W.cell? ⟨w.heap.size, 2, none⟩ = some (.int .u64 a2) ∧ W.cell? ⟨w.heap.size, 3, none⟩ = some (.int .u64 a3) ∧ W.cell? ⟨w.heap.size, 4, none⟩ = some (.int .u64 a4) ∧ W.cell? ⟨w.heap.size, 5, none⟩ = some (.slice o0 n0 c0)) ∧ Below w.heap.size w W ∧ w.heap.size < W.heap.size) := hide (fun W k =>
    ⟨(X0.below k).cells, bel_trans b0 k, (X0.below k).lt.2⟩)
  clear X0 b0
  go_enter Tryd.func4, Tryd.ntmps4
  go_wp2_with fail
  clear hW0
  refine (letter_any 97 (by omega) W0).mono ?_
  rintro e w1 ⟨⟨s1, s2, s3, s4⟩, rfl, hf1, ht1, bb1⟩
  have B1 := hide bb1
  have L1 := hide (rexN_leaf TT w1 3 ⟨s1, s2, s3, s4⟩ (by omega) hf1)
  dsimp only at L1
  have FU : Hid (Ex.star (.byte ⟨s1, s2, s3, s4⟩)).Full := hide ⟨one_full (by omega) ht1, hf1⟩
  clear hf1 ht1 bb1
  go_wp2_with fail
  refine (star_any 3 s1 s2 s3 s4 none 0 0 _ w1 (unhide L1)).mono ?_
  rintro e w2 ⟨g2, rfl, N2, bb2⟩
  have B2 := hide (bel_trans (unhide B1) bb2)
  have HMA := hide (Make_any (Ex.star (.byte ⟨s1, s2, s3, s4⟩)).rx _ w2 N2.rexV)
  clear N2 bb2 L1 B1
  go_wp2_with fail
  refine (unhide HMA).mono ?_
  rintro e w3 ⟨q, rfl, hq, bb3⟩
  have hc : chkR (Ex.star (.byte ⟨s1, s2, s3, s4⟩)).rx = 0 := by
    unfold chkR
    rw [ex_look _ 1 0 (unhide FU) (by simp [Ex.nodes]) (by simp [Ex.high])]
  obtain ⟨o3, c3, rfl⟩ := own_forms (hq.2 _ rfl hc)
  rw [hc]
  have h4 : (cdx (Ex.star (.byte ⟨s1, s2, s3, s4⟩)) 0 ++ [(⟨6, 0, 0, ⟨0, 0, 0, 0⟩⟩ : In)]).length = 4 := rfl
  rw [h4]
  have B3 := hide (bel_trans (unhide B2) bb3)
  obtain ⟨⟨y0, y1, y2, y3, y4, y5⟩, hbw, hl⟩ := (unhide HM) w3 (unhide B3)
  have HM3 := hide ((unhide HMK) w3 hbw)
  clear hq bb3 hc h4 FU HMA B2 HMK hbw
  go_wp2_with fail
  clear y0 y1 y2 y3 y4 y5 hl
  refine (unhide HM3).mono ?_
  rintro e w4 ⟨q4, rfl, hq4, bb4⟩
  have HQ := hide hq4
  have B4 := hide (bel_trans (unhide B3) bb4)
  have C4 := hide ((unhide HM) w4 (unhide B4)).2.1
  clear hq4 bb4 HM3 B3
  by_cases hz : chkR r = 0
  case neg =>
    obtain rfl := (unhide HQ).1 hz
    obtain ⟨ck, hck⟩ : ∃ ck, chkR r = ck := ⟨_, rfl⟩
    rw [hck] at hz ⊢
    have hne : (ck != 0) = true := bne_iff_ne.2 hz
    have heq : (ck == 0) = false := beq_eq_false_iff_ne.2 hz
    clear HQ hz hck HF HX HM
    go_wp2_with fail
    go_ret
    exact ⟨by first | rfl | exact ret_bool (by simp), unhide C4⟩
  obtain ⟨x, hx, hn, hfu⟩ := (unhide HX) hz
  have own4 := (unhide HQ).2 x hx hz
  rw [hz]
  have hz' : chkR x.rx = 0 := hx ▸ hz
  have HZ := hide hz'
  have hI4 : Insts w4 q4 (codeM x) := insts_own own4 (fun y hy => by
    unfold codeM at hy
    rcases List.mem_append.1 hy with h | h
    · exact fit_code x hfu 0 y h
    · simp at h; subst h; unfold FitS; decide) (by unfold codeM; simp)
  have hck0 := chk_code x hn
  have hcl : (codeM x).length ≤ 1099511627776 := by have := (Pm.good_of_chk hck0).small; omega
  have HI := hide (fun (W : World) (k : Below w4.heap.size w4 W) => find_all q4 (codeM x) s W (hI4.below k) hcl)
  have HC := hide (fun (W : World) (k : Below w4.heap.size w4 W) => pcheck_any q4 (codeM x) W (hI4.below k) hcl)
  obtain ⟨o4, c4, hq4, _⟩ := hI4.form
  obtain ⟨n4, hn4⟩ : ∃ n, (codeM x).length = n := ⟨_, rfl⟩
  rw [hn4] at hq4
  subst hq4
  rw [hck0] at HC
  have HCK := hide hck0
  obtain ⟨⟨y0, y1, y2, y3, y4, y5⟩, hbw, hl⟩ := (unhide HM) w4 (unhide B4)
  have HF4 := hide ((unhide HF) w4 hbw)
  rw [hx] at HF4
  clear own4 hI4 hck0 hcl hn4 hbw hz' hz hx hn hfu HQ HF HX
  go_wp2_with fail
  clear y0 y1 y2 y3 y4 y5 hl
  refine (unhide HF4).mono ?_
  rintro e w5 ⟨u, rfl, hu, bb5⟩
  obtain ⟨fa, fb, is, z, rfl, hcase⟩ := find_form hu (unhide HZ)
  have HCA := hide hcase
  have pp := bb5.alloc bb5.size (.cells #[.int .i64 fa, .int .i64 fb] 45)
  have hp0 : (w5.alloc (.cells #[.int .i64 fa, .int .i64 fb] 45)).cell? ⟨w5.heap.size, 0, none⟩ = some (.int .i64 fa) := by rw [World.cell?_alloc_new]; rfl
  have hp1 : (w5.alloc (.cells #[.int .i64 fa, .int .i64 fb] 45)).cell? ⟨w5.heap.size, 1, none⟩ = some (.int .i64 fb) := by rw [World.cell?_alloc_new]; rfl
  obtain ⟨w6, hw6⟩ : ∃ w6, w5.alloc (.cells #[.int .i64 fa, .int .i64 fb] 45) = w6 := ⟨_, rfl⟩
  rw [hw6] at pp hp0 hp1
  have hl6 := World.block_lt_of_cell? _ _ hp0
  obtain ⟨gx, hgx⟩ : ∃ g, w5.heap.size = g := ⟨_, rfl⟩
  rw [hgx] at hp0 hp1 hl6
  have HP : Hid (∀ W, Below w6.heap.size w6 W → W.cell? ⟨gx, 0, none⟩ = some (.int .i64 fa) ∧ W.cell? ⟨gx, 1, none⟩ = some (.int .i64 fb) ∧ gx < W.heap.size) := hide (fun W k => ⟨(k.cell (p := ⟨gx, 0, none⟩) hl6).trans hp0, (k.cell (p := ⟨gx, 1, none⟩) hl6).trans hp1, Nat.lt_of_lt_of_le hl6 k.size⟩)
  have B6 := hide pp
  have HI6 := hide ((unhide HI) w6 pp)
  clear pp hp0 hp1 hl6 bb5 hu hcase HF4 HI
  go_wp2_with fail
  clear hw6 hgx
  refine (unhide HI6).mono ?_
  rintro e w7 ⟨ga, gb, js, g, rfl, hfd, bb7⟩
  have HFD := hide hfd
  have B7 := hide (bel_trans (unhide B6) bb7)
  have D7 := hide bb7
  have pp := bb7.alloc bb7.size (.cells #[.int .i64 ga, .int .i64 gb] 45)
  have bb8 := bel_trans (unhide B6) pp
  have q0 : (w7.alloc (.cells #[.int .i64 ga, .int .i64 gb] 45)).cell? ⟨w7.heap.size, 0, none⟩ = some (.int .i64 ga) := by rw [World.cell?_alloc_new]; rfl
  have q1 : (w7.alloc (.cells #[.int .i64 ga, .int .i64 gb] 45)).cell? ⟨w7.heap.size, 1, none⟩ = some (.int .i64 gb) := by rw [World.cell?_alloc_new]; rfl
  obtain ⟨w8, hw8⟩ : ∃ w8, w7.alloc (.cells #[.int .i64 ga, .int .i64 gb] 45) = w8 := ⟨_, rfl⟩
  rw [hw8] at pp q0 q1 bb8
  have hlq := World.block_lt_of_cell? _ _ q0
  obtain ⟨gy, hgy⟩ : ∃ g, w7.heap.size = g := ⟨_, rfl⟩
  rw [hgy] at q0 q1 hlq
  obtain ⟨p0, p1, hlp⟩ := (unhide HP) w8 pp
  have C8 := hide (bel_trans (unhide C4) bb8)
  have HC8 := hide ((unhide HC) w8 bb8)
  clear pp bb8 bb7 hfd HI6 HC HP
  rcases unhide HCA with ⟨rfl, _⟩ | ⟨rfl, h300, o, ho, rfl, rfl, rfl⟩
  · go_wp2_with ((go_at_call 16); refine (unhide HC8).mono ?_; rintro e w9 ⟨rfl, hw9⟩; rw [hw9]; clear hw9 w9)
    go_ret
    exact ⟨by first | rfl | exact ret_bool (by simp), unhide C8⟩
  · obtain ⟨_, _, rfl, o', rfl, rfl, rfl, ho'⟩ := (unhide HFD).resolve_right (fun h => by
      have h1 := unhide HCK
      rcases h.1 with h2 | h2
      · exact h2 h1
      · omega)
    rw [thompsonB] at ho'
    obtain rfl := ho.uniq ho'
    obtain ⟨is, his⟩ : ∃ b, o.isSome = b := ⟨_, rfl⟩
    rw [his]
    clear his HFD HCA ho ho' h300
    cases is
    · go_wp2_with ((go_at_call 16); refine (unhide HC8).mono ?_; rintro e w9 ⟨rfl, hw9⟩; rw [hw9]; clear hw9 w9)
      go_ret
      exact ⟨by first | rfl | exact ret_bool (by simp), unhide C8⟩
    · go_wp2_with ((go_at_call 16); refine (unhide HC8).mono ?_; rintro e w9 ⟨rfl, hw9⟩; rw [hw9]; clear hw9 w9)
      go_ret
      exact ⟨by first | rfl | exact ret_bool (by simp), unhide C8⟩
theorem walk (v0 : Value) (r : Rx) (s : ByteArray) (hb : s.size ≤ 1048576) (w : World) (hV0 : RexV w v0 r) (hL : laidMetH Tryd.prog Rows.progSameUptoRow.laid w) :
    Calls Tryd.prog 4 #[v0, .string s] w fun e w' => e = .returned (.bool true) ∧ Below w.heap.size w w' :=
  walk0 v0 r s hb w hV0 (tz_of (W := w) hL)
theorem own : ownKnob Tryd.prog.godebug = none := by kernel_rfl

theorem small_of {H : Type} {a0 : DataW H} {a1 : ByteArray} (hk : Rows.uptoSmall H ([a0, .lit (.string a1.data.toList)] ++ []) = true) : Rows.uptoBulk a0 + a1.size ≤ 1048576 := by
  have h := of_decide_eq_true hk
  simp only [Rows.uptoBulkAll, Rows.uptoBulk, List.append_nil, Array.length_toList, ByteArray.size_data] at h
  omega

set_option maxRecDepth 100000 in
theorem contract (H : Type) (enc : TypeId × Value → H) (W : World) (base : Nat) (args : Array Value) (ds gs : List (DataW H)) (before : List MemPlace) (hsh : W.ShapedOpen Tryd.prog)
    (hval0 : ∀ (j : Nat) t v, Tryd.f4.params[j]? = some t → args[j]? = some v → Value.okWide Tryd.prog W .any base t v)
    (hW : DataW.Whole enc Tryd.prog Tryd.f4.params.toList Rows.progSameSpec.vars false W args.toList ds gs before) (hk : Rows.uptoSmall H (ds ++ gs) = true) (hL : laidMetH Tryd.prog Rows.progSameUptoRow.laid W) :
    Calls Tryd.prog 4 args W fun e W' => ∃ v, e = .returned v ∧ Rows.progSameSpec.post enc Tryd.prog Tryd.f4 false true false false W args v W' := by
  have hval : ∀ (j : Nat) t v, Tryd.f4.params[j]? = some t → args[j]? = some v → Value.okWide Tryd.prog W .any base t v := hval0
  have hW' := hW
  obtain ⟨p, q, hA0, hV, rfl, hfz, hnd⟩ := hW
  have hA : DataW.TrodAll enc Tryd.prog W 0 (fun _ => true) true Tryd.f4.params.toList args.toList ds p := hA0
  rw [Tryd.params4] at hA hval
  obtain ⟨v0, vs0, d0, ds0, p0, q0, hargs, rfl, rfl, h0, r0⟩ := trodAll_cons hA
  obtain ⟨v1, vs1, d1, ds1, p1, q1, rfl, rfl, rfl, h1, r1⟩ := trodAll_cons r0
  obtain ⟨rfl, rfl, rfl⟩ := trodAll_nil r1
  obtain rfl : args = #[v0, v1] := by cases args; simp_all
  obtain ⟨rfl, rfl⟩ := trodVars_none hV
  obtain ⟨a1, rfl, rfl, rfl, w1⟩ := open_string Tryd.underlying9 (hval 1 9 v1 rfl rfl) h1
  have hsm := small_of hk
  obtain ⟨z0, hI0, hlt0⟩ := open_rex_in (hval 0 38 v0 rfl rfl) h0 (by omega)
  clear hA0 hval0
  refine (walk v0 z0 a1 (by omega) W hI0 hL).mono fun e W' ⟨he, hb⟩ => ?_
  subst he
  exact ⟨_, rfl, _, _, _, [], (p0 ++ ([] ++ [])), [], hW', (trodAll_cons_mk (shut_bool Tryd.underlying4 _) trodAll_mk0), (trodAll_cons_mk (Below.trod laidOutAll (by kernel_rfl) (of_decide_eq_true (by kernel_rfl)) h0 hb hlt0) (trodAll_cons_mk (shut_string Tryd.underlying9 w1) trodAll_mk0)), rfl, hb.frame _, fun h => by cases h⟩

theorem reads (os : Os) {H : Type} (enc : TypeId × Value → H) : ∃ places, DataW.whole enc Tryd.prog ((laidIn (World.holding Tryd.prog os ⟨#[], #[], []⟩)).forCall (fun _ _ => 0) ⟨#[], #[.agg #[.int .i64 0, .int .u64 0, .int .u64 0, .int .u64 0, .int .u64 0, .slice none 0 0], .string ByteArray.empty], []⟩).memory Tryd.f4.params.toList Rows.progSameSpec.vars false (#[.agg #[.int .i64 0, .int .u64 0, .int .u64 0, .int .u64 0, .int .u64 0, .slice none 0 0], .string ByteArray.empty] : Array Value).toList 8 = some ([.agg [.lit (.int .i64 0), .agg [.lit (.int .u64 0), .lit (.int .u64 0), .lit (.int .u64 0), .lit (.int .u64 0)], .nil], .lit (.string [])], [], places) :=
  ⟨[], by kernel_rfl⟩
theorem laid_met (os : Os) : laidMet Tryd.prog Rows.progSameUptoRow.laid ((laidIn (World.holding Tryd.prog os ⟨#[], #[], []⟩)).forCall (fun _ _ => 0) ⟨#[], #[.agg #[.int .i64 0, .int .u64 0, .int .u64 0, .int .u64 0, .int .u64 0, .slice none 0 0], .string ByteArray.empty], []⟩).memory :=
  laidMet_of_run' 8 (by kernel_rfl) (by kernel_rfl)

set_option maxRecDepth 100000 in
theorem lifted (os : Os) (started : os.Started) (H : Type) (enc : TypeId × Value → H) (F : Stop.Interp) :
    ReturnsInHanded {} Tryd.checked os 4 .any ((Rows.OpenSpec.upto Rows.progSameSpec).preRow enc Tryd.prog Tryd.f4 Rows.progSameUptoRow.domain false Rows.progSameUptoRow.laid) (((Rows.OpenSpec.upto Rows.progSameSpec).at F).post enc Tryd.prog Tryd.f4 false true false false) := by
  obtain ⟨places, hx⟩ := reads os enc
  refine returnsInHanded_of_row (C := Tryd.checked) (s := Rows.OpenSpec.upto Rows.progSameSpec) own started (by kernel_rfl) Tryd.func4
    (witness_row_at (enc := enc) (C := Tryd.checked) false (laidIn (World.holding Tryd.prog os ⟨#[], #[], []⟩)) #[.agg #[.int .i64 0, .int .u64 0, .int .u64 0, .int .u64 0, .int .u64 0, .slice none 0 0], .string ByteArray.empty] rfl (by kernel_rfl) (by kernel_rfl) (by kernel_rfl)
      (OpenSpec.preRow_of_cond 8 hx (by kernel_rfl) (fun k hk => by cases hk; kernel_rfl) (by kernel_rfl) (laid_met os))) ?_
  intro W base args ds gs before hval hW _ hcond _ hL hsh _
  exact contract H enc W base args ds gs before hsh hval hW (hcond _ rfl) hL

theorem row : Rows.ProgSameUptoSaid :=
  OpenClaim.holds_of_cond 4 Tryd.f4 rfl rfl rfl rfl rfl rfl rfl ⟨rfl, rfl, rfl, rfl, rfl⟩ rfl rfl rfl rfl rfl (by kernel_rfl) Tryd.func4 (by kernel_rfl)
    (of_decide_eq_true (by kernel_rfl)) (by unfold Func.isWrapper; first | (rw [if_pos (by decide +kernel)]; kernel_rfl) | (rw [if_neg (by decide +kernel)]; exact ⟨rfl, rfl⟩))
    (fun os started H enc _ F => by rw [OpenClaim.pre_eq_preRow]; exact lifted os started H enc F)

theorem plain (f : FuncId) (fn : Func) (hf : Tryd.pinned.checked.prog.funcNamed "gatewicket/wickkeep.ProgSame" = some f) (hfn : Tryd.pinned.checked.prog.funcs[f]? = some fn) :
    false = Tryd.pinned.checked.prog.looks [] ∧ ∀ (j : Nat) t, fn.params[j]? = some t → Tryd.pinned.checked.prog.wantsStandIn t = false := by
  obtain rfl : f = 4 := Option.some.inj ((show Tryd.prog.funcNamed "gatewicket/wickkeep.ProgSame" = some 4 by kernel_rfl).symm.trans hf) |>.symm
  obtain rfl : fn = Tryd.f4 := (Option.some.inj (Tryd.func4.symm.trans hfn)).symm
  refine ⟨by kernel_rfl, fun j t ht => ?_⟩
  rw [Tryd.params4] at ht
  have hm : t = 38 ∨ t = 9 := by simpa using Array.mem_of_getElem? ht
  rcases hm with rfl | rfl
  · exact (show Tryd.prog.wantsStandIn 38 = false by kernel_rfl)
  · exact (show Tryd.prog.wantsStandIn 9 = false by kernel_rfl)

theorem over : Rows.ProgSameUptoCardSaid :=
  Claim7.holds_tied_plain_at .later [] _ _ _ _ row (fun _ h => by cases h) (by kernel_rfl) (fun _ h => by cases h) progSameUpto_row_tie rfl ⟨rfl, rfl⟩ (by kernel_rfl) rfl plain (by kernel_rfl)
end Go.Proofs.YtmgealcolofomaaDoor.progSame
namespace Go.Proofs.YtmgealcolofomaaDoor
theorem progSame_holds : Rows.ProgSameUptoCardSaid := progSame.over
#print axioms progSame_holds
end Go.Proofs.YtmgealcolofomaaDoor
