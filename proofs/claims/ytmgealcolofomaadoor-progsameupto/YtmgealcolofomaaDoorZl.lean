/- The program's spans of an expression: matched. -/
import Derived.Test.YtmgealcolofomaaDoorZk
import Derived.Deep.RegionLaw
namespace Go.Proofs.YtmgealcolofomaaDoor
open Go.RowKit Kb
set_option linter.unusedVariables false
set_option maxRecDepth 20000
open Sp

/-- the first of the kids, as it lies in memory -/
theorem kidA' {w0 : World} {ks : List Rx} {x : Rx} {v : Value} (h : Kd w0 ks v) (hx : ks[0]? = some x) : ∃ g off c o1 l1 c1, v = .slice (some ⟨g, off, none⟩) ks.length c ∧ RexV w0 (.agg #[.int .i64 x.k, .int .u64 x.s.a, .int .u64 x.s.b, .int .u64 x.s.c, .int .u64 x.s.d, .slice o1 l1 c1]) x ∧ ∀ W, Below w0.heap.size w0 W →
    W.cell? ⟨g, off, none⟩ = some (.int .i64 x.k) ∧ W.cell? ⟨g, off + 1, none⟩ = some (.int .u64 x.s.a) ∧ W.cell? ⟨g, off + 2, none⟩ = some (.int .u64 x.s.b) ∧ W.cell? ⟨g, off + 3, none⟩ = some (.int .u64 x.s.c) ∧ W.cell? ⟨g, off + 4, none⟩ = some (.int .u64 x.s.d) ∧ W.cell? ⟨g, off + 5, none⟩ = some (.slice o1 l1 c1) ∧ g < W.heap.size ∧ ¬ g = W.heap.size ∧ ¬ g = W.heap.size + 1 := by
  obtain ⟨g, off, c, e, hv, hg, fx, a0, a1, a2, a3, a4, a5, kx⟩ := h.at_ hx
  obtain ⟨o1, c1, rfl, _⟩ := kx.form
  refine ⟨g, off, c, o1, _, c1, hv, ⟨⟨_, rfl, kx⟩, fx⟩, fun W b => ?_⟩
  have hl := Nat.lt_of_lt_of_le hg b.size
  simp only [Nat.zero_mul, Nat.add_zero] at a0 a1 a2 a3 a4 a5
  exact ⟨cell_below a0 hg b, cell_below a1 hg b, cell_below a2 hg b, cell_below a3 hg b, cell_below a4 hg b, cell_below a5 hg b, hl, by omega, by omega⟩
/-- the second one -/
theorem kidB' {w0 : World} {ks : List Rx} {x : Rx} {g off n c : Nat} (h : Kd w0 ks (.slice (some ⟨g, off, none⟩) n c)) (hx : ks[1]? = some x) : ∃ o1 l1 c1, RexV w0 (.agg #[.int .i64 x.k, .int .u64 x.s.a, .int .u64 x.s.b, .int .u64 x.s.c, .int .u64 x.s.d, .slice o1 l1 c1]) x ∧ ∀ W, Below w0.heap.size w0 W →
    W.cell? ⟨g, off + 6, none⟩ = some (.int .i64 x.k) ∧ W.cell? ⟨g, off + 6 + 1, none⟩ = some (.int .u64 x.s.a) ∧ W.cell? ⟨g, off + 6 + 2, none⟩ = some (.int .u64 x.s.b) ∧ W.cell? ⟨g, off + 6 + 3, none⟩ = some (.int .u64 x.s.c) ∧ W.cell? ⟨g, off + 6 + 4, none⟩ = some (.int .u64 x.s.d) ∧ W.cell? ⟨g, off + 6 + 5, none⟩ = some (.slice o1 l1 c1) := by
  obtain ⟨g', off', c', e, hv, hg, fx, a0, a1, a2, a3, a4, a5, kx⟩ := h.at_ hx
  cases hv
  obtain ⟨o1, c1, rfl, _⟩ := kx.form
  refine ⟨o1, _, c1, ⟨⟨_, rfl, kx⟩, fx⟩, fun W b => ?_⟩
  simp only [Nat.one_mul] at a0 a1 a2 a3 a4 a5
  exact ⟨cell_below a0 hg b, cell_below a1 hg b, cell_below a2 hg b, cell_below a3 hg b, cell_below a4 hg b, cell_below a5 hg b⟩
theorem Sp.PR.congr {W : World} {v : Value} {m : Nat} {T T' : Nat → Nat → Bool} (h : PR W v m T) (e : ∀ i j, i < m → j < 320 → T i j = T' i j) : PR W v m T' := by
  obtain ⟨g, c, h1, h2, h3⟩ := h
  exact ⟨g, c, h1, h2, h3.congr e⟩
/-- what matched does -/
def MP (x : Ex) : Prop := ∀ (rv : Value) (s : ByteArray) (w : World), RexV w rv x.rx → x.Full → s.size ≤ 300 → TZ w →
  Calls Tryd.prog 40 #[rv, .string s] w fun e w' => ∃ u, e = .returned u ∧ PR w' u (s.size + 1) (M s.data.toList x) ∧ Below w.heap.size w w'
set_option maxHeartbeats 1000000 in
theorem mp_none : MP .none := by
  intro rv s w hV hF hs hT
  obtain ⟨t, rfl, hkd⟩ := hV.val
  obtain ⟨o, c, rfl, _⟩ := hkd.form
  unfold rexV
  simp only [Ex.rx, Rx.k, Rx.s, Rx.ks, List.length_nil, noSet] at *
  obtain ⟨T, hT2⟩ : ∃ T, M s.data.toList .none = T := ⟨_, rfl⟩
  rw [hT2]
  have HT2 := hide hT2
  clear hT2 hV hkd
  go_enter Tryd.func40, Tryd.ntmps40
  go_wp2_with (go_at_call 68; refine (none_any s _ hs).mono ?_; rintro e w1 ⟨rfl, hS1, hB1⟩; rw [World.size_alloc] at hS1; have HS1 := hide hS1; have HB1 := hide hB1; clear hS1 hB1)
  go_ret
  refine ⟨_, rfl, PR.congr ⟨_, _, rfl, Nat.le_refl _, unhide HS1⟩ (fun i j _ _ => by rw [← unhide HT2]; try rfl), bel_trans ((Below.refl _ w).alloc (Nat.le_refl _) _) (unhide HB1)⟩
set_option maxHeartbeats 1000000 in
theorem mp_emp : MP .emp := by
  intro rv s w hV hF hs hT
  obtain ⟨t, rfl, hkd⟩ := hV.val
  obtain ⟨o, c, rfl, _⟩ := hkd.form
  unfold rexV
  simp only [Ex.rx, Rx.k, Rx.s, Rx.ks, List.length_nil, noSet] at *
  obtain ⟨T, hT2⟩ : ∃ T, M s.data.toList .emp = T := ⟨_, rfl⟩
  rw [hT2]
  have HT2 := hide hT2
  have HE := hide (fun W => empties_any s 0 s.size W hs (Nat.le_refl _) (Nat.zero_le _))
  rw [show ((0 : Nat) : Int) = 0 from rfl] at HE
  clear hT2 hV hkd
  go_enter Tryd.func40, Tryd.ntmps40
  go_wp2_with (go_at_call 63; refine ((unhide HE) _).mono ?_; rintro e w1 ⟨u, rfl, hS1, hB1⟩; have HS1 := hide hS1; have HB1 := hide hB1; clear hS1 hB1)
  go_ret
  refine ⟨_, rfl, PR.congr (unhide HS1) (fun i j _ _ => by rw [← unhide HT2, M, decide_eq_decide]; simp), bel_trans ((Below.refl _ w).alloc (Nat.le_refl _) _) (unhide HB1)⟩
set_option maxHeartbeats 1000000 in
theorem mp_beg : MP .beg := by
  intro rv s w hV hF hs hT
  obtain ⟨t, rfl, hkd⟩ := hV.val
  obtain ⟨o, c, rfl, _⟩ := hkd.form
  unfold rexV
  simp only [Ex.rx, Rx.k, Rx.s, Rx.ks, List.length_nil, noSet] at *
  obtain ⟨T, hT2⟩ : ∃ T, M s.data.toList .beg = T := ⟨_, rfl⟩
  rw [hT2]
  have HT2 := hide hT2
  have HE := hide (fun W => empties_any s 0 0 W hs (Nat.zero_le _) (Nat.zero_le _))
  rw [show ((0 : Nat) : Int) = 0 from rfl] at HE
  clear hT2 hV hkd
  go_enter Tryd.func40, Tryd.ntmps40
  go_wp2_with (go_at_call 63; refine ((unhide HE) _).mono ?_; rintro e w1 ⟨u, rfl, hS1, hB1⟩; have HS1 := hide hS1; have HB1 := hide hB1; clear hS1 hB1)
  go_ret
  refine ⟨_, rfl, PR.congr (unhide HS1) (fun i j _ _ => by rw [← unhide HT2, M, decide_eq_decide]; omega), bel_trans ((Below.refl _ w).alloc (Nat.le_refl _) _) (unhide HB1)⟩
set_option maxHeartbeats 1000000 in
theorem mp_en : MP .en := by
  intro rv s w hV hF hs hT
  obtain ⟨t, rfl, hkd⟩ := hV.val
  obtain ⟨o, c, rfl, _⟩ := hkd.form
  unfold rexV
  simp only [Ex.rx, Rx.k, Rx.s, Rx.ks, List.length_nil, noSet] at *
  obtain ⟨T, hT2⟩ : ∃ T, M s.data.toList .en = T := ⟨_, rfl⟩
  rw [hT2]
  have HT2 := hide hT2
  have HE := hide (fun W => empties_any s s.size s.size W hs (Nat.le_refl _) (Nat.le_refl _))
  clear hT2 hV hkd
  go_enter Tryd.func40, Tryd.ntmps40
  go_wp2_with (go_at_call 63; refine ((unhide HE) _).mono ?_; rintro e w1 ⟨u, rfl, hS1, hB1⟩; have HS1 := hide hS1; have HB1 := hide hB1; clear hS1 hB1)
  go_ret
  refine ⟨_, rfl, PR.congr (unhide HS1) (fun i j _ _ => by rw [← unhide HT2, M, decide_eq_decide]; have : s.data.toList.length = s.size := len_data s; omega), bel_trans ((Below.refl _ w).alloc (Nat.le_refl _) _) (unhide HB1)⟩
set_option maxHeartbeats 1000000 in
theorem mp_byte (t : Se) : MP (.byte t) := by
  intro rv s w hV hF hs hT
  obtain ⟨e, rfl, hkd⟩ := hV.val
  obtain ⟨o, c, rfl, _⟩ := hkd.form
  have HE := hide (fun W => bytesOf_any t s W hs hF.2)
  unfold rexV
  obtain ⟨t1, t2, t3, t4⟩ := t
  unfold setV at HE
  simp only [Ex.rx, Rx.k, Rx.s, Rx.ks, List.length_nil] at *
  clear hV hkd hF
  go_enter Tryd.func40, Tryd.ntmps40
  go_wp2_with (go_at_call 64; refine ((unhide HE) _).mono ?_; rintro e w1 ⟨u, rfl, hS1, hB1⟩; have HS1 := hide hS1; have HB1 := hide hB1; clear hS1 hB1)
  go_ret
  exact ⟨_, rfl, unhide HS1, bel_trans ((Below.refl _ w).alloc (Nat.le_refl _) _) (unhide HB1)⟩
theorem M_okm (s : ByteArray) (x : Ex) (i j : Nat) (h : M s.data.toList x i j = true) : i ≤ j ∧ j ≤ s.size := by
  have := M_ok s.data.toList x i j h
  rwa [len_data] at this
set_option maxHeartbeats 2000000 in
theorem mp_star (a : Ex) (ha : MP a) : MP (.star a) := by
  intro rv s w hV hF hs hT
  obtain ⟨t, rfl, hkd⟩ := hV.val
  obtain ⟨g1, off, c, o1, l1, c1, rfl, hva, hcl⟩ := kidA' hkd (x := a.rx) rfl
  have HA := hide (fun (W : World) (b : Below w.heap.size w W) => ha _ s W (hva.below b) hF hs (hT.below hT.lt b))
  obtain ⟨x0, hx0⟩ : ∃ z, a.rx.k = z := ⟨_, rfl⟩
  obtain ⟨⟨x1, x2, x3, x4⟩, hx1⟩ : ∃ z, a.rx.s = z := ⟨_, rfl⟩
  rw [hx0, hx1] at HA hcl
  dsimp only at HA hcl
  have HT := hide hT
  have HCL := hide hcl
  clear hva hx0 hx1 hT hcl
  unfold rexV
  simp only [Ex.rx, Rx.k, Rx.s, Rx.ks, List.length_cons, List.length_nil, noSet, Nat.zero_add] at *
  obtain ⟨W1, hW1⟩ : ∃ W1, w.alloc (.cells #[.int .i64 6, .int .u64 0, .int .u64 0, .int .u64 0, .int .u64 0, .slice (some ⟨g1, off, none⟩) 1 c] 38) = W1 := ⟨_, rfl⟩
  have hb1 : Below w.heap.size w W1 := by rw [← hW1]; exact (Below.refl _ w).alloc (Nat.le_refl _) _
  have u0 : W1.cell? ⟨w.heap.size, 0, none⟩ = some (.int .i64 6) := by rw [← hW1, World.cell?_alloc_new]; rfl
  have u5 : W1.cell? ⟨w.heap.size, 5, none⟩ = some (.slice (some ⟨g1, off, none⟩) 1 c) := by rw [← hW1, World.cell?_alloc_new]; rfl
  obtain ⟨y0, y1, y2, y3, y4, y5, _⟩ := (unhide HCL) W1 hb1
  have HB1 := hide hb1
  clear hV hkd hb1
  go_enter Tryd.func40, Tryd.ntmps40
  go_wp2_with fail
  clear hW1 u0 u5 y0 y1 y2 y3 y4 y5
  refine ((unhide HA) W1 (unhide HB1)).mono ?_
  rintro e w2 ⟨v2, rfl, p2, b2⟩
  have B2 := hide (bel_trans (unhide HB1) b2)
  have HR := hide (repeated_any v2 s.size (M s.data.toList a) w2 hs p2 (fun i j h => M_okm s a i j h) ((unhide HT).below (unhide HT).lt (bel_trans (unhide HB1) b2)))
  clear p2 b2 HA
  go_wp2_with fail
  refine (unhide HR).mono ?_
  rintro e w3 ⟨v3, rfl, p3, b3⟩
  have P3 := hide p3
  have B3 := hide (bel_trans (unhide B2) b3)
  clear p3 b3 HR
  go_wp2_with fail
  go_ret
  refine ⟨v3, rfl, PR.congr (unhide P3) (fun i j _ _ => ?_), unhide B3⟩
  rw [M_star, len_data]
set_option maxHeartbeats 4000000 in
theorem mp_alt (a b : Ex) (ha : MP a) (hb : MP b) : MP (.alt a b) := by
  intro rv s w hV hF hs hT
  obtain ⟨t, rfl, hkd⟩ := hV.val
  obtain ⟨g1, off, c, o1, l1, c1, rfl, hva, hcl⟩ := kidA' hkd (x := a.rx) rfl
  obtain ⟨o2, l2, c2, hvb, hclb⟩ := kidB' hkd (x := b.rx) rfl
  have HA := hide (fun (W : World) (k : Below w.heap.size w W) => ha _ s W (hva.below k) hF.1 hs (hT.below hT.lt k))
  have HB := hide (fun (W : World) (k : Below w.heap.size w W) => hb _ s W (hvb.below k) hF.2 hs (hT.below hT.lt k))
  obtain ⟨x0, hx0⟩ : ∃ z, a.rx.k = z := ⟨_, rfl⟩
  obtain ⟨⟨x1, x2, x3, x4⟩, hx1⟩ : ∃ z, a.rx.s = z := ⟨_, rfl⟩
  obtain ⟨q0, hq0⟩ : ∃ z, b.rx.k = z := ⟨_, rfl⟩
  obtain ⟨⟨q1, q2, q3, q4⟩, hq1⟩ : ∃ z, b.rx.s = z := ⟨_, rfl⟩
  rw [hx0, hx1] at HA hcl
  rw [hq0, hq1] at HB hclb
  dsimp only at HA HB hcl hclb
  have HT := hide (fun (W : World) (k : Below w.heap.size w W) => hT.below hT.lt k)
  have HCL := hide hcl
  have HCB := hide hclb
  clear hva hvb hx0 hx1 hq0 hq1 hT hcl hclb
  unfold rexV
  simp only [Ex.rx, Rx.k, Rx.s, Rx.ks, List.length_cons, List.length_nil, noSet, Nat.zero_add, Nat.reduceAdd] at *
  obtain ⟨W1, hW1⟩ : ∃ W1, w.alloc (.cells #[.int .i64 5, .int .u64 0, .int .u64 0, .int .u64 0, .int .u64 0, .slice (some ⟨g1, off, none⟩) 2 c] 38) = W1 := ⟨_, rfl⟩
  have hb1 : Below w.heap.size w W1 := by rw [← hW1]; exact (Below.refl _ w).alloc (Nat.le_refl _) _
  have u0 : W1.cell? ⟨w.heap.size, 0, none⟩ = some (.int .i64 5) := by rw [← hW1, World.cell?_alloc_new]; rfl
  have u5 : W1.cell? ⟨w.heap.size, 5, none⟩ = some (.slice (some ⟨g1, off, none⟩) 2 c) := by rw [← hW1, World.cell?_alloc_new]; rfl
  have hl1 : w.heap.size < W1.heap.size := by rw [← hW1]; simp
  have HMC : Hid (∀ W, Below W1.heap.size W1 W → W.cell? ⟨w.heap.size, 5, none⟩ = some (.slice (some ⟨g1, off, none⟩) 2 c) ∧ Below w.heap.size w W) := hide (fun W k => ⟨(k.cell (p := ⟨w.heap.size, 5, none⟩) hl1).trans u5, bel_trans hb1 k⟩)
  obtain ⟨y0, y1, y2, y3, y4, y5, _⟩ := (unhide HCL) W1 hb1
  obtain ⟨z0, z1, z2, z3, z4, z5⟩ := (unhide HCB) W1 hb1
  have HBC : Hid (Below W1.heap.size W1 W1.drew) := hide (Below.refl _ _).drew
  clear hV hkd hb1
  go_enter Tryd.func40, Tryd.ntmps40
  go_wp2_with fail
  clear hW1 u0
  go_region_law (first
    | (go_simp; go_at_call_of 40 x0; refine ((unhide HA) _ ((unhide HMC) _ (unhide HBC)).2).mono ?_; rintro e w2 ⟨va, rfl, pa, ba⟩; have hbc := bel_trans (unhide HBC) ba; obtain ⟨u5, hbw⟩ := (unhide HMC) _ hbc; obtain ⟨y0, y1, y2, y3, y4, y5, _⟩ := (unhide HCL) _ hbw; obtain ⟨z0, z1, z2, z3, z4, z5⟩ := (unhide HCB) _ hbw; (try have HPB := hide ((unhide HPB).below ba)); have HPA := hide pa; have HBC := hide hbc; clear pa ba hbc hbw HA)
    | (go_simp; go_at_call_of 40 q0; refine ((unhide HB) _ ((unhide HMC) _ (unhide HBC)).2).mono ?_; rintro e w3 ⟨vb, rfl, pb, bb⟩; have hbc := bel_trans (unhide HBC) bb; obtain ⟨u5, hbw⟩ := (unhide HMC) _ hbc; obtain ⟨y0, y1, y2, y3, y4, y5, _⟩ := (unhide HCL) _ hbw; obtain ⟨z0, z1, z2, z3, z4, z5⟩ := (unhide HCB) _ hbw; (try have HPA := hide ((unhide HPA).below bb)); have HPB := hide pb; have HBC := hide hbc; clear pb bb hbc hbw HB)
    | (go_simp; go_at_call 66; refine (either_any va vb (s.size + 1) (M s.data.toList a) (M s.data.toList b) _ (by omega) (unhide HPA) (unhide HPB)).mono ?_; rintro e w4 ⟨vc, rfl, pc, bc⟩; have HPC := hide pc; have HBC := hide (bel_trans (unhide HBC) bc); clear pc bc))
  all_goals (
    go_wp2_with fail
    go_ret
    refine ⟨vc, rfl, PR.congr (unhide HPC) (fun i j _ _ => ?_), ((unhide HMC) _ (unhide HBC)).2⟩
    rw [M])
set_option maxHeartbeats 4000000 in
theorem mp_cat (a b : Ex) (ha : MP a) (hb : MP b) : MP (.cat a b) := by
  intro rv s w hV hF hs hT
  obtain ⟨t, rfl, hkd⟩ := hV.val
  obtain ⟨g1, off, c, o1, l1, c1, rfl, hva, hcl⟩ := kidA' hkd (x := a.rx) rfl
  obtain ⟨o2, l2, c2, hvb, hclb⟩ := kidB' hkd (x := b.rx) rfl
  have HA := hide (fun (W : World) (k : Below w.heap.size w W) => ha _ s W (hva.below k) hF.1 hs (hT.below hT.lt k))
  have HB := hide (fun (W : World) (k : Below w.heap.size w W) => hb _ s W (hvb.below k) hF.2 hs (hT.below hT.lt k))
  obtain ⟨x0, hx0⟩ : ∃ z, a.rx.k = z := ⟨_, rfl⟩
  obtain ⟨⟨x1, x2, x3, x4⟩, hx1⟩ : ∃ z, a.rx.s = z := ⟨_, rfl⟩
  obtain ⟨q0, hq0⟩ : ∃ z, b.rx.k = z := ⟨_, rfl⟩
  obtain ⟨⟨q1, q2, q3, q4⟩, hq1⟩ : ∃ z, b.rx.s = z := ⟨_, rfl⟩
  rw [hx0, hx1] at HA hcl
  rw [hq0, hq1] at HB hclb
  dsimp only at HA HB hcl hclb
  have HT := hide (fun (W : World) (k : Below w.heap.size w W) => hT.below hT.lt k)
  have HCL := hide hcl
  have HCB := hide hclb
  clear hva hvb hx0 hx1 hq0 hq1 hT hcl hclb
  unfold rexV
  simp only [Ex.rx, Rx.k, Rx.s, Rx.ks, List.length_cons, List.length_nil, noSet, Nat.zero_add, Nat.reduceAdd] at *
  obtain ⟨W1, hW1⟩ : ∃ W1, w.alloc (.cells #[.int .i64 4, .int .u64 0, .int .u64 0, .int .u64 0, .int .u64 0, .slice (some ⟨g1, off, none⟩) 2 c] 38) = W1 := ⟨_, rfl⟩
  have hb1 : Below w.heap.size w W1 := by rw [← hW1]; exact (Below.refl _ w).alloc (Nat.le_refl _) _
  have u0 : W1.cell? ⟨w.heap.size, 0, none⟩ = some (.int .i64 4) := by rw [← hW1, World.cell?_alloc_new]; rfl
  have u5 : W1.cell? ⟨w.heap.size, 5, none⟩ = some (.slice (some ⟨g1, off, none⟩) 2 c) := by rw [← hW1, World.cell?_alloc_new]; rfl
  have hl1 : w.heap.size < W1.heap.size := by rw [← hW1]; simp
  have HMC : Hid (∀ W, Below W1.heap.size W1 W → W.cell? ⟨w.heap.size, 5, none⟩ = some (.slice (some ⟨g1, off, none⟩) 2 c) ∧ Below w.heap.size w W) := hide (fun W k => ⟨(k.cell (p := ⟨w.heap.size, 5, none⟩) hl1).trans u5, bel_trans hb1 k⟩)
  obtain ⟨y0, y1, y2, y3, y4, y5, _⟩ := (unhide HCL) W1 hb1
  obtain ⟨z0, z1, z2, z3, z4, z5⟩ := (unhide HCB) W1 hb1
  have HBC : Hid (Below W1.heap.size W1 W1.drew) := hide (Below.refl _ _).drew
  clear hV hkd hb1
  go_enter Tryd.func40, Tryd.ntmps40
  go_wp2_with fail
  clear hW1 u0
  go_region_law (first
    | (go_simp; go_at_call_of 40 x0; refine ((unhide HA) _ ((unhide HMC) _ (unhide HBC)).2).mono ?_; rintro e w2 ⟨va, rfl, pa, ba⟩; have hbc := bel_trans (unhide HBC) ba; obtain ⟨u5, hbw⟩ := (unhide HMC) _ hbc; obtain ⟨y0, y1, y2, y3, y4, y5, _⟩ := (unhide HCL) _ hbw; obtain ⟨z0, z1, z2, z3, z4, z5⟩ := (unhide HCB) _ hbw; (try have HPB := hide ((unhide HPB).below ba)); have HPA := hide pa; have HBC := hide hbc; clear pa ba hbc hbw HA)
    | (go_simp; go_at_call_of 40 q0; refine ((unhide HB) _ ((unhide HMC) _ (unhide HBC)).2).mono ?_; rintro e w3 ⟨vb, rfl, pb, bb⟩; have hbc := bel_trans (unhide HBC) bb; obtain ⟨u5, hbw⟩ := (unhide HMC) _ hbc; obtain ⟨y0, y1, y2, y3, y4, y5, _⟩ := (unhide HCL) _ hbw; obtain ⟨z0, z1, z2, z3, z4, z5⟩ := (unhide HCB) _ hbw; (try have HPA := hide ((unhide HPA).below bb)); have HPB := hide pb; have HBC := hide hbc; clear pb bb hbc hbw HB)
    | (go_simp; go_at_call 65; refine (behind_any va vb (s.size + 1) (M s.data.toList a) (M s.data.toList b) _ (by omega) (unhide HPA) (unhide HPB) (fun i j h => by have := M_okm s a i j h; omega) ((unhide HT) _ ((unhide HMC) _ (unhide HBC)).2)).mono ?_; rintro e w4 ⟨vc, rfl, pc, bc⟩; have HPC := hide pc; have HBC := hide (bel_trans (unhide HBC) bc); clear pc bc))
  all_goals (
    go_wp2_with fail
    go_ret
    refine ⟨vc, rfl, PR.congr (unhide HPC) (fun i j _ _ => ?_), ((unhide HMC) _ (unhide HBC)).2⟩
    rw [M, len_data])
theorem mp_any (x : Ex) : MP x := by
  induction x with
  | none => exact mp_none
  | emp => exact mp_emp
  | byte s => exact mp_byte s
  | cat a b ha hb => exact mp_cat a b ha hb
  | alt a b ha hb => exact mp_alt a b ha hb
  | star a ha => exact mp_star a ha
  | beg => exact mp_beg
  | en => exact mp_en
end Go.Proofs.YtmgealcolofomaaDoor
