/- The program's code of an expression; Make. -/
import Derived.Test.YtmgealcolofomaaDoorOc
import Derived.Test.YtmgealcolofomaaDoorJe
namespace Go.Proofs.YtmgealcolofomaaDoor
open Go.RowKit Kb
set_option linter.unusedVariables false
set_option maxRecDepth 20000

/-- the first of the kids, as it lies in memory -/
theorem kidA {w0 : World} {ks : List Rx} {x : Rx} {v : Value} (h : Kd w0 ks v) (hx : ks[0]? = some x) : ∃ g off c o1 l1 c1, v = .slice (some ⟨g, off, none⟩) ks.length c ∧ RexV w0 (.agg #[.int .i64 x.k, .int .u64 x.s.a, .int .u64 x.s.b, .int .u64 x.s.c, .int .u64 x.s.d, .slice o1 l1 c1]) x ∧ ∀ W, Below w0.heap.size w0 W →
    W.cell? ⟨g, off, none⟩ = some (.int .i64 x.k) ∧ W.cell? ⟨g, off + 1, none⟩ = some (.int .u64 x.s.a) ∧ W.cell? ⟨g, off + 2, none⟩ = some (.int .u64 x.s.b) ∧ W.cell? ⟨g, off + 3, none⟩ = some (.int .u64 x.s.c) ∧ W.cell? ⟨g, off + 4, none⟩ = some (.int .u64 x.s.d) ∧ W.cell? ⟨g, off + 5, none⟩ = some (.slice o1 l1 c1) ∧ g < W.heap.size ∧ ¬ g = W.heap.size ∧ ¬ g = W.heap.size + 1 := by
  obtain ⟨g, off, c, e, hv, hg, fx, a0, a1, a2, a3, a4, a5, kx⟩ := h.at_ hx
  obtain ⟨o1, c1, rfl, _⟩ := kx.form
  refine ⟨g, off, c, o1, _, c1, hv, ⟨⟨_, rfl, kx⟩, fx⟩, fun W b => ?_⟩
  have hl := Nat.lt_of_lt_of_le hg b.size
  simp only [Nat.zero_mul, Nat.add_zero] at a0 a1 a2 a3 a4 a5
  exact ⟨cell_below a0 hg b, cell_below a1 hg b, cell_below a2 hg b, cell_below a3 hg b, cell_below a4 hg b, cell_below a5 hg b, hl, by omega, by omega⟩
/-- the second one -/
theorem kidB {w0 : World} {ks : List Rx} {x : Rx} {g off n c : Nat} (h : Kd w0 ks (.slice (some ⟨g, off, none⟩) n c)) (hx : ks[1]? = some x) : ∃ o1 l1 c1, RexV w0 (.agg #[.int .i64 x.k, .int .u64 x.s.a, .int .u64 x.s.b, .int .u64 x.s.c, .int .u64 x.s.d, .slice o1 l1 c1]) x ∧ ∀ W, Below w0.heap.size w0 W →
    W.cell? ⟨g, off + 6, none⟩ = some (.int .i64 x.k) ∧ W.cell? ⟨g, off + 6 + 1, none⟩ = some (.int .u64 x.s.a) ∧ W.cell? ⟨g, off + 6 + 2, none⟩ = some (.int .u64 x.s.b) ∧ W.cell? ⟨g, off + 6 + 3, none⟩ = some (.int .u64 x.s.c) ∧ W.cell? ⟨g, off + 6 + 4, none⟩ = some (.int .u64 x.s.d) ∧ W.cell? ⟨g, off + 6 + 5, none⟩ = some (.slice o1 l1 c1) := by
  obtain ⟨g', off', c', e, hv, hg, fx, a0, a1, a2, a3, a4, a5, kx⟩ := h.at_ hx
  cases hv
  obtain ⟨o1, c1, rfl, _⟩ := kx.form
  refine ⟨o1, _, c1, ⟨⟨_, rfl, kx⟩, fx⟩, fun W b => ?_⟩
  simp only [Nat.one_mul] at a0 a1 a2 a3 a4 a5
  exact ⟨cell_below a0 hg b, cell_below a1 hg b, cell_below a2 hg b, cell_below a3 hg b, cell_below a4 hg b, cell_below a5 hg b⟩
theorem RowJ.lay2 {B : Nat} {w0 w : World} {v0 v : Value} {L : List (Nat × Obj)} {xs : List In} (h : RowJ B w0 v0 L xs w v) (o o' : Obj) : RowJ B w0 v0 ((w.heap.size + 1, o') :: (w.heap.size, o) :: L) xs ((w.alloc o).alloc o') v := by
  have := (h.lay o).lay o'
  rwa [show (w.alloc o).heap.size = w.heap.size + 1 by simp] at this
set_option maxHeartbeats 1000000 in
theorem cp_none : CP (.none) := by
  intro w0 rv v xs W hV hB hown hn
  obtain ⟨t, rfl, hkd⟩ := hV.val
  obtain ⟨o, c, rfl, _⟩ := hkd.form
  unfold rexV
  simp only [Ex.nodes] at hn
  simp only [Ex.rx, cdx, Rx.k, Rx.s, Rx.ks, List.length_nil, noSet] at *
  have R := hide ((RowJ.start hown hB.size).lay2 (.cells #[.int .i64 1, .int .u64 0, .int .u64 0, .int .u64 0, .int .u64 0, .slice o 0 c] 38) (.cells #[.int .i64 1, .int .i64 0, .int .i64 0, .int .u64 0, .int .u64 0, .int .u64 0, .int .u64 0] 79))
  have HN := hide (news_lay (unhide R) ⟨1, 0, 0, ⟨0, 0, 0, 0⟩⟩ List.mem_cons_self)
  clear hown hV hkd
  go_enter Tryd.func37, Tryd.ntmps37
  go_wp2_with (at_builtin; go_loud (
               refine app_in rfl _ _ rfl rfl (unhide R) [⟨1, 0, 0, ⟨0, 0, 0, 0⟩⟩] _ _ rfl (unhide HN) (by simp; omega) ?_; intro v1 w1 R1))
  go_ret
  exact ⟨v1, rfl, R1.own, R1.gw⟩
set_option maxHeartbeats 1000000 in
theorem cp_byte (s : Se) : CP (.byte s) := by
  intro w0 rv v xs W hV hB hown hn
  obtain ⟨t, rfl, hkd⟩ := hV.val
  obtain ⟨o, c, rfl, _⟩ := hkd.form
  unfold rexV
  simp only [Ex.nodes] at hn
  obtain ⟨s1, s2, s3, s4⟩ := s
  simp only [Ex.rx, cdx, Rx.k, Rx.s, Rx.ks, List.length_nil] at *
  have R := hide ((RowJ.start hown hB.size).lay2 (.cells #[.int .i64 3, .int .u64 s1, .int .u64 s2, .int .u64 s3, .int .u64 s4, .slice o 0 c] 38) (.cells #[.int .i64 1, .int .i64 0, .int .i64 0, .int .u64 s1, .int .u64 s2, .int .u64 s3, .int .u64 s4] 79))
  have HN := hide (news_lay (unhide R) ⟨1, 0, 0, ⟨s1, s2, s3, s4⟩⟩ List.mem_cons_self)
  clear hown hV hkd
  go_enter Tryd.func37, Tryd.ntmps37
  go_wp2_with (at_builtin; go_loud (
               refine app_in rfl _ _ rfl rfl (unhide R) [⟨1, 0, 0, ⟨s1, s2, s3, s4⟩⟩] _ _ rfl (unhide HN) (by simp; omega) ?_; intro v1 w1 R1))
  go_ret
  exact ⟨v1, rfl, R1.own, R1.gw⟩
set_option maxHeartbeats 1000000 in
theorem cp_beg : CP (.beg) := by
  intro w0 rv v xs W hV hB hown hn
  obtain ⟨t, rfl, hkd⟩ := hV.val
  obtain ⟨o, c, rfl, _⟩ := hkd.form
  unfold rexV
  simp only [Ex.nodes] at hn
  simp only [Ex.rx, cdx, Rx.k, Rx.s, Rx.ks, List.length_nil, noSet] at *
  have R := hide ((RowJ.start hown hB.size).lay2 (.cells #[.int .i64 7, .int .u64 0, .int .u64 0, .int .u64 0, .int .u64 0, .slice o 0 c] 38) (.cells #[.int .i64 4, .int .i64 0, .int .i64 0, .int .u64 0, .int .u64 0, .int .u64 0, .int .u64 0] 79))
  have HN := hide (news_lay (unhide R) ⟨4, 0, 0, ⟨0, 0, 0, 0⟩⟩ List.mem_cons_self)
  clear hown hV hkd
  go_enter Tryd.func37, Tryd.ntmps37
  go_wp2_with (at_builtin; go_loud (
               refine app_in rfl _ _ rfl rfl (unhide R) [⟨4, 0, 0, ⟨0, 0, 0, 0⟩⟩] _ _ rfl (unhide HN) (by simp; omega) ?_; intro v1 w1 R1))
  go_ret
  exact ⟨v1, rfl, R1.own, R1.gw⟩
set_option maxHeartbeats 1000000 in
theorem cp_en : CP (.en) := by
  intro w0 rv v xs W hV hB hown hn
  obtain ⟨t, rfl, hkd⟩ := hV.val
  obtain ⟨o, c, rfl, _⟩ := hkd.form
  unfold rexV
  simp only [Ex.nodes] at hn
  simp only [Ex.rx, cdx, Rx.k, Rx.s, Rx.ks, List.length_nil, noSet] at *
  have R := hide ((RowJ.start hown hB.size).lay2 (.cells #[.int .i64 8, .int .u64 0, .int .u64 0, .int .u64 0, .int .u64 0, .slice o 0 c] 38) (.cells #[.int .i64 5, .int .i64 0, .int .i64 0, .int .u64 0, .int .u64 0, .int .u64 0, .int .u64 0] 79))
  have HN := hide (news_lay (unhide R) ⟨5, 0, 0, ⟨0, 0, 0, 0⟩⟩ List.mem_cons_self)
  clear hown hV hkd
  go_enter Tryd.func37, Tryd.ntmps37
  go_wp2_with (at_builtin; go_loud (
               refine app_in rfl _ _ rfl rfl (unhide R) [⟨5, 0, 0, ⟨0, 0, 0, 0⟩⟩] _ _ rfl (unhide HN) (by simp; omega) ?_; intro v1 w1 R1))
  go_ret
  exact ⟨v1, rfl, R1.own, R1.gw⟩
set_option maxHeartbeats 1000000 in
theorem cp_emp : CP .emp := by
  intro w0 rv v xs W hV hB hown hn
  obtain ⟨t, rfl, hkd⟩ := hV.val
  obtain ⟨o, c, rfl, _⟩ := hkd.form
  unfold rexV
  simp only [Ex.rx, Rx.k, Rx.s, Rx.ks, List.length_nil, noSet] at *
  have R := hide ((RowJ.start hown hB.size).alloc (.cells #[.int .i64 2, .int .u64 0, .int .u64 0, .int .u64 0, .int .u64 0, .slice o 0 c] 38))
  clear hown hV hkd
  go_enter Tryd.func37, Tryd.ntmps37
  go_wp2_with fail
  go_ret
  exact ⟨v, rfl, by simpa [cdx] using (unhide R).own, (unhide R).gw⟩
set_option maxHeartbeats 4000000 in
theorem cp_star (a : Ex) (ha : CP a) : CP (.star a) := by
  intro w0 rv v xs W hV hB hown hn
  obtain ⟨t, rfl, hkd⟩ := hV.val
  obtain ⟨g1, off, c, o1, l1, c1, rfl, hva, hcl⟩ := kidA hkd (x := a.rx) rfl
  have HA := hide (fun v xs W b o l => again_any a ha w0 _ v xs W hva b o l)
  obtain ⟨x0, hx0⟩ : ∃ z, a.rx.k = z := ⟨_, rfl⟩
  obtain ⟨⟨x1, x2, x3, x4⟩, hx1⟩ : ∃ z, a.rx.s = z := ⟨_, rfl⟩
  rw [hx0, hx1] at HA hcl
  dsimp only at HA hcl
  simp only [Ex.nodes] at hn
  clear hva hx0 hx1
  unfold rexV
  simp only [Ex.rx, Rx.k, Rx.s, Rx.ks, List.length_cons, List.length_nil, noSet, Nat.zero_add] at *
  obtain ⟨P, hP⟩ : ∃ P, Obj.cells #[.int .i64 6, .int .u64 0, .int .u64 0, .int .u64 0, .int .u64 0, .slice (some ⟨g1, off, none⟩) 1 c] 38 = P := ⟨_, rfl⟩
  have R := hide ((RowJ.start hown hB.size).alloc P)
  have HB1 := hide (hB.alloc hB.size P)
  obtain ⟨y0, y1, y2, y3, y4, y5, y6, y7, y8⟩ := hcl W hB
  rw [← hP] at R HB1
  clear hown hV hkd hcl hP P
  go_enter Tryd.func37, Tryd.ntmps37
  go_wp2_with fail
  refine ((unhide HA) v xs _ (unhide HB1) (unhide R).own (by omega)).mono ?_
  rintro e w2 ⟨v2, rfl, o2, k2⟩
  have R2 := hide ((unhide R).call o2 k2)
  clear o2 k2
  go_wp2_with fail
  go_ret
  exact ⟨v2, rfl, (unhide R2).own, (unhide R2).gw⟩
set_option maxHeartbeats 8000000 in
theorem cp_alt (a b : Ex) (ha : CP a) (hb : CP b) : CP (.alt a b) := by
  intro w0 rv v xs W hV hB hown hn
  obtain ⟨t, rfl, hkd⟩ := hV.val
  obtain ⟨g1, off, c, o1, l1, c1, rfl, hva, hcl⟩ := kidA hkd (x := a.rx) rfl
  obtain ⟨o2, l2, c2, hvb, hclb⟩ := kidB hkd (x := b.rx) rfl
  have HA := hide (fun v xs W bb o l => pei_any a b ha hb w0 _ _ v xs W hva hvb bb o l)
  obtain ⟨x0, hx0⟩ : ∃ z, a.rx.k = z := ⟨_, rfl⟩
  obtain ⟨⟨x1, x2, x3, x4⟩, hx1⟩ : ∃ z, a.rx.s = z := ⟨_, rfl⟩
  obtain ⟨q0, hq0⟩ : ∃ z, b.rx.k = z := ⟨_, rfl⟩
  obtain ⟨⟨q1, q2, q3, q4⟩, hq1⟩ : ∃ z, b.rx.s = z := ⟨_, rfl⟩
  rw [hx0, hx1, hq0, hq1] at HA
  rw [hx0, hx1] at hcl
  rw [hq0, hq1] at hclb
  dsimp only at HA hcl hclb
  simp only [Ex.nodes] at hn
  clear hva hvb hx0 hx1 hq0 hq1
  unfold rexV
  simp only [Ex.rx, Rx.k, Rx.s, Rx.ks, List.length_cons, List.length_nil, noSet, Nat.zero_add, Nat.reduceAdd] at *
  obtain ⟨P, hP⟩ : ∃ P, Obj.cells #[.int .i64 5, .int .u64 0, .int .u64 0, .int .u64 0, .int .u64 0, .slice (some ⟨g1, off, none⟩) 2 c] 38 = P := ⟨_, rfl⟩
  have R := hide (((RowJ.start hown hB.size).alloc P).drew)
  have HB1 := hide ((hB.alloc hB.size P).drew)
  obtain ⟨y0, y1, y2, y3, y4, y5, y6, y7, y8⟩ := hcl W hB
  obtain ⟨z0, z1, z2, z3, z4, z5⟩ := hclb W hB
  have z1' : W.cell? ⟨g1, off + 7, none⟩ = some (.int .u64 q1) := z1
  have z2' : W.cell? ⟨g1, off + 8, none⟩ = some (.int .u64 q2) := z2
  have z3' : W.cell? ⟨g1, off + 9, none⟩ = some (.int .u64 q3) := z3
  have z4' : W.cell? ⟨g1, off + 10, none⟩ = some (.int .u64 q4) := z4
  have z5' : W.cell? ⟨g1, off + 11, none⟩ = some (.slice o2 l2 c2) := z5
  rw [← hP] at R HB1
  clear hown hV hkd hcl hclb hP P
  go_enter Tryd.func37, Tryd.ntmps37
  go_wp2_with fail
  go_region_law (go_simp; go_at_call 61; refine ((unhide HA) v xs _ (unhide HB1) (unhide R).own (by omega)).mono ?_; rintro e w2 ⟨v2, rfl, o', k'⟩; have R2 := hide ((unhide R).call o' k'); clear o' k')
  all_goals (
    go_wp2_with fail
    go_ret
    exact ⟨v2, rfl, (unhide R2).own, (unhide R2).gw⟩)
set_option maxHeartbeats 8000000 in
theorem cp_cat (a b : Ex) (ha : CP a) (hb : CP b) : CP (.cat a b) := by
  intro w0 rv v xs W hV hB hown hn
  obtain ⟨t, rfl, hkd⟩ := hV.val
  obtain ⟨g1, off, c, o1, l1, c1, rfl, hva, hcl⟩ := kidA hkd (x := a.rx) rfl
  obtain ⟨o2, l2, c2, hvb, hclb⟩ := kidB hkd (x := b.rx) rfl
  have HA := hide (fun v xs W bb o l => ha w0 _ v xs W hva bb o l)
  have HB := hide (fun v xs W bb o l => hb w0 _ v xs W hvb bb o l)
  have hlen := cdx_len a xs.length
  obtain ⟨x0, hx0⟩ : ∃ z, a.rx.k = z := ⟨_, rfl⟩
  obtain ⟨⟨x1, x2, x3, x4⟩, hx1⟩ : ∃ z, a.rx.s = z := ⟨_, rfl⟩
  obtain ⟨q0, hq0⟩ : ∃ z, b.rx.k = z := ⟨_, rfl⟩
  obtain ⟨⟨q1, q2, q3, q4⟩, hq1⟩ : ∃ z, b.rx.s = z := ⟨_, rfl⟩
  rw [hx0, hx1] at HA hcl
  rw [hq0, hq1] at HB hclb
  dsimp only at HA HB hcl hclb
  simp only [Ex.nodes] at hn
  clear hva hvb hx0 hx1 hq0 hq1
  unfold rexV
  simp only [Ex.rx, Rx.k, Rx.s, Rx.ks, List.length_cons, List.length_nil, noSet, Nat.zero_add, Nat.reduceAdd] at *
  obtain ⟨P, hP⟩ : ∃ P, Obj.cells #[.int .i64 4, .int .u64 0, .int .u64 0, .int .u64 0, .int .u64 0, .slice (some ⟨g1, off, none⟩) 2 c] 38 = P := ⟨_, rfl⟩
  have R0 := hide ((RowJ.start hown hB.size).lay P)
  obtain ⟨g, hg⟩ : ∃ g, W.heap.size = g := ⟨_, rfl⟩
  obtain ⟨W1, hW1⟩ : ∃ W1, W.alloc P = W1 := ⟨_, rfl⟩
  rw [hW1, hg] at R0
  have HMC : Hid (∀ (L : List (Nat × Obj)) (xs : List In) (W' : World) (y : Value), RowJ w0.heap.size W v L xs W' y → (g, P) ∈ L → (W'.cell? ⟨g, 0, none⟩ = some (.int .i64 4) ∧ W'.cell? ⟨g, 5, none⟩ = some (.slice (some ⟨g1, off, none⟩) 2 c) ∧ g < W'.heap.size ∧ Below w0.heap.size w0 W') ∧ (W'.cell? ⟨g1, off, none⟩ = some (.int .i64 x0) ∧ W'.cell? ⟨g1, off + 1, none⟩ = some (.int .u64 x1) ∧ W'.cell? ⟨g1, off + 2, none⟩ = some (.int .u64 x2) ∧ W'.cell? ⟨g1, off + 3, none⟩ = some (.int .u64 x3) ∧ W'.cell? ⟨g1, off + 4, none⟩ = some (.int .u64 x4) ∧ W'.cell? ⟨g1, off + 5, none⟩ = some (.slice o1 l1 c1)) ∧ (W'.cell? ⟨g1, off + 6, none⟩ = some (.int .i64 q0) ∧ W'.cell? ⟨g1, off + 7, none⟩ = some (.int .u64 q1) ∧ W'.cell? ⟨g1, off + 8, none⟩ = some (.int .u64 q2) ∧ W'.cell? ⟨g1, off + 9, none⟩ = some (.int .u64 q3) ∧ W'.cell? ⟨g1, off + 10, none⟩ = some (.int .u64 q4) ∧ W'.cell? ⟨g1, off + 11, none⟩ = some (.slice o2 l2 c2)) ∧ (W'.cell? ⟨g1, off + 6 + 1, none⟩ = some (.int .u64 q1) ∧ W'.cell? ⟨g1, off + 6 + 2, none⟩ = some (.int .u64 q2) ∧ W'.cell? ⟨g1, off + 6 + 3, none⟩ = some (.int .u64 q3) ∧ W'.cell? ⟨g1, off + 6 + 4, none⟩ = some (.int .u64 q4) ∧ W'.cell? ⟨g1, off + 6 + 5, none⟩ = some (.slice o2 l2 c2))) := hide (fun L xs W' y R hm => by
    have hl := ltSome (R.box _ hm).1
    have hb := hB.trans R.gw.1
    rw [← hP] at hm
    obtain ⟨y0, y1, y2, y3, y4, y5, _, _, _⟩ := hcl W' hb
    obtain ⟨z0, z1, z2, z3, z4, z5⟩ := hclb W' hb
    exact ⟨⟨R.cell hm 0, R.cell hm 5, hl, hb⟩, ⟨y0, y1, y2, y3, y4, y5⟩, ⟨z0, z1, z2, z3, z4, z5⟩, ⟨z1, z2, z3, z4, z5⟩⟩)
  obtain ⟨⟨u0, u1, u2, bel⟩, ⟨y0, y1, y2, y3, y4, y5⟩, ⟨z0, z1, z2, z3, z4, z5⟩, ⟨q1', q2', q3', q4', q5'⟩⟩ := (unhide HMC) _ _ _ _ (unhide R0) List.mem_cons_self
  rw [← hP] at hW1
  have HP := hide hP
  clear hown hV hkd hcl hclb hP bel
  go_enter Tryd.func37, Tryd.ntmps37
  go_wp2_with fail
  clear hW1 hg
  have Rc := hide (unhide R0).drew
  obtain ⟨⟨_, _, _, bel⟩, _, _, _⟩ := (unhide HMC) _ _ _ _ (unhide Rc) List.mem_cons_self
  have HB1 := hide bel
  clear bel R0
  go_region_law (first | (go_simp; go_at_call 37; refine ((unhide HA) _ _ _ (unhide HB1) (unhide Rc).own (by omega)).mono ?_; rintro e w2 ⟨v', rfl, o', k'⟩; have R' := (unhide Rc).call o' k'; clear o' k' HA; obtain ⟨⟨u0, u1, u2, bel⟩, ⟨y0, y1, y2, y3, y4, y5⟩, ⟨z0, z1, z2, z3, z4, z5⟩, ⟨q1', q2', q3', q4', q5'⟩⟩ := (unhide HMC) _ _ _ _ R' List.mem_cons_self; have HB1 := hide bel; clear bel; have Rc := hide R'; clear R') | (go_simp; go_at_call 37; refine ((unhide HB) _ _ _ (unhide HB1) (unhide Rc).own (by simp; omega)).mono ?_; rintro e w3 ⟨v', rfl, o', k'⟩; have R' := (unhide Rc).call o' k'; clear o' k'; have Rc := hide R'; clear R'))
  all_goals (
    go_wp2_with fail
    go_ret
    refine ⟨v', rfl, ?_, (unhide Rc).gw⟩
    have := (unhide Rc).own
    rw [List.length_append, List.append_assoc] at this
    exact this)
theorem cp_any (x : Ex) : CP x := by
  induction x with
  | none => exact cp_none
  | emp => exact cp_emp
  | byte s => exact cp_byte s
  | cat a b ha hb => exact cp_cat a b ha hb
  | alt a b ha hb => exact cp_alt a b ha hb
  | star a ha => exact cp_star a ha
  | beg => exact cp_beg
  | en => exact cp_en
/-- what Make answers -/
def MakeP (w w' : World) (r : Rx) (v : Value) : Prop := (chkR r ≠ 0 → v = .slice none 0 0) ∧ (∀ x : Ex, r = x.rx → chkR r = 0 → OwnJ w.heap.size (cdx x 0 ++ [⟨6, 0, 0, ⟨0, 0, 0, 0⟩⟩]) w' v)
set_option maxHeartbeats 1000000 in
theorem Make_any (r : Rx) (v : Value) (w : World) (hV : RexV w v r) :
    Calls Tryd.prog 11 #[v] w fun e w' => ∃ q, e = .returned (.tuple #[q, .int .i64 (chkR r)]) ∧ MakeP w w' r q ∧ Below w.heap.size w w' := by
  have HC := hide (fun W b => Check_any r v W (hV.below b))
  have HA : Hid (chkR r = 0 → ∃ x : Ex, r = x.rx ∧ x.nodes ≤ 80 ∧ ∀ W, Below w.heap.size w W → Calls Tryd.prog 37 #[.slice none 0 0, v] W fun e w' => ∃ v', e = .returned v' ∧ OwnJ w.heap.size (cdx x 0) w' v' ∧ Below w.heap.size w w') := hide (fun h => by
    obtain ⟨x, h1, h2, _, _⟩ := chk_ex h hV
    refine ⟨x, h1, h2, fun W b => ?_⟩
    subst h1
    refine (cp_any x w v (.slice none 0 0) [] W hV b (World.ownsRow_nil W _ _ _) (by simp; omega)).mono ?_
    rintro e w' ⟨v', rfl, o, k⟩
    exact ⟨v', rfl, by simpa using o, b.trans k.1⟩)
  unfold MakeP
  obtain ⟨t, ht, hk⟩ := hV.val
  obtain ⟨o, c, rfl, _⟩ := hk.form
  obtain ⟨ck, hck⟩ : ∃ ck, chkR r = ck := ⟨_, rfl⟩
  rw [hck] at HC HA ⊢
  clear hck
  obtain ⟨k, ⟨s1, s2, s3, s4⟩, ks⟩ := r
  subst ht
  unfold rexV at *
  simp only [Rx.k, Rx.s, Rx.ks] at *
  have hb0 : Hid (Below w.heap.size w (w.alloc (.cells #[.int .i64 k, .int .u64 s1, .int .u64 s2, .int .u64 s3, .int .u64 s4, .slice o ks.length c] 38))) := hide ((Below.refl _ _).alloc (Nat.le_refl _) _)
  obtain ⟨W0, hW0⟩ : ∃ W0, w.alloc (.cells #[.int .i64 k, .int .u64 s1, .int .u64 s2, .int .u64 s3, .int .u64 s4, .slice o ks.length c] 38) = W0 := ⟨_, rfl⟩
  rw [hW0] at hb0
  have HZ : Hid (∀ j x, (#[.int .i64 k, .int .u64 s1, .int .u64 s2, .int .u64 s3, .int .u64 s4, .slice o ks.length c] : Array Value)[j]? = some x → W0.cell? ⟨w.heap.size, j, none⟩ = some x) := hide (fun j x h => by rw [← hW0, World.cell?_alloc_new]; exact h)
  have hsz : w.heap.size < W0.heap.size := by rw [← hW0]; simp
  have z0 := (unhide HZ) 0 _ rfl
  have z1 := (unhide HZ) 1 _ rfl
  have z2 := (unhide HZ) 2 _ rfl
  have z3 := (unhide HZ) 3 _ rfl
  have z4 := (unhide HZ) 4 _ rfl
  have z5 := (unhide HZ) 5 _ rfl
  clear hV hk
  go_enter Tryd.func11, Tryd.ntmps11
  go_wp2_with fail
  clear hW0
  refine ((unhide HC) W0 (unhide hb0)).mono ?_
  rintro e w2 ⟨rfl, b2⟩
  have B2 := hide (bel_trans (unhide hb0) b2)
  have y0 := cell_below z0 hsz b2
  have y1 := cell_below z1 hsz b2
  have y2 := cell_below z2 hsz b2
  have y3 := cell_below z3 hsz b2
  have y4 := cell_below z4 hsz b2
  have y5 := cell_below z5 hsz b2
  clear b2 z0 z1 z2 z3 z4 z5 HZ HC
  by_cases h0 : ck = 0
  · obtain ⟨x, hx, hn80, hcall⟩ := (unhide HA) h0
    have HX := hide hx
    have HCA := hide (hcall w2 (unhide B2))
    have hlen := cdx_len x 0
    clear hx hcall HA
    subst h0
    go_wp2_with fail
    refine (unhide HCA).mono ?_
    rintro e w3 ⟨v3, rfl, o3, b3⟩
    have R3 := hide (RowJ.start o3 b3.size)
    have B3 := hide b3
    clear o3 b3 HCA
    have HN := hide (news_lay ((unhide R3).lay (.cells #[.int .i64 6, .int .i64 0, .int .i64 0, .int .u64 0, .int .u64 0, .int .u64 0, .int .u64 0] 79)) ⟨6, 0, 0, ⟨0, 0, 0, 0⟩⟩ List.mem_cons_self)
    go_wp2_with (at_builtin; go_loud (
                 refine app_in rfl _ _ rfl rfl ((unhide R3).lay _) [⟨6, 0, 0, ⟨0, 0, 0, 0⟩⟩] _ _ rfl (unhide HN) (by simp; omega) ?_; intro v4 w4 R4))
    go_ret2
    exact ⟨v4, rfl, fun y hy => by rw [← rx_inj x y ((unhide HX).symm.trans hy)]; exact R4.own, (unhide B3).trans R4.gw.1⟩
  · have hb : (ck != 0) = true := by simpa using h0
    have H0 := hide h0
    clear h0 HA
    go_wp2_with fail
    go_ret2
    exact ⟨_, rfl, ⟨fun _ => rfl, fun y _ h => absurd h (unhide H0)⟩, unhide B2⟩
end Go.Proofs.YtmgealcolofomaaDoor
