/- The program's code of an expression: a star. -/
import Derived.Test.YtmgealcolofomaaDoorOa
namespace Go.Proofs.YtmgealcolofomaaDoor
open Go.RowKit Kb
set_option linter.unusedVariables false
set_option maxRecDepth 20000

theorem news_lay {B : Nat} {w0 w : World} {v0 v : Value} {L : List (Nat × Obj)} {xs : List In} (R : RowJ B w0 v0 L xs w v) (x : In) {g : Nat} {t : TypeId} {fr : Nat × Nat} (hm : (g, Obj.cells #[.int .i64 x.k, .int .i64 x.a, .int .i64 x.b, .int .u64 x.s.a, .int .u64 x.s.b, .int .u64 x.s.c, .int .u64 x.s.d] t fr) ∈ L) : ∀ j u, (cellsJ [x])[j]? = some u → w.cell? ((⟨g, 0, none⟩ : Addr).add j) = some u := news_one (R.box _ hm).1
/-- append of one instruction, as a step of a region that draws its order -/
theorem step_in {ops : Array Oper} {o : Oper} {a : Act} {w : World} {K : Act → World → Prop} {Q : Exit → Act → World → Prop} {E : Prop} (hgd : o.guard = none) (sl x : Operand)
    (ho : o.op = .call { callee := .builtin .append, args := #[sl, x], argTypes := #[39, 39] }) {B : Nat} {w0 : World} {v0 : Value} {L : List (Nat × Obj)} {xs : List In} {v : Value} (hs : a.eval sl = v) (R : RowJ B w0 v0 L xs w v)
    (ys : List In) (ad : Addr) (c : Nat) (hx : a.eval x = .slice (some ad) ys.length c) (hy : ∀ j u, (cellsJ ys)[j]? = some u → w.cell? (ad.add j) = some u) (hn : xs.length + ys.length ≤ 1000000)
    (h : ∀ v' w', RowJ B w0 v0 L (xs ++ ys) w' v' → K (a.put o.dst v') w') : if Region.wanted o (yielded ops a.tmps) = true then Oper.wp Tryd.prog o a w K Q else E := by
  have hw : Region.wanted o (yielded ops a.tmps) = true := by simp [Region.wanted, hgd]
  rw [if_pos hw]
  obtain ⟨i0, hi, hz0, hz1, hz2⟩ := info_parts infoJ
  obtain ⟨v', w', hr, h2, h3, _, hat⟩ := run_append_own_at (P := Tryd.prog) w B 39 o.type 79 i0 _ 7 56 Tryd.underlying39 hi hz0 hz1 hz2 rfl (by decide) v xs.length (cellsJ xs) R.own ad ys.length c (cellsJ ys) (cellsJ_length ys) hy (cellsJ_one ys) (by unfold maxLen; omega) (by omega) R.hB
  unfold Oper.wp
  simp [execOp, ho, resolve, invoke, builtin, hs, hx, hr, Result.andThen]
  exact h v' w' (R.call (by unfold OwnJ; rw [cellsJ_append, List.length_append]; exact h2) (Gv.grown R.own h3 R.hB hat))
/-- what code does with an expression -/
def CP (x : Ex) : Prop := ∀ (w0 : World) (rv : Value) (v : Value) (xs : List In) (W : World), RexV w0 rv x.rx → Below w0.heap.size w0 W → OwnJ w0.heap.size xs W v → xs.length + 2 * x.nodes ≤ 100000 →
    Calls Tryd.prog 37 #[v, rv] W fun e w' => ∃ v', e = .returned v' ∧ OwnJ w0.heap.size (xs ++ cdx x xs.length) w' v' ∧ Gv w0.heap.size W w' v v'
theorem star_list (a : Ex) (xs : List In) (n : Nat) (hn : xs.length = n) (m : Nat) (hm : n + 2 + (cdx a (n + 1)).length = m) : ((xs ++ [(⟨2, (n : Int) + 1, 0, ⟨0, 0, 0, 0⟩⟩ : In)] ++ cdx a (n + 1)) ++ [(⟨3, n, 0, ⟨0, 0, 0, 0⟩⟩ : In)]).set n ⟨2, (n : Int) + 1, (m : Int), ⟨0, 0, 0, 0⟩⟩ = xs ++ cdx (.star a) n := by
  subst hn hm
  simp [cdx, noSet]
set_option maxHeartbeats 4000000 in
theorem again_any (a : Ex) (ha : CP a) (w0 : World) (rv : Value) (v : Value) (xs : List In) (W : World) (hV : RexV w0 rv a.rx) (hB : Below w0.heap.size w0 W) (hown : OwnJ w0.heap.size xs W v) (hn : xs.length + 2 * a.nodes + 2 ≤ 100000) :
    Calls Tryd.prog 62 #[v, rv] W fun e w' => ∃ v', e = .returned v' ∧ OwnJ w0.heap.size (xs ++ cdx (.star a) xs.length) w' v' ∧ Gv w0.heap.size W w' v v' := by
  have HREC := hide (fun v xs W b o l => ha w0 rv v xs W hV b o l)
  obtain ⟨t, ht, hkd⟩ := hV.val
  obtain ⟨o1, c1, rfl, _⟩ := hkd.form
  obtain ⟨l1, hl1⟩ : ∃ l1, a.rx.ks.length = l1 := ⟨_, rfl⟩
  obtain ⟨x0, hx0⟩ : ∃ z, a.rx.k = z := ⟨_, rfl⟩
  obtain ⟨⟨x1, x2, x3, x4⟩, hx1⟩ : ∃ z, a.rx.s = z := ⟨_, rfl⟩
  unfold rexV at ht
  rw [hl1, hx0, hx1] at ht
  dsimp only at ht
  subst ht
  clear hl1 hx0 hx1 hkd hV
  have hcl := cdx_len a (xs.length + 1)
  obtain ⟨n, hnx⟩ : ∃ n, xs.length = n := ⟨_, rfl⟩
  have HNX := hide hnx
  obtain ⟨P, hP⟩ : ∃ P, Obj.cells #[.int .i64 x0, .int .u64 x1, .int .u64 x2, .int .u64 x3, .int .u64 x4, .slice o1 l1 c1] 38 = P := ⟨_, rfl⟩
  have R0 := hide ((RowJ.start hown hB.size).lay P)
  obtain ⟨g, hg⟩ : ∃ g, W.heap.size = g := ⟨_, rfl⟩
  obtain ⟨W1, hW1⟩ : ∃ W1, W.alloc P = W1 := ⟨_, rfl⟩
  rw [hW1, hg] at R0
  have HMC : Hid (∀ (L : List (Nat × Obj)) (xs : List In) (W' : World) (y : Value), RowJ w0.heap.size W v L xs W' y → (g, P) ∈ L → W'.cell? ⟨g, 0, none⟩ = some (.int .i64 x0) ∧ W'.cell? ⟨g, 1, none⟩ = some (.int .u64 x1) ∧ W'.cell? ⟨g, 2, none⟩ = some (.int .u64 x2) ∧ W'.cell? ⟨g, 3, none⟩ = some (.int .u64 x3) ∧ W'.cell? ⟨g, 4, none⟩ = some (.int .u64 x4) ∧ W'.cell? ⟨g, 5, none⟩ = some (.slice o1 l1 c1) ∧ g < W'.heap.size ∧ ¬ g = W'.heap.size ∧ ¬ g = W'.heap.size + 1 ∧ Below w0.heap.size w0 W') := hide (fun L xs W' y R hm => by
    have hl := ltSome (R.box _ hm).1
    have hb := hB.trans R.gw.1
    rw [← hP] at hm
    exact ⟨R.cell hm 0, R.cell hm 1, R.cell hm 2, R.cell hm 3, R.cell hm 4, R.cell hm 5, hl, by simp at hl; omega, by simp at hl; omega, hb⟩)
  obtain ⟨y0, y1, y2, y3, y4, y5, y6, y7, y8, bel⟩ := (unhide HMC) _ _ _ _ (unhide R0) List.mem_cons_self
  obtain ⟨ov, cv, hvf⟩ := own_forms hown
  subst hvf
  rw [hnx] at hn hcl R0 HMC ⊢
  have HB1 := hide bel
  rw [← hP] at hW1
  have HP := hide hP
  have hwr : IntKind.i64.wrap ((n : Int) + 1) = (n : Int) + 1 := by rw [IntKind.wrap_i64]; omega
  clear bel hown hP hnx
  go_enter Tryd.func62, Tryd.ntmps62
  go_wp2_with fail
  clear hW1 hg
  have Rc := hide (unhide R0).drew
  obtain ⟨_, _, _, _, _, _, _, _, _, bel⟩ := (unhide HMC) _ _ _ _ (unhide Rc) List.mem_cons_self
  have HB1 := hide bel
  clear bel R0
  go_region_law (first | (refine step_in rfl (.tmp 8) (.tmp 12) rfl rfl ((unhide Rc).lay _) [⟨2, (n : Int) + 1, 0, ⟨0, 0, 0, 0⟩⟩] _ _ rfl (news_lay ((unhide Rc).lay _) ⟨2, (n : Int) + 1, 0, ⟨0, 0, 0, 0⟩⟩ List.mem_cons_self) (by rw [unhide HNX]; simp; omega) ?_; intro v' w3 R'; obtain ⟨y0, y1, y2, y3, y4, y5, y6, y7, y8, bel⟩ := (unhide HMC) _ _ _ _ R' (by first | exact List.mem_cons_self | exact List.mem_cons_of_mem _ List.mem_cons_self); have HB1 := hide bel; clear bel; have Rc := hide R'; clear R') | (go_simp; go_at_call 37; refine ((unhide HREC) _ _ _ (unhide HB1) (unhide Rc).own (by simp; rw [unhide HNX]; omega)).mono ?_; rintro e w4 ⟨v', rfl, o', k'⟩; have R' := (unhide Rc).call o' k'; clear o' k'; have Rc := hide R'; clear R'))
  all_goals (
    obtain ⟨X, hX⟩ : ∃ X, xs ++ [(⟨2, (n : Int) + 1, 0, ⟨0, 0, 0, 0⟩⟩ : In)] ++ cdx a (xs ++ [(⟨2, (n : Int) + 1, 0, ⟨0, 0, 0, 0⟩⟩ : In)]).length = X := ⟨_, rfl⟩
    rw [hX] at Rc
    have hX2 : X = xs ++ [(⟨2, (n : Int) + 1, 0, ⟨0, 0, 0, 0⟩⟩ : In)] ++ cdx a (n + 1) := by rw [← hX, List.length_append, unhide HNX]; rfl
    have hXl : X.length = n + 1 + (cdx a (n + 1)).length := by rw [hX2, List.length_append, List.length_append, unhide HNX]; rfl
    have hXn : X[n]? = some ⟨2, (n : Int) + 1, 0, ⟨0, 0, 0, 0⟩⟩ := by
      have := unhide HNX
      subst this
      rw [hX2]; simp
    have HX2 := hide hX2
    have HXN := hide hXn
    clear hX hX2 hXn y0 y1 y2 y3 y4 y5 y6 y7 y8
    obtain ⟨o2, c2, hv2⟩ := (unhide Rc).forms
    subst hv2
    obtain ⟨m, hm⟩ : ∃ m, X.length = m := ⟨_, rfl⟩
    have HM := hide hm
    rw [hm] at hXl Rc ⊢
    have hb1 : m ≤ 99999 := by omega
    have hb2 : n < m := by omega
    have HXL := hide hXl
    clear hm hXl
    go_wp2_with (at_builtin; go_loud (
                 refine app_in rfl _ _ rfl rfl ((unhide Rc).lay _) [⟨3, n, 0, ⟨0, 0, 0, 0⟩⟩] _ _ rfl (news_lay ((unhide Rc).lay _) ⟨3, n, 0, ⟨0, 0, 0, 0⟩⟩ List.mem_cons_self) (by rw [unhide HM]; simp; omega) ?_; intro v5 w5 R5
                 obtain ⟨Y, hY⟩ : ∃ Y, X ++ [(⟨3, n, 0, ⟨0, 0, 0, 0⟩⟩ : In)] = Y := ⟨_, rfl⟩
                 rw [hY] at R5
                 have hYn : Y[n]? = some ⟨2, (n : Int) + 1, 0, ⟨0, 0, 0, 0⟩⟩ := by rw [← hY, List.getElem?_append_left (by rw [unhide HM]; omega)]; exact unhide HXN
                 have hYl : Y.length = m + 1 := by rw [← hY, List.length_append, unhide HM]; rfl
                 have HY := hide hY
                 have HYN := hide hYn
                 obtain ⟨g5, c5, hv5, hc5, hg5, _, _, k2, _⟩ := R5.own.at_ hYn
                 subst hv5
                 have f5 := frozen_row R5.own (n * 7 + 2)
                 have HYL := hide hYl
                 have R5' := hide R5
                 rw [hYl] at R5' hc5 ⊢
                 clear hY hYn hYl R5
                 dsimp only at k2
                 have hbd : 0 ≤ (n : Int) ∧ (n : Int) < ((m + 1 : Nat) : Int) := by omega))
    have R6 := setB_row (unhide R5') (unhide HYN) (unhide HYL) ((m + 1 : Nat) : Int)
    go_ret
    refine ⟨_, rfl, ?_, R6.gw⟩
    have := R6.own
    rw [← unhide HY, unhide HX2] at this
    rw [← star_list a xs n (unhide HNX) (m + 1) (by rw [unhide HXL]; omega)]
    exact this)
end Go.Proofs.YtmgealcolofomaaDoor
