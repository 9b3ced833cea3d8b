/- The program's code of an expression: one of two. -/
import Derived.Test.YtmgealcolofomaaDoorOb
namespace Go.Proofs.YtmgealcolofomaaDoor
open Go.RowKit Kb
set_option linter.unusedVariables false
set_option maxRecDepth 20000

theorem alt_list (a b : Ex) (xs : List In) (n : Nat) (hn : xs.length = n) (m : Nat) (hm : n + 1 + (cdx a (n + 1)).length = m) (t : Nat) (ht : m + 1 + (cdx b (m + 1)).length = t) :
    (((xs ++ [(⟨2, (n : Int) + 1, 0, ⟨0, 0, 0, 0⟩⟩ : In)] ++ cdx a (n + 1)).set n ⟨2, (n : Int) + 1, (m : Int) + 1, ⟨0, 0, 0, 0⟩⟩ ++ [(⟨3, 0, 0, ⟨0, 0, 0, 0⟩⟩ : In)]) ++ cdx b (m + 1)).set m ⟨3, t, 0, ⟨0, 0, 0, 0⟩⟩ = xs ++ cdx (.alt a b) n := by
  subst hn hm ht
  have h1 : (xs ++ [(⟨2, (xs.length : Int) + 1, 0, ⟨0, 0, 0, 0⟩⟩ : In)] ++ cdx a (xs.length + 1)).set xs.length ⟨2, (xs.length : Int) + 1, ((xs.length + 1 + (cdx a (xs.length + 1)).length : Nat) : Int) + 1, ⟨0, 0, 0, 0⟩⟩ = xs ++ ((⟨2, (xs.length : Int) + 1, ((xs.length + 1 + (cdx a (xs.length + 1)).length : Nat) : Int) + 1, ⟨0, 0, 0, 0⟩⟩ : In) :: cdx a (xs.length + 1)) := by
    simp
  rw [h1]
  have e1 : ((xs.length + 1 + (cdx a (xs.length + 1)).length : Nat) : Int) + 1 = (xs.length : Int) + 2 + ((cdx a (xs.length + 1)).length : Int) := by omega
  have e2 : xs.length + 1 + (cdx a (xs.length + 1)).length + 1 = xs.length + 2 + (cdx a (xs.length + 1)).length := by omega
  rw [e1, e2]
  have e3 : ∀ (y : In) (A B : List In), ((xs ++ y :: A) ++ [(⟨3, 0, 0, ⟨0, 0, 0, 0⟩⟩ : In)] ++ B).set (xs.length + 1 + A.length) ⟨3, ((xs.length + 2 + A.length + B.length : Nat) : Int), 0, ⟨0, 0, 0, 0⟩⟩ = xs ++ y :: (A ++ (⟨3, ((xs.length + 2 + A.length + B.length : Nat) : Int), 0, ⟨0, 0, 0, 0⟩⟩ : In) :: B) := by
    intro y A B
    rw [show xs.length + 1 + A.length = (xs ++ y :: A).length by simp; omega, List.append_assoc, List.set_append_right _ _ (Nat.le_refl _), Nat.sub_self]
    simp
  rw [e3, cdx]
  simp [noSet]
set_option maxHeartbeats 8000000 in
theorem pei_any (a b : Ex) (ha : CP a) (hb : CP b) (w0 : World) (av bv : Value) (v : Value) (xs : List In) (W : World) (hV : RexV w0 av a.rx) (hV2 : RexV w0 bv b.rx) (hB : Below w0.heap.size w0 W) (hown : OwnJ w0.heap.size xs W v) (hn : xs.length + 2 * a.nodes + 2 * b.nodes + 2 ≤ 100000) :
    Calls Tryd.prog 61 #[v, av, bv] W fun e w' => ∃ v', e = .returned v' ∧ OwnJ w0.heap.size (xs ++ cdx (.alt a b) xs.length) w' v' ∧ Gv w0.heap.size W w' v v' := by
  have HR1 := hide (fun v xs W b o l => ha w0 av v xs W hV b o l)
  have HR2 := hide (fun v xs W b o l => hb w0 bv v xs W hV2 b o l)
  obtain ⟨t, ht, hkd⟩ := hV.val
  obtain ⟨o1, c1, rfl, _⟩ := hkd.form
  obtain ⟨l1, hl1⟩ : ∃ l1, a.rx.ks.length = l1 := ⟨_, rfl⟩
  obtain ⟨x0, hx0⟩ : ∃ z, a.rx.k = z := ⟨_, rfl⟩
  obtain ⟨⟨x1, x2, x3, x4⟩, hx1⟩ : ∃ z, a.rx.s = z := ⟨_, rfl⟩
  unfold rexV at ht
  rw [hl1, hx0, hx1] at ht
  dsimp only at ht
  subst ht
  clear hl1 hx0 hx1 hkd hV
  obtain ⟨t, ht, hkd⟩ := hV2.val
  obtain ⟨o2, c2, rfl, _⟩ := hkd.form
  obtain ⟨l2, hl1⟩ : ∃ l1, b.rx.ks.length = l1 := ⟨_, rfl⟩
  obtain ⟨z0, hx0⟩ : ∃ z, b.rx.k = z := ⟨_, rfl⟩
  obtain ⟨⟨z1, z2, z3, z4⟩, hx1⟩ : ∃ z, b.rx.s = z := ⟨_, rfl⟩
  unfold rexV at ht
  rw [hl1, hx0, hx1] at ht
  dsimp only at ht
  subst ht
  clear hl1 hx0 hx1 hkd hV2
  have hcl := cdx_len a (xs.length + 1)
  obtain ⟨n, hnx⟩ : ∃ n, xs.length = n := ⟨_, rfl⟩
  have HNX := hide hnx
  obtain ⟨P, hP⟩ : ∃ P, Obj.cells #[.int .i64 x0, .int .u64 x1, .int .u64 x2, .int .u64 x3, .int .u64 x4, .slice o1 l1 c1] 38 = P := ⟨_, rfl⟩
  obtain ⟨P2, hP2⟩ : ∃ P, Obj.cells #[.int .i64 z0, .int .u64 z1, .int .u64 z2, .int .u64 z3, .int .u64 z4, .slice o2 l2 c2] 38 = P := ⟨_, rfl⟩
  have R0 := hide (((RowJ.start hown hB.size).lay P).lay P2)
  obtain ⟨g, hg⟩ : ∃ g, W.heap.size = g := ⟨_, rfl⟩
  obtain ⟨g2, hg2⟩ : ∃ g2, g + 1 = g2 := ⟨_, rfl⟩
  obtain ⟨W1, hW1⟩ : ∃ W1, (W.alloc P).alloc P2 = W1 := ⟨_, rfl⟩
  rw [hW1, show (W.alloc P).heap.size = g2 by simp [hg, hg2], hg] at R0
  have HMC : Hid (∀ (L : List (Nat × Obj)) (xs : List In) (W' : World) (y : Value), RowJ w0.heap.size W v L xs W' y → (g, P) ∈ L → W'.cell? ⟨g, 0, none⟩ = some (.int .i64 x0) ∧ W'.cell? ⟨g, 1, none⟩ = some (.int .u64 x1) ∧ W'.cell? ⟨g, 2, none⟩ = some (.int .u64 x2) ∧ W'.cell? ⟨g, 3, none⟩ = some (.int .u64 x3) ∧ W'.cell? ⟨g, 4, none⟩ = some (.int .u64 x4) ∧ W'.cell? ⟨g, 5, none⟩ = some (.slice o1 l1 c1) ∧ g < W'.heap.size ∧ ¬ g = W'.heap.size ∧ ¬ g = W'.heap.size + 1 ∧ Below w0.heap.size w0 W') := hide (fun L xs W' y R hm => by
    have hl := ltSome (R.box _ hm).1
    have hb := hB.trans R.gw.1
    rw [← hP] at hm
    exact ⟨R.cell hm 0, R.cell hm 1, R.cell hm 2, R.cell hm 3, R.cell hm 4, R.cell hm 5, hl, by simp at hl; omega, by simp at hl; omega, hb⟩)
  have HMD : Hid (∀ (L : List (Nat × Obj)) (xs : List In) (W' : World) (y : Value), RowJ w0.heap.size W v L xs W' y → (g2, P2) ∈ L → W'.cell? ⟨g2, 0, none⟩ = some (.int .i64 z0) ∧ W'.cell? ⟨g2, 1, none⟩ = some (.int .u64 z1) ∧ W'.cell? ⟨g2, 2, none⟩ = some (.int .u64 z2) ∧ W'.cell? ⟨g2, 3, none⟩ = some (.int .u64 z3) ∧ W'.cell? ⟨g2, 4, none⟩ = some (.int .u64 z4) ∧ W'.cell? ⟨g2, 5, none⟩ = some (.slice o2 l2 c2) ∧ g2 < W'.heap.size ∧ ¬ g2 = W'.heap.size ∧ ¬ g2 = W'.heap.size + 1 ∧ Below w0.heap.size w0 W') := hide (fun L xs W' y R hm => by
    have hl := ltSome (R.box _ hm).1
    have hb := hB.trans R.gw.1
    rw [← hP2] at hm
    exact ⟨R.cell hm 0, R.cell hm 1, R.cell hm 2, R.cell hm 3, R.cell hm 4, R.cell hm 5, hl, by simp at hl; omega, by simp at hl; omega, hb⟩)
  obtain ⟨y0, y1, y2, y3, y4, y5, y6, y7, y8, bel⟩ := (unhide HMC) _ _ _ _ (unhide R0) (List.mem_cons_of_mem _ List.mem_cons_self)
  obtain ⟨ov, cv, hvf⟩ := own_forms hown
  subst hvf
  rw [hnx] at hn hcl R0 HMC HMD ⊢
  have HB1 := hide bel
  rw [← hP, ← hP2] at hW1
  have HP := hide hP
  have HP2 := hide hP2
  have hwr : IntKind.i64.wrap ((n : Int) + 1) = (n : Int) + 1 := by rw [IntKind.wrap_i64]; omega
  clear bel hown hP hP2 hnx
  go_enter Tryd.func61, Tryd.ntmps61
  go_wp2_with fail
  clear hW1 hg hg2
  have Rc := hide (unhide R0).drew
  obtain ⟨_, _, _, _, _, _, _, _, _, bel⟩ := (unhide HMC) _ _ _ _ (unhide Rc) (List.mem_cons_of_mem _ List.mem_cons_self)
  have HB1 := hide bel
  clear bel R0
  go_region_law (first | (refine step_in rfl (.tmp 11) (.tmp 15) rfl rfl ((unhide Rc).lay _) [⟨2, (n : Int) + 1, 0, ⟨0, 0, 0, 0⟩⟩] _ _ rfl (news_lay ((unhide Rc).lay _) ⟨2, (n : Int) + 1, 0, ⟨0, 0, 0, 0⟩⟩ List.mem_cons_self) (by rw [unhide HNX]; simp; omega) ?_; intro v' w3 R'; obtain ⟨y0, y1, y2, y3, y4, y5, y6, y7, y8, bel⟩ := (unhide HMC) _ _ _ _ R' (by simp); have HB1 := hide bel; clear bel; have Rc := hide R'; clear R') | (go_simp; go_at_call 37; refine ((unhide HR1) _ _ _ (unhide HB1) (unhide Rc).own (by simp; rw [unhide HNX]; omega)).mono ?_; rintro e w4 ⟨v', rfl, o', k'⟩; have R' := (unhide Rc).call o' k'; clear o' k'; have Rc := hide R'; clear R'))
  all_goals (
    obtain ⟨X, hX⟩ : ∃ X, xs ++ [(⟨2, (n : Int) + 1, 0, ⟨0, 0, 0, 0⟩⟩ : In)] ++ cdx a (xs ++ [(⟨2, (n : Int) + 1, 0, ⟨0, 0, 0, 0⟩⟩ : In)]).length = X := ⟨_, rfl⟩
    rw [hX] at Rc
    have hX2 : X = xs ++ [(⟨2, (n : Int) + 1, 0, ⟨0, 0, 0, 0⟩⟩ : In)] ++ cdx a (n + 1) := by rw [← hX, List.length_append, unhide HNX]; rfl
    have hXl : X.length = n + 1 + (cdx a (n + 1)).length := by rw [hX2, List.length_append, List.length_append, unhide HNX]; rfl
    have hXn : X[n]? = some ⟨2, (n : Int) + 1, 0, ⟨0, 0, 0, 0⟩⟩ := by
      have := unhide HNX
      subst this
      rw [hX2]; simp
    have HX2 := hide hX2
    clear hX hX2 y0 y1 y2 y3 y4 y5 y6 y7 y8
    obtain ⟨g5, c5, hv5, hc5, hg5, _, _, k2, _⟩ := (unhide Rc).own.at_ hXn
    subst hv5
    have f5 := frozen_row (unhide Rc).own (n * 7 + 2)
    obtain ⟨m, hm⟩ : ∃ m, X.length = m := ⟨_, rfl⟩
    have HM := hide hm
    have HXN := hide hXn
    rw [hm] at hXl Rc hc5 ⊢
    have hb1 : m + 2 * b.nodes ≤ 99999 := by omega
    have hb2 : n < m := by omega
    have HXL := hide hXl
    clear hm hXl hXn
    dsimp only at k2
    have hwm : IntKind.i64.wrap ((m : Int) + 1) = (m : Int) + 1 := by rw [IntKind.wrap_i64]; omega
    have hbd : 0 ≤ (n : Int) ∧ (n : Int) < (m : Int) := by omega
    have R4 := hide (setB_row (unhide Rc) (unhide HXN) (unhide HM) ((m : Int) + 1))
    obtain ⟨W4, hW4⟩ : ∃ W4, w4.setCell ⟨g5, n * 7 + 2, none⟩ (.int .i64 ((m : Int) + 1)) = W4 := ⟨_, rfl⟩
    rw [hW4] at R4
    go_wp2_with fail
    clear hW4 k2 f5
    have Rd := hide (unhide R4).drew
    obtain ⟨y0, y1, y2, y3, y4, y5, y6, y7, y8, bel⟩ := (unhide HMD) _ _ _ _ (unhide R4) (by simp)
    obtain ⟨_, _, _, _, _, _, _, _, _, bel2⟩ := (unhide HMD) _ _ _ _ (unhide Rd) (by simp)
    have HB2 := hide bel2
    clear bel bel2 R4
    have HLS : Hid ((X.set n ⟨2, (n : Int) + 1, (m : Int) + 1, ⟨0, 0, 0, 0⟩⟩).length = m) := hide (by rw [List.length_set, unhide HM])
    obtain ⟨X4, hX4⟩ : ∃ X4, X.set n ⟨2, (n : Int) + 1, (m : Int) + 1, ⟨0, 0, 0, 0⟩⟩ = X4 := ⟨_, rfl⟩
    rw [hX4] at HLS Rd
    have HX4 := hide hX4
    clear hX4
    go_region_law (first | (refine step_in rfl (.tmp 27) (.tmp 29) rfl rfl ((unhide Rd).lay _) [⟨3, 0, 0, ⟨0, 0, 0, 0⟩⟩] _ _ rfl (news_lay ((unhide Rd).lay _) ⟨3, 0, 0, ⟨0, 0, 0, 0⟩⟩ List.mem_cons_self) (by rw [unhide HLS]; simp; omega) ?_; intro v'' w5 R'; obtain ⟨y0, y1, y2, y3, y4, y5, y6, y7, y8, bel⟩ := (unhide HMD) _ _ _ _ R' (by simp); have HB2 := hide bel; clear bel; have Rd := hide R'; clear R') | (go_simp; go_at_call 37; refine ((unhide HR2) _ _ _ (unhide HB2) (unhide Rd).own (by simp; rw [unhide HLS]; omega)).mono ?_; rintro e w6 ⟨v'', rfl, o', k'⟩; have R' := (unhide Rd).call o' k'; clear o' k'; have Rd := hide R'; clear R'))
    all_goals (
      obtain ⟨Y, hY⟩ : ∃ Y, X4 ++ [(⟨3, 0, 0, ⟨0, 0, 0, 0⟩⟩ : In)] ++ cdx b (X4 ++ [(⟨3, 0, 0, ⟨0, 0, 0, 0⟩⟩ : In)]).length = Y := ⟨_, rfl⟩
      rw [hY] at Rd
      have hY2 : Y = X4 ++ [(⟨3, 0, 0, ⟨0, 0, 0, 0⟩⟩ : In)] ++ cdx b (m + 1) := by rw [← hY, List.length_append, unhide HLS]; rfl
      have hYl : Y.length = m + 1 + (cdx b (m + 1)).length := by rw [hY2, List.length_append, List.length_append, unhide HLS]; rfl
      have hYn : Y[m]? = some ⟨3, 0, 0, ⟨0, 0, 0, 0⟩⟩ := by
        have := unhide HLS
        rw [hY2]
        clear hY hY2 hYl
        subst this
        simp
      have HY2 := hide hY2
      clear hY hY2 y0 y1 y2 y3 y4 y5 y6 y7 y8
      obtain ⟨g7, c7, hv7, hc7, hg7, _, k1, _⟩ := (unhide Rd).own.at_ hYn
      subst hv7
      have f7 := frozen_row (unhide Rd).own (m * 7 + 1)
      obtain ⟨t, ht⟩ : ∃ t, Y.length = t := ⟨_, rfl⟩
      have HT := hide ht
      have HYN := hide hYn
      have hclb := cdx_len b (m + 1)
      rw [ht] at hYl Rd hc7 ⊢
      have hb3 : t ≤ 100000 := by omega
      have hb4 : m < t := by omega
      have HYL := hide hYl
      clear ht hYl hYn
      dsimp only at k1
      have hbd2 : 0 ≤ (m : Int) ∧ (m : Int) < (t : Int) := by omega
      have R8 := hide (setA_row (unhide Rd) (unhide HYN) (unhide HT) (t : Int))
      go_wp2_with fail
      go_ret
      refine ⟨_, rfl, ?_, (unhide R8).gw⟩
      have := (unhide R8).own
      rw [unhide HY2, ← unhide HX4, unhide HX2] at this
      rw [← alt_list a b xs n (unhide HNX) m (unhide HXL).symm t (unhide HYL).symm]
      exact this))
end Go.Proofs.YtmgealcolofomaaDoor
