/- How the program writes expressions: bracketed, appendKid. -/
import Derived.Test.YtmhjfiaohbioeaaJd
namespace Go.Proofs.Ytmhjfiaohbioeaa
open Go.RowKit Kb Pop
set_option linter.unusedVariables false
set_option maxRecDepth 20000

set_option maxHeartbeats 4000000 in
theorem bra_any (k : Int) (i : Nat) (q : Int) (w : World) (hk : k = 4 ∨ k = 5 ∨ k = 6) (hi : i = 0 ∨ i = 1) (hq : 1 ≤ q ∧ q ≤ 8) :
    Calls Try.prog 44 #[.int .i64 k, .int .i64 i, .int .i64 q] w fun e w' => e = .returned (.bool (bra k i q)) ∧ w' = w := by
  have hq8 : q = 1 ∨ q = 2 ∨ q = 3 ∨ q = 4 ∨ q = 5 ∨ q = 6 ∨ q = 7 ∨ q = 8 := by omega
  obtain ⟨b, hb⟩ : ∃ b, bra k i q = b := ⟨_, rfl⟩
  rw [hb]
  rcases hk with rfl | rfl | rfl
  all_goals (
    rcases hi with rfl | rfl
    all_goals (
      rcases hq8 with rfl | rfl | rfl | rfl | rfl | rfl | rfl | rfl
      all_goals (
        have HB := hide hb
        clear hb hq
        go_enter Try.func44, Try.ntmps44
        go_wp2_with fail
        go_ret
        exact ⟨by rw [← unhide HB]; rfl, rfl⟩)))
/-- what appendRex does with an expression -/
def AR (x : Ex) : Prop := ∀ (w0 : World) (rv : Value) (v : Value) (n : Nat) (xs : List UInt8) (W : World), RexV w0 rv x.rx → Below w0.heap.size w0 W → W.ownsRow w0.heap.size 5 1 v n (cells xs) → n + 2400 * x.nodes ≤ 700000000000 →
    Calls Try.prog 19 #[v, rv] W fun e w' => ∃ v', e = .returned v' ∧ w'.ownsRow w0.heap.size 5 1 v' (n + x.tx.length) (cells (xs ++ x.tx)) ∧ Gw w0.heap.size W w' v v'
set_option maxHeartbeats 4000000 in
theorem kid_any (x : Ex) (HX : AR x) (w0 : World) (k : Int) (hk : k = 4 ∨ k = 5 ∨ k = 6) (s : Se) (ks : List Rx) (i : Nat) (hi : i = 0 ∨ i = 1) (hx : ks[i]? = some x.rx) (pv : Value) (hV : RexV w0 pv (.mk k s ks)) (v : Value) (n : Nat) (xs : List UInt8) (W : World) (hB : Below w0.heap.size w0 W) (hown : W.ownsRow w0.heap.size 5 1 v n (cells xs)) (hn : n + 2400 * x.nodes + 2 ≤ 700000000000) :
    Calls Try.prog 33 #[v, pv, .int .i64 i] W fun e w' => ∃ v', e = .returned v' ∧ w'.ownsRow w0.heap.size 5 1 v' (n + (brk (bra k i x.kind) x.tx).length) (cells (xs ++ brk (bra k i x.kind) x.tx)) ∧ Gw w0.heap.size W w' v v' := by
  obtain ⟨t, rfl, hkd⟩ := hV.val
  obtain ⟨g1, f1, c1, e1, he1, hg1, fx, a0, a1, a2, a3, a4, a5, kx⟩ := hkd.at_ hx
  have HBR := hide (fun W => bra_any k i x.kind W hk hi (Ex.kind_pos x))
  have hlen : i < ks.length := (List.getElem?_eq_some_iff.1 hx).1
  have hroom := hkd.room
  have htl := tx_len x
  obtain ⟨bb, hbb⟩ : ∃ b, bra k i x.kind = b := ⟨_, rfl⟩
  rw [hbb] at HBR ⊢
  clear hbb
  have HREC := hide (fun v n xs W b o l => HX w0 (rexV x.rx e1) v n xs W ⟨⟨e1, rfl, kx⟩, fx⟩ b o l)
  have a0 := cell_below a0 hg1 hB
  have a1 := cell_below a1 hg1 hB
  have a2 := cell_below a2 hg1 hB
  have a3 := cell_below a3 hg1 hB
  have a4 := cell_below a4 hg1 hB
  have a5 := cell_below a5 hg1 hB
  have hgw : g1 < W.heap.size := Nat.lt_of_lt_of_le hg1 hB.size
  rw [Ex.rx_k] at a0
  obtain ⟨q, hq⟩ : ∃ q, x.kind = q := ⟨_, rfl⟩
  obtain ⟨T, hT⟩ : ∃ T, x.tx = T := ⟨_, rfl⟩
  obtain ⟨M, hM⟩ : ∃ M, x.nodes = M := ⟨_, rfl⟩
  unfold rexV at *
  rw [Ex.rx_k] at HREC
  obtain ⟨oe1, ce1, hfe1, _⟩ := kx.form
  subst hfe1
  obtain ⟨l1, hl1⟩ : ∃ l1, x.rx.ks.length = l1 := ⟨_, rfl⟩
  obtain ⟨⟨x1, x2, x3, x4⟩, hx1⟩ : ∃ z, x.rx.s = z := ⟨_, rfl⟩
  rw [hl1] at a5 HREC
  rw [hx1] at a1 a2 a3 a4 HREC
  rw [hq] at a0 HREC HBR
  rw [hT] at HREC htl ⊢
  rw [hM] at HREC htl hn
  dsimp only at a1 a2 a3 a4 HREC
  simp only [Rx.k, Rx.s, Rx.ks] at *
  obtain ⟨s1, s2, s3, s4⟩ := s
  dsimp only at *
  cases he1
  have hib : 0 ≤ (i : Int) ∧ (i : Int) < ks.length := by omega
  obtain ⟨K, hK⟩ : ∃ K, ks.length = K := ⟨_, rfl⟩
  rw [hK] at hroom hlen hib ⊢
  clear hq hT hM hl1 hx1 hK kx fx hx hV hkd HX
  obtain ⟨P, hP⟩ : ∃ P, Obj.cells #[.int .i64 k, .int .u64 s1, .int .u64 s2, .int .u64 s3, .int .u64 s4, .slice (some ⟨g1, f1, none⟩) K c1] 27 = P := ⟨_, rfl⟩
  obtain ⟨P2, hP2⟩ : ∃ P2, Obj.cells #[.int .i64 q, .int .u64 x1, .int .u64 x2, .int .u64 x3, .int .u64 x4, .slice oe1 l1 ce1] 27 = P2 := ⟨_, rfl⟩
  have R0 := hide ((RowS.start hown hB.size).lay2 P P2)
  obtain ⟨W1, hW1⟩ : ∃ W1, (W.alloc P).alloc P2 = W1 := ⟨_, rfl⟩
  rw [hW1] at R0
  have HMC : Hid (∀ (L : List (Nat × Obj)) (n : Nat) (xs : List UInt8) (W' : World) (y : Value), RowS w0.heap.size W v L n xs W' y → (W.heap.size + 1, P2) ∈ L → W'.cell? ⟨W.heap.size + 1, 0, none⟩ = some (.int .i64 q) ∧ W'.cell? ⟨W.heap.size + 1, 1, none⟩ = some (.int .u64 x1) ∧ W'.cell? ⟨W.heap.size + 1, 2, none⟩ = some (.int .u64 x2) ∧ W'.cell? ⟨W.heap.size + 1, 3, none⟩ = some (.int .u64 x3) ∧ W'.cell? ⟨W.heap.size + 1, 4, none⟩ = some (.int .u64 x4) ∧ W'.cell? ⟨W.heap.size + 1, 5, none⟩ = some (.slice oe1 l1 ce1) ∧ W.heap.size + 1 < W'.heap.size ∧ ¬ W.heap.size + 1 = W'.heap.size ∧ ¬ W.heap.size + 1 = W'.heap.size + 1 ∧ Below w0.heap.size w0 W') := hide (fun L n xs W' y R hm => by
    have hl := lt_of_some (R.box _ hm).1
    have hb := hB.trans R.gw.1
    rw [← hP2] at hm
    exact ⟨R.cell hm 0, R.cell hm 1, R.cell hm 2, R.cell hm 3, R.cell hm 4, R.cell hm 5, hl, by simp at hl; omega, by simp at hl; omega, hb⟩)
  have z0 : W1.cell? ⟨W.heap.size, 0, none⟩ = some (.int .i64 k) := by
    have hm := (unhide R0).box (W.heap.size, P) (List.mem_cons_of_mem _ List.mem_cons_self)
    rw [← hP] at hm
    exact Go.Lib.cell_of_heap hm.1 0
  obtain ⟨y0, y1, y2, y3, y4, y5, y6, y7, y8, bel⟩ := (unhide HMC) _ _ _ _ _ (unhide R0) List.mem_cons_self
  rw [← hP, ← hP2] at hW1
  have HB1 := hide bel
  have HP := hide hP
  have HP2 := hide hP2
  clear bel hown hP hP2
  go_enter Try.func33, Try.ntmps33
  go_wp2_with fail
  refine ((unhide HBR) _).mono ?_
  rintro e wx ⟨rfl, hwx⟩; rw [hwx]; clear hwx wx HBR hW1
  obtain ⟨g, hg⟩ : ∃ g, W.heap.size + 1 = g := ⟨_, rfl⟩
  rw [hg] at HMC R0 y0 y1 y2 y3 y4 y5 y6 y7 y8 ⊢
  clear hg
  cases bb
  · go_wp2_with fail
    refine ((unhide HREC) v n xs W1 (unhide HB1) (unhide R0).own (by omega)).mono ?_
    rintro e w2 ⟨v2, rfl, o2, k2⟩
    have R2 := hide ((unhide R0).call o2 k2)
    clear o2 k2
    go_wp2_with fail
    go_ret
    exact ⟨v2, rfl, (unhide R2).own, (unhide R2).gw⟩
  · have Rc := hide (unhide R0).drew
    obtain ⟨_, _, _, _, _, _, _, _, _, bel⟩ := (unhide HMC) _ _ _ _ _ (unhide Rc) List.mem_cons_self
    have HB1 := hide bel
    clear bel R0
    go_wp2_with fail
    go_region_law (first | (refine step_sl rfl (.tmp 23) (.tmp 24) rfl rfl (by first | exact unhide Rc | exact (unhide Rc).lay _ | exact (unhide Rc).lay2 _ _) [40] _ _ rfl (by first | exact RowS.newsB ((unhide Rc).lay _) [40] List.mem_cons_self | exact RowS.newsB ((unhide Rc).lay _) [40] (List.mem_cons_of_mem _ List.mem_cons_self) | exact RowS.newsB ((unhide Rc).lay _) [40] (List.mem_cons_of_mem _ (List.mem_cons_of_mem _ List.mem_cons_self)) | exact RowS.newsB ((unhide Rc).lay2 _ _) [40] List.mem_cons_self | exact RowS.newsB ((unhide Rc).lay2 _ _) [40] (List.mem_cons_of_mem _ List.mem_cons_self) | exact RowS.newsB ((unhide Rc).lay2 _ _) [40] (List.mem_cons_of_mem _ (List.mem_cons_of_mem _ List.mem_cons_self)) | exact RowS.newsB (unhide Rc) [40] List.mem_cons_self | exact RowS.newsB (unhide Rc) [40] (List.mem_cons_of_mem _ List.mem_cons_self) | exact RowS.newsB (unhide Rc) [40] (List.mem_cons_of_mem _ (List.mem_cons_of_mem _ List.mem_cons_self))) (by simp; omega) ?_; intro v' w3 R'; obtain ⟨y0, y1, y2, y3, y4, y5, y6, y7, y8, bel⟩ := (unhide HMC) _ _ _ _ _ R' (by first | exact List.mem_cons_self | exact List.mem_cons_of_mem _ List.mem_cons_self | exact List.mem_cons_of_mem _ (List.mem_cons_of_mem _ List.mem_cons_self)); have HB1 := hide bel; clear bel; have Rc := hide R'; clear R') | (refine step_sl rfl (.tmp 27) (.tmp 28) rfl rfl (by first | exact unhide Rc | exact (unhide Rc).lay _ | exact (unhide Rc).lay2 _ _) [41] _ _ rfl (by first | exact RowS.newsB ((unhide Rc).lay _) [41] List.mem_cons_self | exact RowS.newsB ((unhide Rc).lay _) [41] (List.mem_cons_of_mem _ List.mem_cons_self) | exact RowS.newsB ((unhide Rc).lay _) [41] (List.mem_cons_of_mem _ (List.mem_cons_of_mem _ List.mem_cons_self)) | exact RowS.newsB ((unhide Rc).lay2 _ _) [41] List.mem_cons_self | exact RowS.newsB ((unhide Rc).lay2 _ _) [41] (List.mem_cons_of_mem _ List.mem_cons_self) | exact RowS.newsB ((unhide Rc).lay2 _ _) [41] (List.mem_cons_of_mem _ (List.mem_cons_of_mem _ List.mem_cons_self)) | exact RowS.newsB (unhide Rc) [41] List.mem_cons_self | exact RowS.newsB (unhide Rc) [41] (List.mem_cons_of_mem _ List.mem_cons_self) | exact RowS.newsB (unhide Rc) [41] (List.mem_cons_of_mem _ (List.mem_cons_of_mem _ List.mem_cons_self))) (by simp; omega) ?_; intro v' w5 R'; obtain ⟨y0, y1, y2, y3, y4, y5, y6, y7, y8, bel⟩ := (unhide HMC) _ _ _ _ _ R' (by first | exact List.mem_cons_self | exact List.mem_cons_of_mem _ List.mem_cons_self | exact List.mem_cons_of_mem _ (List.mem_cons_of_mem _ List.mem_cons_self)); have HB1 := hide bel; clear bel; have Rc := hide R'; clear R') | (go_simp; go_at_call 19; refine ((unhide HREC) _ _ _ _ (by first | exact unhide HB1 | exact (unhide HB1).alloc (unhide HB1).size _ | exact ((unhide HB1).alloc (unhide HB1).size _).alloc (by simp; exact Nat.le_succ_of_le (unhide HB1).size) _) (by first | exact (unhide Rc).own | exact ((unhide Rc).lay _).own | exact ((unhide Rc).lay2 _ _).own) (by simp; omega)).mono ?_; rintro e w4 ⟨v', rfl, o', k'⟩; (first | (have R' := (unhide Rc).call o' k') | (have R' := ((unhide Rc).lay _).call o' k') | (have R' := ((unhide Rc).lay2 _ _).call o' k')); clear o' k'; obtain ⟨y0, y1, y2, y3, y4, y5, y6, y7, y8, bel⟩ := (unhide HMC) _ _ _ _ _ R' (by first | exact List.mem_cons_self | exact List.mem_cons_of_mem _ List.mem_cons_self | exact List.mem_cons_of_mem _ (List.mem_cons_of_mem _ List.mem_cons_self)); have HB1 := hide bel; clear bel; have Rc := hide R'; clear R'))
    all_goals (
      go_wp2_with fail
      go_ret
      refine ⟨v', rfl, ?_, (unhide Rc).gw⟩
      unfold brk
      rw [if_pos rfl, show n + (40 :: (T ++ [41])).length = n + [(40 : UInt8)].length + T.length + [(41 : UInt8)].length by simp; omega, show xs ++ 40 :: (T ++ [41]) = xs ++ [40] ++ T ++ [41] by simp]
      exact (unhide Rc).own)
end Go.Proofs.Ytmhjfiaohbioeaa
