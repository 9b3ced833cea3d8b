/- How the program writes expressions: one of two. -/
import Derived.Test.YtmhjfiaohbioeaaJf
namespace Go.Proofs.Ytmhjfiaohbioeaa
open Go.RowKit Kb Pop
set_option linter.unusedVariables false
set_option maxRecDepth 20000

set_option maxHeartbeats 4000000 in
theorem ar_alt (a b : Ex) (ha : AR a) (hb : AR b) : AR (.alt a b) := by
    intro w0 rv v n xs W hV hB hown hn
    obtain ⟨t, ht, hkd⟩ := hV.val
    obtain ⟨o, c, rfl, _⟩ := hkd.form
    simp only [Ex.nodes] at hn
    have la := tx_len a
    have lb := tx_len b
    have HK0 := hide (fun v n xs W bb o l => kid_any a ha w0 5 (by omega) noSet [a.rx, b.rx] 0 (by omega) rfl rv hV v n xs W bb o l)
    have HK1 := hide (fun v n xs W bb o l => kid_any b hb w0 5 (by omega) noSet [a.rx, b.rx] 1 (by omega) rfl rv hV v n xs W bb o l)
    have l0 := brk_len (bra 5 0 a.kind) a.tx
    have l1 := brk_len (bra 5 1 b.kind) b.tx
    show Calls _ _ _ _ (fun e w' => ∃ v', e = .returned v' ∧ w'.ownsRow w0.heap.size 5 1 v' (n + (brk (bra 5 0 a.kind) a.tx ++ 124 :: brk (bra 5 1 b.kind) b.tx).length) (cells (xs ++ (brk (bra 5 0 a.kind) a.tx ++ 124 :: brk (bra 5 1 b.kind) b.tx))) ∧ Gw w0.heap.size W w' v v')
    obtain ⟨T0, hT0⟩ : ∃ T, brk (bra 5 0 a.kind) a.tx = T := ⟨_, rfl⟩
    obtain ⟨T1, hT1⟩ : ∃ T, brk (bra 5 1 b.kind) b.tx = T := ⟨_, rfl⟩
    rw [hT0] at HK0 l0 ⊢
    rw [hT1] at HK1 l1 ⊢
    clear hT0 hT1
    subst ht
    unfold rexV at *
    simp only [Ex.rx, Rx.k, Rx.s, Rx.ks, noSet, List.length_cons, List.length_nil, Nat.zero_add, Nat.reduceAdd] at *
    obtain ⟨P, hP⟩ : ∃ P, Obj.cells #[.int .i64 5, .int .u64 0, .int .u64 0, .int .u64 0, .int .u64 0, .slice o 2 c] 27 = P := ⟨_, rfl⟩
    have R0 := hide ((RowS.start hown hB.size).lay P)
    obtain ⟨W1, hW1⟩ : ∃ W1, W.alloc P = W1 := ⟨_, rfl⟩
    rw [hW1] at R0
    have HMC : Hid (∀ (L : List (Nat × Obj)) (n : Nat) (xs : List UInt8) (W' : World) (y : Value), RowS w0.heap.size W v L n xs W' y → (W.heap.size, P) ∈ L → W'.cell? ⟨W.heap.size, 0, none⟩ = some (.int .i64 5) ∧ W'.cell? ⟨W.heap.size, 1, none⟩ = some (.int .u64 0) ∧ W'.cell? ⟨W.heap.size, 2, none⟩ = some (.int .u64 0) ∧ W'.cell? ⟨W.heap.size, 3, none⟩ = some (.int .u64 0) ∧ W'.cell? ⟨W.heap.size, 4, none⟩ = some (.int .u64 0) ∧ W'.cell? ⟨W.heap.size, 5, none⟩ = some (.slice o 2 c) ∧ W.heap.size < W'.heap.size ∧ ¬ W.heap.size = W'.heap.size ∧ ¬ W.heap.size = W'.heap.size + 1 ∧ Below w0.heap.size w0 W') := hide (fun L n xs W' y R hm => by
      have hl := lt_of_some (R.box _ hm).1
      have hb := hB.trans R.gw.1
      rw [← hP] at hm
      exact ⟨R.cell hm 0, R.cell hm 1, R.cell hm 2, R.cell hm 3, R.cell hm 4, R.cell hm 5, hl, by simp at hl; omega, by simp at hl; omega, hb⟩)
    obtain ⟨y0, y1, y2, y3, y4, y5, y6, y7, y8, bel⟩ := (unhide HMC) _ _ _ _ _ (unhide R0) List.mem_cons_self
    rw [← hP] at hW1
    have HB1 := hide bel
    have HP := hide hP
    clear bel hown hP hV hkd
    go_enter Try.func19, Try.ntmps19
    go_wp2_with fail
    clear hW1
    obtain ⟨g, hg⟩ : ∃ g, W.heap.size = g := ⟨_, rfl⟩
    rw [hg] at HMC R0 y0 y1 y2 y3 y4 y5 y6 y7 y8 ⊢
    clear hg
    have Rc := hide (unhide R0).drew
    obtain ⟨_, _, _, _, _, _, _, _, _, bel⟩ := (unhide HMC) _ _ _ _ _ (unhide Rc) List.mem_cons_self
    have HB1 := hide bel
    clear bel R0
    go_region_law (first | (refine step_sl rfl (.tmp 45) (.tmp 46) rfl rfl (by first | exact unhide Rc | exact (unhide Rc).lay _ | exact (unhide Rc).lay2 _ _) [124] _ _ rfl (by first | exact RowS.newsB ((unhide Rc).lay _) [124] List.mem_cons_self | exact RowS.newsB ((unhide Rc).lay _) [124] (List.mem_cons_of_mem _ List.mem_cons_self) | exact RowS.newsB ((unhide Rc).lay _) [124] (List.mem_cons_of_mem _ (List.mem_cons_of_mem _ List.mem_cons_self)) | exact RowS.newsB ((unhide Rc).lay2 _ _) [124] List.mem_cons_self | exact RowS.newsB ((unhide Rc).lay2 _ _) [124] (List.mem_cons_of_mem _ List.mem_cons_self) | exact RowS.newsB ((unhide Rc).lay2 _ _) [124] (List.mem_cons_of_mem _ (List.mem_cons_of_mem _ List.mem_cons_self)) | exact RowS.newsB (unhide Rc) [124] List.mem_cons_self | exact RowS.newsB (unhide Rc) [124] (List.mem_cons_of_mem _ List.mem_cons_self) | exact RowS.newsB (unhide Rc) [124] (List.mem_cons_of_mem _ (List.mem_cons_of_mem _ List.mem_cons_self))) (by simp; omega) ?_; intro v' w3 R'; obtain ⟨y0, y1, y2, y3, y4, y5, y6, y7, y8, bel⟩ := (unhide HMC) _ _ _ _ _ R' (by first | exact List.mem_cons_self | exact List.mem_cons_of_mem _ List.mem_cons_self | exact List.mem_cons_of_mem _ (List.mem_cons_of_mem _ List.mem_cons_self)); have HB1 := hide bel; clear bel; have Rc := hide R'; clear R') | (go_simp; go_at_call 33; refine ((unhide HK0) _ _ _ _ (by first | exact unhide HB1 | exact (unhide HB1).alloc (unhide HB1).size _ | exact ((unhide HB1).alloc (unhide HB1).size _).alloc (by simp; exact Nat.le_succ_of_le (unhide HB1).size) _) (by first | exact (unhide Rc).own | exact ((unhide Rc).lay _).own | exact ((unhide Rc).lay2 _ _).own) (by simp; omega)).mono ?_; rintro e w2 ⟨v', rfl, o', k'⟩; (first | (have R' := (unhide Rc).call o' k') | (have R' := ((unhide Rc).lay _).call o' k') | (have R' := ((unhide Rc).lay2 _ _).call o' k')); clear o' k' HK0; obtain ⟨y0, y1, y2, y3, y4, y5, y6, y7, y8, bel⟩ := (unhide HMC) _ _ _ _ _ R' (by first | exact List.mem_cons_self | exact List.mem_cons_of_mem _ List.mem_cons_self | exact List.mem_cons_of_mem _ (List.mem_cons_of_mem _ List.mem_cons_self)); have HB1 := hide bel; clear bel; have Rc := hide R'; clear R') | (go_simp; go_at_call 33; refine ((unhide HK1) _ _ _ _ (by first | exact unhide HB1 | exact (unhide HB1).alloc (unhide HB1).size _ | exact ((unhide HB1).alloc (unhide HB1).size _).alloc (by simp; exact Nat.le_succ_of_le (unhide HB1).size) _) (by first | exact (unhide Rc).own | exact ((unhide Rc).lay _).own | exact ((unhide Rc).lay2 _ _).own) (by simp; omega)).mono ?_; rintro e w4 ⟨v', rfl, o', k'⟩; (first | (have R' := (unhide Rc).call o' k') | (have R' := ((unhide Rc).lay _).call o' k') | (have R' := ((unhide Rc).lay2 _ _).call o' k')); clear o' k'; obtain ⟨y0, y1, y2, y3, y4, y5, y6, y7, y8, bel⟩ := (unhide HMC) _ _ _ _ _ R' (by first | exact List.mem_cons_self | exact List.mem_cons_of_mem _ List.mem_cons_self | exact List.mem_cons_of_mem _ (List.mem_cons_of_mem _ List.mem_cons_self)); have HB1 := hide bel; clear bel; have Rc := hide R'; clear R'))
    all_goals (
      go_wp2_with fail
      go_ret
      refine ⟨v', rfl, ?_, (unhide Rc).gw⟩
      rw [show n + (T0 ++ 124 :: T1).length = n + T0.length + [(124 : UInt8)].length + T1.length by simp; omega, show xs ++ (T0 ++ 124 :: T1) = xs ++ T0 ++ [124] ++ T1 by simp]
      exact (unhide Rc).own)
end Go.Proofs.Ytmhjfiaohbioeaa
