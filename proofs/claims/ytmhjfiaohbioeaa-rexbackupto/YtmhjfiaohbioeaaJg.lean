/- How the program writes expressions: appendRex, Print. -/
import Derived.Test.YtmhjfiaohbioeaaJf
namespace Go.Proofs.Ytmhjfiaohbioeaa
open Go.RowKit Kb Pop
set_option linter.unusedVariables false
set_option maxRecDepth 20000

set_option maxHeartbeats 1000000 in
theorem ar_none : AR .none := by
    intro w0 rv v n xs W hV hB hown hn
    obtain ⟨t, rfl, hkd⟩ := hV.val
    obtain ⟨o, c, rfl, _⟩ := hkd.form
    simp only [Ex.nodes] at hn
    unfold rexV
    simp only [Ex.rx, Ex.tx, Rx.k, Rx.s, Rx.ks, noSet, List.length_nil] at *
    have R := hide ((RowS.start hown hB.size).alloc (.cells #[.int .i64 1, .int .u64 0, .int .u64 0, .int .u64 0, .int .u64 0, .slice o 0 c] 27))
    clear hown
    go_enter Try.func19, Try.ntmps19
    go_wp2_with (at_builtin; go_must (refine app_str rfl _ _ rfl rfl (unhide R) [91, 94, 92, 120, 48, 48, 45, 92, 120, 102, 102, 93] rfl (by decide) (by simp; omega) ?_); intro v1 w1 R1)
    go_ret
    exact ⟨v1, rfl, R1.own, R1.gw⟩
set_option maxHeartbeats 1000000 in
theorem ar_emp : AR .emp := by
    intro w0 rv v n xs W hV hB hown hn
    obtain ⟨t, rfl, hkd⟩ := hV.val
    obtain ⟨o, c, rfl, _⟩ := hkd.form
    simp only [Ex.nodes] at hn
    unfold rexV
    simp only [Ex.rx, Ex.tx, Rx.k, Rx.s, Rx.ks, noSet, List.length_nil] at *
    have R := hide ((RowS.start hown hB.size).alloc (.cells #[.int .i64 2, .int .u64 0, .int .u64 0, .int .u64 0, .int .u64 0, .slice o 0 c] 27))
    clear hown
    go_enter Try.func19, Try.ntmps19
    go_wp2_with fail
    go_ret
    exact ⟨v, rfl, by simpa using (unhide R).own, (unhide R).gw⟩
set_option maxHeartbeats 1000000 in
theorem ar_beg : AR .beg := by
    intro w0 rv v n xs W hV hB hown hn
    obtain ⟨t, rfl, hkd⟩ := hV.val
    obtain ⟨o, c, rfl, _⟩ := hkd.form
    simp only [Ex.nodes] at hn
    unfold rexV
    simp only [Ex.rx, Ex.tx, Rx.k, Rx.s, Rx.ks, noSet, List.length_nil] at *
    have R := hide ((RowS.start hown hB.size).lay2 (.cells #[.int .i64 7, .int .u64 0, .int .u64 0, .int .u64 0, .int .u64 0, .slice o 0 c] 27) (.cells #[.int .u8 94] 5))
    clear hown
    go_enter Try.func19, Try.ntmps19
    go_wp2_with (at_builtin; refine app_sl rfl _ _ rfl rfl (unhide R) [94] _ _ rfl (RowS.newsB (unhide R) [94] List.mem_cons_self) (by simp; omega) ?_; intro v1 w1 R1)
    go_ret
    exact ⟨v1, rfl, R1.own, R1.gw⟩
set_option maxHeartbeats 1000000 in
theorem ar_en : AR .en := by
    intro w0 rv v n xs W hV hB hown hn
    obtain ⟨t, rfl, hkd⟩ := hV.val
    obtain ⟨o, c, rfl, _⟩ := hkd.form
    simp only [Ex.nodes] at hn
    unfold rexV
    simp only [Ex.rx, Ex.tx, Rx.k, Rx.s, Rx.ks, noSet, List.length_nil] at *
    have R := hide ((RowS.start hown hB.size).lay2 (.cells #[.int .i64 8, .int .u64 0, .int .u64 0, .int .u64 0, .int .u64 0, .slice o 0 c] 27) (.cells #[.int .u8 36] 5))
    clear hown
    go_enter Try.func19, Try.ntmps19
    go_wp2_with (at_builtin; refine app_sl rfl _ _ rfl rfl (unhide R) [36] _ _ rfl (RowS.newsB (unhide R) [36] List.mem_cons_self) (by simp; omega) ?_; intro v1 w1 R1)
    go_ret
    exact ⟨v1, rfl, R1.own, R1.gw⟩
set_option maxHeartbeats 1000000 in
theorem ar_byte (s : Se) : AR (.byte s) := by
    intro w0 rv v n xs W hV hB hown hn
    obtain ⟨t, rfl, hkd⟩ := hV.val
    obtain ⟨o, c, rfl, _⟩ := hkd.form
    simp only [Ex.nodes] at hn
    unfold rexV
    simp only [Ex.rx, Ex.tx, Rx.k, Rx.s, Rx.ks, List.length_nil] at *
    have hf := hV.fit
    have R := hide ((RowS.start hown hB.size).alloc (.cells #[.int .i64 3, .int .u64 s.a, .int .u64 s.b, .int .u64 s.c, .int .u64 s.d, .slice o 0 c] 27))
    have HS := hide (as_any v n w0.heap.size xs s _ hf.2 (unhide R).hB (by omega) (unhide R).own 256 rfl)
    obtain ⟨T, hT⟩ : ∃ T, setT (bit s) 256 = T := ⟨_, rfl⟩
    rw [hT] at HS ⊢
    clear hown hT hV hf
    obtain ⟨s1, s2, s3, s4⟩ := s
    unfold setV at HS
    dsimp only at *
    go_enter Try.func19, Try.ntmps19
    go_wp2_with fail
    refine (unhide HS).mono ?_
    rintro e w2 ⟨v2, rfl, o2, k2⟩
    have R2 := hide ((unhide R).call o2 k2)
    clear o2 k2
    go_wp2_with fail
    go_ret
    exact ⟨v2, rfl, (unhide R2).own, (unhide R2).gw⟩
set_option maxHeartbeats 4000000 in
theorem ar_star (a : Ex) (ha : AR a) : AR (.star a) := by
    intro w0 rv v n xs W hV hB hown hn
    obtain ⟨t, ht, hkd⟩ := hV.val
    obtain ⟨o, c, rfl, _⟩ := hkd.form
    simp only [Ex.nodes] at hn
    have la := tx_len a
    have HK := hide (fun v n xs W b o l => kid_any a ha w0 6 (by omega) noSet [a.rx] 0 (by omega) rfl rv hV v n xs W b o l)
    obtain ⟨T, hT⟩ : ∃ T, brk (bra 6 0 a.kind) a.tx = T := ⟨_, rfl⟩
    have lb := brk_len (bra 6 0 a.kind) a.tx
    show Calls _ _ _ _ (fun e w' => ∃ v', e = .returned v' ∧ w'.ownsRow w0.heap.size 5 1 v' (n + (brk (bra 6 0 a.kind) a.tx ++ [42]).length) (cells (xs ++ (brk (bra 6 0 a.kind) a.tx ++ [42]))) ∧ Gw w0.heap.size W w' v v')
    rw [hT] at HK lb ⊢
    clear hT
    subst ht
    unfold rexV at *
    simp only [Ex.rx, Rx.k, Rx.s, Rx.ks, noSet, List.length_cons, List.length_nil, Nat.zero_add] at *
    obtain ⟨P, hP⟩ : ∃ P, Obj.cells #[.int .i64 6, .int .u64 0, .int .u64 0, .int .u64 0, .int .u64 0, .slice o 1 c] 27 = P := ⟨_, rfl⟩
    have R0 := hide ((RowS.start hown hB.size).lay P)
    obtain ⟨W1, hW1⟩ : ∃ W1, W.alloc P = W1 := ⟨_, rfl⟩
    rw [hW1] at R0
    have HMC : Hid (∀ (L : List (Nat × Obj)) (n : Nat) (xs : List UInt8) (W' : World) (y : Value), RowS w0.heap.size W v L n xs W' y → (W.heap.size, P) ∈ L → W'.cell? ⟨W.heap.size, 0, none⟩ = some (.int .i64 6) ∧ W'.cell? ⟨W.heap.size, 1, none⟩ = some (.int .u64 0) ∧ W'.cell? ⟨W.heap.size, 2, none⟩ = some (.int .u64 0) ∧ W'.cell? ⟨W.heap.size, 3, none⟩ = some (.int .u64 0) ∧ W'.cell? ⟨W.heap.size, 4, none⟩ = some (.int .u64 0) ∧ W'.cell? ⟨W.heap.size, 5, none⟩ = some (.slice o 1 c) ∧ W.heap.size < W'.heap.size ∧ ¬ W.heap.size = W'.heap.size ∧ ¬ W.heap.size = W'.heap.size + 1 ∧ Below w0.heap.size w0 W') := hide (fun L n xs W' y R hm => by
      have hl := lt_of_some (R.box _ hm).1
      have hb := hB.trans R.gw.1
      rw [← hP] at hm
      exact ⟨R.cell hm 0, R.cell hm 1, R.cell hm 2, R.cell hm 3, R.cell hm 4, R.cell hm 5, hl, by simp at hl; omega, by simp at hl; omega, hb⟩)
    obtain ⟨y0, y1, y2, y3, y4, y5, y6, y7, y8, bel⟩ := (unhide HMC) _ _ _ _ _ (unhide R0) List.mem_cons_self
    rw [← hP] at hW1
    have HB1 := hide bel
    have HP := hide hP
    clear bel hown hP hV hkd
    go_enter Try.func19, Try.ntmps19
    go_wp2_with fail
    clear hW1
    refine ((unhide HK) v n xs W1 (unhide HB1) (unhide R0).own (by omega)).mono ?_
    rintro e w2 ⟨v2, rfl, o2, k2⟩
    have R2 := hide ((unhide R0).call o2 k2)
    clear o2 k2
    go_wp2_with (at_builtin; refine app_sl rfl _ _ rfl rfl ((unhide R2).alloc _) [42] _ _ rfl (cell_one_new _ _ _) (by simp; omega) ?_; intro v3 w3 R3)
    go_ret
    refine ⟨v3, rfl, ?_, R3.gw⟩
    rw [show n + (T ++ [(42 : UInt8)]).length = n + T.length + [(42 : UInt8)].length by simp; omega, show xs ++ (T ++ [(42 : UInt8)]) = xs ++ T ++ [42] by simp]
    exact R3.own
end Go.Proofs.Ytmhjfiaohbioeaa
