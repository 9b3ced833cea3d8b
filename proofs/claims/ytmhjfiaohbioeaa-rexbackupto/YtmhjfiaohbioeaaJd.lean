/- How the program writes sets: appendSet. -/
import Derived.Test.YtmhjfiaohbioeaaJc
import Derived.Test.YtmhjfiaohbioeaaHk
namespace Go.Proofs.Ytmhjfiaohbioeaa
open Go.RowKit Kb Pop
set_option linter.unusedVariables false
set_option maxRecDepth 20000

theorem bits_ext {s t : Se} (hs : FitS s) (ht : FitS t) (h : ∀ j, j < 256 → bit s j = bit t j) : s = t := by
  have hw : ∀ i, i < 4 → wordS s i = wordS t i := by
    intro i hi
    have h1 := wordS_fit hs i hi
    have h2 := wordS_fit ht i hi
    have : (wordS s i).toNat = (wordS t i).toNat := by
      apply Nat.eq_of_testBit_eq
      intro j
      by_cases hj : j < 64
      · have := h (64 * i + j) (by omega)
        rw [bit_word s i hi j hj, bit_word t i hi j hj] at this
        exact this
      · have e : ∀ n : Nat, n < 18446744073709551616 → n.testBit j = false := fun n hn => Nat.testBit_lt_two_pow (Nat.lt_of_lt_of_le (by omega : n < 2 ^ 64) (Nat.pow_le_pow_right (by omega) (by omega)))
        rw [e _ (by omega), e _ (by omega)]
    omega
  have h0 := hw 0 (by omega)
  have h1 := hw 1 (by omega)
  have h2 := hw 2 (by omega)
  have h3 := hw 3 (by omega)
  obtain ⟨a, b, c, d⟩ := s
  obtain ⟨a', b', c', d'⟩ := t
  simp only [wordS] at h0 h1 h2 h3
  rw [h0, h1, h2, h3]
theorem abn_iff {s t : Se} (hs : FitS s) (ht : FitS t) (h : ∀ j, j < 256 → bit t j = decide (j ≠ 10)) : s = t ↔ (cntS s = 255 ∧ bit s 10 = false) := by
  have hc : cntN (fun j => decide (j ≠ 10)) 256 = 255 := by decide +kernel
  constructor
  · rintro rfl
    refine ⟨?_, by rw [h 10 (by omega)]; rfl⟩
    unfold cntS
    rw [cntN_congr h, hc]
  · rintro ⟨h1, h2⟩
    refine bits_ext hs ht fun j hj => ?_
    rw [h j hj]
    have hn := cntN_not (bit s) 256
    unfold cntS at h1
    have := cntN_one (p := fun j => !bit s j) (n := 256) (a := 10) (by omega) (by simp [h2]) (by omega) j hj
    by_cases e : j = 10
    · subst e; rw [h2]; rfl
    · rw [decide_eq_false e] at this
      rw [decide_eq_true e]
      simpa using this
theorem itemsP_congr {p q : Nat → Bool} (h : ∀ j, j < 256 → p j = q j) : itemsP p 256 = itemsP q 256 := by
  have hl : ∀ n l, 255 - l ≤ n → lastR p l = lastR q l := by
    intro n
    induction n with
    | zero => intro l hn; rw [lastR_stop (by omega), lastR_stop (by omega)]
    | succ n ih =>
      intro l hn
      by_cases hc : l < 255 ∧ p (l + 1) = true
      · rw [lastR_go hc.1 hc.2, lastR_go hc.1 (by rw [← h _ (by omega)]; exact hc.2), ih _ (by omega)]
      · rw [lastR_stop hc, lastR_stop (fun hq => hc ⟨hq.1, by rw [h _ (by omega)]; exact hq.2⟩)]
  have : ∀ b, b ≤ 256 → itemsP p b = itemsP q b := by
    intro b
    induction b with
    | zero => intro _; rfl
    | succ b ih =>
      intro hb
      rw [itemsP, itemsP, ih (by omega)]
      have e1 : heads p b = heads q b := by unfold heads; rw [h b (by omega), h (b - 1) (by omega)]
      have e2 : item1 p b = item1 q b := by unfold item1; rw [hl 255 b (by omega)]
      rw [e1, e2]
  exact this 256 (by omega)
theorem items_not {s : Se} (h : FitS s) : itemsP (bit (notS s)) 256 = itemsP (fun b => !bit s b) 256 := itemsP_congr fun j hj => notS_bit h j hj
set_option maxHeartbeats 8000000 in
theorem as_any (v : Value) (n B : Nat) (xs : List UInt8) (s : Se) (w : World) (hf : FitS s) (hB : B ≤ w.heap.size) (hn : n ≤ 800000000000) (hown : w.ownsRow B 5 1 v n (cells xs)) (N : Nat) (hN : N = 256) :
    Calls Try.prog 32 #[v, setV s] w fun e w' => ∃ v', e = .returned v' ∧ w'.ownsRow B 5 1 v' (n + (setT (bit s) N).length) (cells (xs ++ setT (bit s) N)) ∧ Gw B w w' v v' := by
  have HSZ := hide (fun W => size_any s W hf)
  have HIT := hide (fun (v : Value) (n : Nat) (xs : List UInt8) (W : World) (h1 : B ≤ W.heap.size) h3 (h2 : n ≤ 900000000000) => ais_any v n B xs s W hf h1 h2 h3 256 rfl)
  have HIN := hide (fun (v : Value) (n : Nat) (xs : List UInt8) (W : World) (h1 : B ≤ W.heap.size) h3 (h2 : n ≤ 900000000000) => ais_any v n B xs (notS s) W (notS_fit hf) h1 h2 h3 256 rfl)
  have HOT := hide (fun W => others_any s W hf)
  have HAB := hide (fun W => abn_any W)
  have hl1 := itemsP_len (bit s) 256
  have hl2 := itemsP_len (bit (notS s)) 256
  have HST : Hid (setT (bit s) N = if cntS s = 1 then itemsP (bit s) 256 else if cntS s = 255 ∧ bit s 10 = false then [46] else if 128 < cntS s ∧ cntS s < 256 then 91 :: 94 :: (itemsP (bit (notS s)) 256 ++ [93]) else 91 :: (itemsP (bit s) 256 ++ [93])) := hide (by rw [hN, items_not hf]; rfl)
  have HEQ : Hid (∀ t, FitS t → (∀ j, j < 256 → bit t j = decide (j ≠ 10)) → (s = t ↔ (cntS s = 255 ∧ bit s 10 = false))) := hide (fun t h1 h2 => abn_iff hf h1 h2)
  obtain ⟨T, hT⟩ : ∃ T, setT (bit s) N = T := ⟨_, rfl⟩
  rw [hT] at HST ⊢
  have hcle : cntS s ≤ 256 := cntN_le _ _
  obtain ⟨C, hC⟩ : ∃ C, cntS s = C := ⟨_, rfl⟩
  rw [hC] at HST HEQ HSZ hcle
  obtain ⟨I1, hI1⟩ : ∃ I, itemsP (bit s) 256 = I := ⟨_, rfl⟩
  rw [hI1] at HST HIT hl1
  obtain ⟨I2, hI2⟩ : ∃ I, itemsP (bit (notS s)) 256 = I := ⟨_, rfl⟩
  rw [hI2] at HST HIN hl2
  obtain ⟨q10, hq10⟩ : ∃ q, bit s 10 = q := ⟨_, rfl⟩
  rw [hq10] at HST HEQ
  clear hT hC hI1 hI2 hq10 hN
  have R0 := hide ((RowS.start hown hB).lay (.cells #[.int .u64 s.a, .int .u64 s.b, .int .u64 s.c, .int .u64 s.d] 24))
  obtain ⟨s1, s2, s3, s4⟩ := s
  unfold setV notS at *
  dsimp only at *
  obtain ⟨W0, hW0⟩ : ∃ W0, w.alloc (.cells #[.int .u64 s1, .int .u64 s2, .int .u64 s3, .int .u64 s4] 24) = W0 := ⟨_, rfl⟩
  rw [hW0] at R0
  have z0 : W0.cell? ⟨w.heap.size, 0, none⟩ = some (.int .u64 s1) := (unhide R0).cell List.mem_cons_self 0
  have z1 : W0.cell? ⟨w.heap.size, 1, none⟩ = some (.int .u64 s2) := (unhide R0).cell List.mem_cons_self 1
  have z2 : W0.cell? ⟨w.heap.size, 2, none⟩ = some (.int .u64 s3) := (unhide R0).cell List.mem_cons_self 2
  have z3 : W0.cell? ⟨w.heap.size, 3, none⟩ = some (.int .u64 s4) := (unhide R0).cell List.mem_cons_self 3
  clear hown hf
  go_enter Try.func32, Try.ntmps32
  go_wp2_with fail
  clear hW0
  refine ((unhide HSZ) W0).mono ?_
  rintro e w1 ⟨rfl, b1⟩
  have R1 := hide ((unhide R0).below b1)
  clear b1 R0 HSZ z0 z1 z2 z3
  obtain ⟨g, hg⟩ : ∃ g, w.heap.size = g := ⟨_, rfl⟩
  rw [hg] at R1 ⊢
  clear hg hB
  have c0 : w1.cell? ⟨g, 0, none⟩ = some (.int .u64 s1) := (unhide R1).cell List.mem_cons_self 0
  have c1 : w1.cell? ⟨g, 1, none⟩ = some (.int .u64 s2) := (unhide R1).cell List.mem_cons_self 1
  have c2 : w1.cell? ⟨g, 2, none⟩ = some (.int .u64 s3) := (unhide R1).cell List.mem_cons_self 2
  have c3 : w1.cell? ⟨g, 3, none⟩ = some (.int .u64 s4) := (unhide R1).cell List.mem_cons_self 3
  have HMC : Hid (∀ (L : List (Nat × Obj)) (n : Nat) (xs : List UInt8) (W : World) (y : Value), RowS B w v L n xs W y → (g, Obj.cells #[.int .u64 s1, .int .u64 s2, .int .u64 s3, .int .u64 s4] 24 (0, 0)) ∈ L → W.cell? ⟨g, 0, none⟩ = some (.int .u64 s1) ∧ W.cell? ⟨g, 1, none⟩ = some (.int .u64 s2) ∧ W.cell? ⟨g, 2, none⟩ = some (.int .u64 s3) ∧ W.cell? ⟨g, 3, none⟩ = some (.int .u64 s4) ∧ g < W.heap.size ∧ ¬ g = W.heap.size ∧ ¬ g = W.heap.size + 1) := hide (fun L n xs W y R hm => by
    have hl := lt_of_some (R.box _ hm).1
    exact ⟨R.cell hm 0, R.cell hm 1, R.cell hm 2, R.cell hm 3, hl, by omega, by omega⟩)
  by_cases h1 : C = 1
  · rw [if_pos h1] at HST
    have hb : ((C : Int) == 1) = true := by rw [h1]; rfl
    clear h1
    go_wp2_with fail
    refine ((unhide HIT) v n xs w1 (unhide R1).hB (unhide R1).own (by omega)).mono ?_
    rintro e w2 ⟨v2, rfl, o2, g2⟩
    have R2 := hide ((unhide R1).call o2 g2)
    clear o2 g2
    go_wp2_with fail
    go_ret
    rw [unhide HST]
    exact ⟨v2, rfl, (unhide R2).own, (unhide R2).gw⟩
  rw [if_neg h1] at HST
  have hb : ((C : Int) == 1) = false := by rw [beq_eq_false_iff_ne]; omega
  clear h1
  go_wp2_with fail
  go_region_with (go_at_call 42; refine ((unhide HAB) _).mono ?_; rintro e w2 ⟨t, rfl, ft, ht, b2⟩; have HD := hide ((unhide HEQ) t ft ht); clear ft ht; obtain ⟨t1, t2, t3, t4⟩ := t; have heq := eqSet s1 s2 s3 s4 t1 t2 t3 t4; have R2 := hide (((unhide R1).drew).below b2); clear b2; have d0 : w2.cell? ⟨g, 0, none⟩ = some (.int .u64 s1) := (unhide R2).cell List.mem_cons_self 0; have d1 : w2.cell? ⟨g, 1, none⟩ = some (.int .u64 s2) := (unhide R2).cell List.mem_cons_self 1; have d2 : w2.cell? ⟨g, 2, none⟩ = some (.int .u64 s3) := (unhide R2).cell List.mem_cons_self 2; have d3 : w2.cell? ⟨g, 3, none⟩ = some (.int .u64 s4) := (unhide R2).cell List.mem_cons_self 3; dsimp only; obtain ⟨q, hq⟩ : ∃ q, decide ((⟨s1, s2, s3, s4⟩ : Se) = ⟨t1, t2, t3, t4⟩) = q := ⟨_, rfl⟩; rw [hq] at heq; have HQ := hide hq; clear hq)
  all_goals (
    clear heq HAB HEQ c0 c1 c2 c3 R1
    cases q
    · have hno : ¬ (C = 255 ∧ q10 = false) := fun h => by
        have := unhide HQ
        rw [decide_eq_true ((unhide HD).2 h)] at this
        cases this
      rw [if_neg hno] at HST
      clear HQ HD hno
      have Rc := hide (unhide R2).drew
      obtain ⟨_, _, _, _, e4, e5, e6⟩ := (unhide HMC) _ _ _ _ _ (unhide R2) List.mem_cons_self
      by_cases hA : 128 < C
      · have hAI : (C : Int) > 128 := by omega
        by_cases hZ : C < 256
        · have hZI : (C : Int) < 256 := by omega
          rw [if_pos ⟨hA, hZ⟩] at HST
          go_wp2_with fail
          go_region_law (first | (refine step_sl rfl (.tmp 28) (.tmp 29) rfl rfl (by first | exact unhide Rc | exact (unhide Rc).lay _ | exact (unhide Rc).lay2 _ _) [91, 94] _ _ rfl (by first | exact RowS.newsB ((unhide Rc).lay _) [91, 94] List.mem_cons_self | exact RowS.newsB ((unhide Rc).lay2 _ _) [91, 94] List.mem_cons_self | exact RowS.newsB ((unhide Rc).lay2 _ _) [91, 94] (List.mem_cons_of_mem _ List.mem_cons_self) | exact RowS.newsB (unhide Rc) [91, 94] List.mem_cons_self | exact RowS.newsB (unhide Rc) [91, 94] (List.mem_cons_of_mem _ List.mem_cons_self) | exact RowS.newsB ((unhide Rc).lay _) [91, 94] (List.mem_cons_of_mem _ List.mem_cons_self) | exact RowS.newsB ((unhide Rc).lay _) [91, 94] (List.mem_cons_of_mem _ (List.mem_cons_of_mem _ List.mem_cons_self))) (by simp; omega) ?_; intro v' w3 R'; obtain ⟨e0, e1, e2, e3, e4, e5, e6⟩ := (unhide HMC) _ _ _ _ _ R' (by first | exact List.mem_cons_self | exact List.mem_cons_of_mem _ List.mem_cons_self | exact List.mem_cons_of_mem _ (List.mem_cons_of_mem _ List.mem_cons_self)); have Rc := hide R'; clear R') | (refine step_sl rfl (.tmp 33) (.tmp 34) rfl rfl (by first | exact unhide Rc | exact (unhide Rc).lay _ | exact (unhide Rc).lay2 _ _) [93] _ _ rfl (by first | exact RowS.newsB ((unhide Rc).lay _) [93] List.mem_cons_self | exact RowS.newsB ((unhide Rc).lay2 _ _) [93] List.mem_cons_self | exact RowS.newsB ((unhide Rc).lay2 _ _) [93] (List.mem_cons_of_mem _ List.mem_cons_self) | exact RowS.newsB (unhide Rc) [93] List.mem_cons_self | exact RowS.newsB (unhide Rc) [93] (List.mem_cons_of_mem _ List.mem_cons_self) | exact RowS.newsB ((unhide Rc).lay _) [93] (List.mem_cons_of_mem _ List.mem_cons_self) | exact RowS.newsB ((unhide Rc).lay _) [93] (List.mem_cons_of_mem _ (List.mem_cons_of_mem _ List.mem_cons_self))) (by simp; omega) ?_; intro v' w5 R'; obtain ⟨e0, e1, e2, e3, e4, e5, e6⟩ := (unhide HMC) _ _ _ _ _ R' (by first | exact List.mem_cons_self | exact List.mem_cons_of_mem _ List.mem_cons_self | exact List.mem_cons_of_mem _ (List.mem_cons_of_mem _ List.mem_cons_self)); have Rc := hide R'; clear R') | (go_simp; go_at_call 41; refine ((unhide HIN) _ _ _ _ (by first | exact (unhide Rc).hB | exact ((unhide Rc).lay _).hB | exact ((unhide Rc).lay2 _ _).hB) (by first | exact (unhide Rc).own | exact ((unhide Rc).lay _).own | exact ((unhide Rc).lay2 _ _).own) (by simp; omega)).mono ?_; rintro e w4 ⟨v', rfl, o', k'⟩; (first | (have R' := (unhide Rc).call o' k') | (have R' := ((unhide Rc).lay _).call o' k') | (have R' := ((unhide Rc).lay2 _ _).call o' k')); clear o' k'; obtain ⟨e0, e1, e2, e3, e4, e5, e6⟩ := (unhide HMC) _ _ _ _ _ R' (by first | exact List.mem_cons_self | exact List.mem_cons_of_mem _ List.mem_cons_self | exact List.mem_cons_of_mem _ (List.mem_cons_of_mem _ List.mem_cons_self)); have Rc := hide R'; clear R') | (go_simp; go_at_call 43; refine ((unhide HOT) _).mono ?_; rintro e w6 ⟨rfl, b'⟩; (first | (have R' := (unhide Rc).below b') | (have R' := ((unhide Rc).lay _).below b') | (have R' := ((unhide Rc).lay2 _ _).below b')); clear b'; obtain ⟨e0, e1, e2, e3, e4, e5, e6⟩ := (unhide HMC) _ _ _ _ _ R' (by first | exact List.mem_cons_self | exact List.mem_cons_of_mem _ List.mem_cons_self | exact List.mem_cons_of_mem _ (List.mem_cons_of_mem _ List.mem_cons_self)); have Rc := hide R'; clear R'))
          all_goals (
            go_wp2_with fail
            go_ret
            rw [unhide HST]
            refine ⟨v', rfl, ?_, (unhide Rc).gw⟩
            rw [show n + (91 :: 94 :: (I2 ++ [93])).length = n + [(91 : UInt8), 94].length + I2.length + [(93 : UInt8)].length by simp; omega, show xs ++ 91 :: 94 :: (I2 ++ [93]) = xs ++ [91, 94] ++ I2 ++ [93] by simp]
            exact (unhide Rc).own)
        · have hZI : ¬ ((C : Int) < 256) := by omega
          rw [if_neg (fun h => hZ h.2)] at HST
          go_wp2_with fail
          go_region_law (first | (refine step_sl rfl (.tmp 36) (.tmp 37) rfl rfl (by first | exact unhide Rc | exact (unhide Rc).lay _ | exact (unhide Rc).lay2 _ _) [91] _ _ rfl (by first | exact RowS.newsB ((unhide Rc).lay _) [91] List.mem_cons_self | exact RowS.newsB ((unhide Rc).lay2 _ _) [91] List.mem_cons_self | exact RowS.newsB ((unhide Rc).lay2 _ _) [91] (List.mem_cons_of_mem _ List.mem_cons_self) | exact RowS.newsB (unhide Rc) [91] List.mem_cons_self | exact RowS.newsB (unhide Rc) [91] (List.mem_cons_of_mem _ List.mem_cons_self) | exact RowS.newsB ((unhide Rc).lay _) [91] (List.mem_cons_of_mem _ List.mem_cons_self) | exact RowS.newsB ((unhide Rc).lay _) [91] (List.mem_cons_of_mem _ (List.mem_cons_of_mem _ List.mem_cons_self))) (by simp; omega) ?_; intro v' w3 R'; obtain ⟨e0, e1, e2, e3, e4, e5, e6⟩ := (unhide HMC) _ _ _ _ _ R' (by first | exact List.mem_cons_self | exact List.mem_cons_of_mem _ List.mem_cons_self | exact List.mem_cons_of_mem _ (List.mem_cons_of_mem _ List.mem_cons_self)); have Rc := hide R'; clear R') | (refine step_sl rfl (.tmp 40) (.tmp 41) rfl rfl (by first | exact unhide Rc | exact (unhide Rc).lay _ | exact (unhide Rc).lay2 _ _) [93] _ _ rfl (by first | exact RowS.newsB ((unhide Rc).lay _) [93] List.mem_cons_self | exact RowS.newsB ((unhide Rc).lay2 _ _) [93] List.mem_cons_self | exact RowS.newsB ((unhide Rc).lay2 _ _) [93] (List.mem_cons_of_mem _ List.mem_cons_self) | exact RowS.newsB (unhide Rc) [93] List.mem_cons_self | exact RowS.newsB (unhide Rc) [93] (List.mem_cons_of_mem _ List.mem_cons_self) | exact RowS.newsB ((unhide Rc).lay _) [93] (List.mem_cons_of_mem _ List.mem_cons_self) | exact RowS.newsB ((unhide Rc).lay _) [93] (List.mem_cons_of_mem _ (List.mem_cons_of_mem _ List.mem_cons_self))) (by simp; omega) ?_; intro v' w5 R'; obtain ⟨e0, e1, e2, e3, e4, e5, e6⟩ := (unhide HMC) _ _ _ _ _ R' (by first | exact List.mem_cons_self | exact List.mem_cons_of_mem _ List.mem_cons_self | exact List.mem_cons_of_mem _ (List.mem_cons_of_mem _ List.mem_cons_self)); have Rc := hide R'; clear R') | (go_simp; go_at_call 41; refine ((unhide HIT) _ _ _ _ (by first | exact (unhide Rc).hB | exact ((unhide Rc).lay _).hB | exact ((unhide Rc).lay2 _ _).hB) (by first | exact (unhide Rc).own | exact ((unhide Rc).lay _).own | exact ((unhide Rc).lay2 _ _).own) (by simp; omega)).mono ?_; rintro e w4 ⟨v', rfl, o', k'⟩; (first | (have R' := (unhide Rc).call o' k') | (have R' := ((unhide Rc).lay _).call o' k') | (have R' := ((unhide Rc).lay2 _ _).call o' k')); clear o' k'; obtain ⟨e0, e1, e2, e3, e4, e5, e6⟩ := (unhide HMC) _ _ _ _ _ R' (by first | exact List.mem_cons_self | exact List.mem_cons_of_mem _ List.mem_cons_self | exact List.mem_cons_of_mem _ (List.mem_cons_of_mem _ List.mem_cons_self)); have Rc := hide R'; clear R'))
          all_goals (
            go_wp2_with fail
            go_ret
            rw [unhide HST]
            refine ⟨v', rfl, ?_, (unhide Rc).gw⟩
            rw [show n + (91 :: (I1 ++ [93])).length = n + [(91 : UInt8)].length + I1.length + [(93 : UInt8)].length by simp; omega, show xs ++ 91 :: (I1 ++ [93]) = xs ++ [91] ++ I1 ++ [93] by simp]
            exact (unhide Rc).own)
      · have hAI : ¬ ((C : Int) > 128) := by omega
        rw [if_neg (fun h => hA h.1)] at HST
        go_wp2_with fail
        go_region_law (first | (refine step_sl rfl (.tmp 36) (.tmp 37) rfl rfl (by first | exact unhide Rc | exact (unhide Rc).lay _ | exact (unhide Rc).lay2 _ _) [91] _ _ rfl (by first | exact RowS.newsB ((unhide Rc).lay _) [91] List.mem_cons_self | exact RowS.newsB ((unhide Rc).lay2 _ _) [91] List.mem_cons_self | exact RowS.newsB ((unhide Rc).lay2 _ _) [91] (List.mem_cons_of_mem _ List.mem_cons_self) | exact RowS.newsB (unhide Rc) [91] List.mem_cons_self | exact RowS.newsB (unhide Rc) [91] (List.mem_cons_of_mem _ List.mem_cons_self) | exact RowS.newsB ((unhide Rc).lay _) [91] (List.mem_cons_of_mem _ List.mem_cons_self) | exact RowS.newsB ((unhide Rc).lay _) [91] (List.mem_cons_of_mem _ (List.mem_cons_of_mem _ List.mem_cons_self))) (by simp; omega) ?_; intro v' w3 R'; obtain ⟨e0, e1, e2, e3, e4, e5, e6⟩ := (unhide HMC) _ _ _ _ _ R' (by first | exact List.mem_cons_self | exact List.mem_cons_of_mem _ List.mem_cons_self | exact List.mem_cons_of_mem _ (List.mem_cons_of_mem _ List.mem_cons_self)); have Rc := hide R'; clear R') | (refine step_sl rfl (.tmp 40) (.tmp 41) rfl rfl (by first | exact unhide Rc | exact (unhide Rc).lay _ | exact (unhide Rc).lay2 _ _) [93] _ _ rfl (by first | exact RowS.newsB ((unhide Rc).lay _) [93] List.mem_cons_self | exact RowS.newsB ((unhide Rc).lay2 _ _) [93] List.mem_cons_self | exact RowS.newsB ((unhide Rc).lay2 _ _) [93] (List.mem_cons_of_mem _ List.mem_cons_self) | exact RowS.newsB (unhide Rc) [93] List.mem_cons_self | exact RowS.newsB (unhide Rc) [93] (List.mem_cons_of_mem _ List.mem_cons_self) | exact RowS.newsB ((unhide Rc).lay _) [93] (List.mem_cons_of_mem _ List.mem_cons_self) | exact RowS.newsB ((unhide Rc).lay _) [93] (List.mem_cons_of_mem _ (List.mem_cons_of_mem _ List.mem_cons_self))) (by simp; omega) ?_; intro v' w5 R'; obtain ⟨e0, e1, e2, e3, e4, e5, e6⟩ := (unhide HMC) _ _ _ _ _ R' (by first | exact List.mem_cons_self | exact List.mem_cons_of_mem _ List.mem_cons_self | exact List.mem_cons_of_mem _ (List.mem_cons_of_mem _ List.mem_cons_self)); have Rc := hide R'; clear R') | (go_simp; go_at_call 41; refine ((unhide HIT) _ _ _ _ (by first | exact (unhide Rc).hB | exact ((unhide Rc).lay _).hB | exact ((unhide Rc).lay2 _ _).hB) (by first | exact (unhide Rc).own | exact ((unhide Rc).lay _).own | exact ((unhide Rc).lay2 _ _).own) (by simp; omega)).mono ?_; rintro e w4 ⟨v', rfl, o', k'⟩; (first | (have R' := (unhide Rc).call o' k') | (have R' := ((unhide Rc).lay _).call o' k') | (have R' := ((unhide Rc).lay2 _ _).call o' k')); clear o' k'; obtain ⟨e0, e1, e2, e3, e4, e5, e6⟩ := (unhide HMC) _ _ _ _ _ R' (by first | exact List.mem_cons_self | exact List.mem_cons_of_mem _ List.mem_cons_self | exact List.mem_cons_of_mem _ (List.mem_cons_of_mem _ List.mem_cons_self)); have Rc := hide R'; clear R'))
        all_goals (
          go_wp2_with fail
          go_ret
          rw [unhide HST]
          refine ⟨v', rfl, ?_, (unhide Rc).gw⟩
          rw [show n + (91 :: (I1 ++ [93])).length = n + [(91 : UInt8)].length + I1.length + [(93 : UInt8)].length by simp; omega, show xs ++ 91 :: (I1 ++ [93]) = xs ++ [91] ++ I1 ++ [93] by simp]
          exact (unhide Rc).own)
    · have hyes := (unhide HD).1 (by simpa using unhide HQ)
      rw [if_pos hyes] at HST
      clear HQ HD hyes
      go_wp2_with (at_builtin; refine app_sl rfl _ _ rfl rfl ((unhide R2).alloc _) [46] _ _ rfl (cell_one_new _ _ _) (by simp; omega) ?_; intro v3 w3 R3)
      go_ret
      rw [unhide HST]
      exact ⟨v3, rfl, R3.own, R3.gw⟩)
end Go.Proofs.Ytmhjfiaohbioeaa
