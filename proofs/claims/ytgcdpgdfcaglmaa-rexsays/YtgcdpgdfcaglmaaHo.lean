/- How the document writes expressions: a set. -/
import Derived.Test.YtgcdpgdfcaglmaaHl
namespace Go.Proofs.Ytgcdpgdfcaglmaa
open Go.RowKit Kb Pop
set_option linter.unusedVariables false
set_option maxRecDepth 20000

theorem itemsP_congr' {p q : Nat → Bool} (h : ∀ j, j < 256 → p j = q j) : itemsP p 256 = itemsP q 256 := by
  have hl : ∀ n l, 255 - l ≤ n → lastR p l = lastR q l := by
    intro n
    induction n with
    | zero => intro l hn; rw [lastR_stop (by omega), lastR_stop (by omega)]
    | succ n ih =>
      intro l hn
      by_cases hc : l < 255 ∧ p (l + 1) = true
      · rw [lastR_go hc.1 hc.2, lastR_go hc.1 (by rw [← h _ (by omega)]; exact hc.2), ih _ (by omega)]
      · rw [lastR_stop hc, lastR_stop (fun hq => hc ⟨hq.1, by rw [h _ (by omega)]; exact hq.2⟩)]
  have : ∀ b, b ≤ 256 → itemsP p b = itemsP q b := by
    intro b
    induction b with
    | zero => intro _; rfl
    | succ b ih =>
      intro hb
      rw [itemsP, itemsP, ih (by omega)]
      have e1 : heads p b = heads q b := by unfold heads; rw [h b (by omega), h (b - 1) (by omega)]
      have e2 : item1 p b = item1 q b := by unfold item1; rw [hl 255 b (by omega)]
      rw [e1, e2]
  exact this 256 (by omega)
theorem not_call (s : Se) (gb b : Nat) (w : World) (hf : FitS s) (hb : b < 256) (c1 : w.cell? ⟨gb, 1, none⟩ = some (.int .u64 s.a)) (c2 : w.cell? ⟨gb, 2, none⟩ = some (.int .u64 s.b)) (c3 : w.cell? ⟨gb, 3, none⟩ = some (.int .u64 s.c)) (c4 : w.cell? ⟨gb, 4, none⟩ = some (.int .u64 s.d)) :
    Calls Try.prog 23 (#[.int .i64 b] ++ #[.pointer (some ⟨gb, 0, none⟩)]) w fun e w' => e = .returned (.bool (!bit s b)) ∧ Below w.heap.size w w' := by
  have HI := hide (is_any s b w hf hb)
  generalize bit s b = q at *
  obtain ⟨s1, s2, s3, s4⟩ := s
  unfold setV at HI
  dsimp only at *
  show Calls Try.prog 23 #[.int .i64 b, .pointer (some ⟨gb, 0, none⟩)] w _
  go_enter Try.func23, Try.ntmps23
  go_wp2_with fail
  refine (unhide HI).mono ?_
  rintro e w2 ⟨rfl, b2⟩
  have B2 := hide b2
  clear b2 HI
  go_wp2_with fail
  go_ret
  exact ⟨rfl, unhide B2⟩
set_option maxHeartbeats 4000000 in
theorem rt_byte (s : Se) : RT (.byte s) := by
  intro w rv hV hn hfl
  obtain ⟨t, rfl, hkd⟩ := hV.val
  obtain ⟨o, c, rfl, _⟩ := hkd.form
  have hf : FitS s := hfl.2
  unfold rexV
  simp only [Ex.rx, Ex.tx, Rx.k, Rx.s, Rx.ks, List.length_nil] at *
  obtain ⟨N, hN⟩ : ∃ N, 256 = N := ⟨_, rfl⟩
  have HI := hide (fun b (hb : b < 256) W => is_any s b W hf hb)
  have HIT := hide (fun W => items_any s W hf 256 rfl)
  have hl1 := itemsP_len (bit s) 256
  have hl2 := itemsP_len (fun b => !bit s b) 256
  have HST : Hid (setT (bit s) 256 = if cntN (bit s) 256 = 1 then itemsP (bit s) 256 else if cntN (bit s) 256 = 255 ∧ bit s 10 = false then [46] else if 128 < cntN (bit s) 256 ∧ cntN (bit s) 256 < 256 then 91 :: 94 :: (itemsP (fun b => !bit s b) 256 ++ [93]) else 91 :: (itemsP (bit s) 256 ++ [93])) := hide rfl
  obtain ⟨T, hT⟩ : ∃ T, setT (bit s) 256 = T := ⟨_, rfl⟩
  rw [hT] at HST ⊢
  have hcle : cntN (bit s) 256 ≤ 256 := cntN_le _ _
  obtain ⟨C, hC⟩ : ∃ C, cntN (bit s) 256 = C := ⟨_, rfl⟩
  rw [hC] at HST hcle
  have HCN : Hid (∀ m, m = 256 → cntN (bit s) m = C) := hide (fun m e => by rw [e]; exact hC)
  have HCL := hide (cntN_le (bit s))
  have HCS : Hid (∀ m, cntN (bit s) (m + 1) = cntN (bit s) m + (bit s m).toNat) := hide (fun m => rfl)
  obtain ⟨I1, hI1⟩ : ∃ I, itemsP (bit s) 256 = I := ⟨_, rfl⟩
  rw [hI1] at HST HIT hl1
  obtain ⟨I2, hI2⟩ : ∃ I, itemsP (fun b => !bit s b) 256 = I := ⟨_, rfl⟩
  rw [hI2] at HST hl2
  have HIN : Hid (∀ t, FitS t → (∀ b, b < 256 → bit t b = !bit s b) → ∀ W, Calls Try.prog 21 #[setV t] W fun e w' => e = .returned (.string (mk I2)) ∧ Below W.heap.size W w') := hide (fun t ft ht W => by
    have := items_any t W ft 256 rfl
    rwa [show itemsP (bit t) 256 = I2 by rw [← hI2]; exact itemsP_congr' ht] at this)
  have HNC := hide (fun gb b w hb c1 c2 c3 c4 => not_call s gb b w hf hb c1 c2 c3 c4)
  generalize hp : bit s = p at *
  clear hT hC hI1 hI2 hN hp
  obtain ⟨m1, hm1⟩ : ∃ m, mk I1 = m := ⟨_, rfl⟩
  obtain ⟨m2, hm2⟩ : ∃ m, mk I2 = m := ⟨_, rfl⟩
  have hs1 : m1.size ≤ 200000 := by rw [← hm1, mk_size]; omega
  have hs2 : m2.size ≤ 200000 := by rw [← hm2, mk_size]; omega
  rw [hm1] at HIT
  rw [hm2] at HIN
  have HM1 := hide hm1
  have HM2 := hide hm2
  obtain ⟨s1, s2, s3, s4⟩ := s
  unfold setV at *
  dsimp only at *
  obtain ⟨W0, hW0⟩ : ∃ W0, w.alloc (.cells #[.int .i64 3, .int .u64 s1, .int .u64 s2, .int .u64 s3, .int .u64 s4, .slice o 0 c] 27) = W0 := ⟨_, rfl⟩
  have B0 : Hid (Below w.heap.size w W0) := hide (by rw [← hW0]; exact (Below.refl _ _).alloc (Nat.le_refl _) _)
  have HC : Hid (∀ j v, (#[.int .i64 3, .int .u64 s1, .int .u64 s2, .int .u64 s3, .int .u64 s4, .slice o 0 c] : Array Value)[j]? = some v → W0.cell? ⟨w.heap.size, j, none⟩ = some v) := hide (fun j v h => by rw [← hW0, World.cell?_alloc_new]; exact h)
  have hsz : w.heap.size < W0.heap.size := by rw [← hW0]; simp
  have HS : Hid (∀ W, Below W0.heap.size W0 W → W.cell? ⟨w.heap.size, 1, none⟩ = some (.int .u64 s1) ∧ W.cell? ⟨w.heap.size, 2, none⟩ = some (.int .u64 s2) ∧ W.cell? ⟨w.heap.size, 3, none⟩ = some (.int .u64 s3) ∧ W.cell? ⟨w.heap.size, 4, none⟩ = some (.int .u64 s4)) := hide (fun W hb => ⟨cell_below ((unhide HC) 1 _ rfl) hsz hb, cell_below ((unhide HC) 2 _ rfl) hsz hb, cell_below ((unhide HC) 3 _ rfl) hsz hb, cell_below ((unhide HC) 4 _ rfl) hsz hb⟩)
  have z0 := (unhide HC) 0 _ rfl
  clear hkd hV hf hfl hm1 hm2
  go_enter Try.func8, Try.ntmps8
  go_wp2_with fail
  clear hW0 z0 HC
  obtain ⟨gb, hgb⟩ : ∃ g, w.heap.size = g := ⟨_, rfl⟩
  rw [hgb] at HS ⊢
  have HGB := hide hgb
  clear hgb
  go_loopw [5, 4] (fun x y wr => ∃ b m : Nat, x = .int .i64 b ∧ b ≤ 256 ∧ y = .int .i64 m ∧ m = cntN p b ∧ Below W0.heap.size W0 wr) (fun x _ _ => 256 - (intOf x).toNat)
  case atStart => exact ⟨0, 0, rfl, by omega, rfl, rfl, Below.refl _ _⟩
  case round =>
    obtain ⟨b, m, rfl, hb, rfl, hm, hbel⟩ := hrel
    have B := hide hbel
    have HMC := hide hm
    have hml := (unhide HCL) b
    rw [← hm] at hml
    clear hbel hm
    obtain ⟨c1, c2, c3, c4⟩ := (unhide HS) _ (unhide B)
    by_cases hlt : b < 256
    · have hbI : (b : Int) < 256 := by omega
      have HJ := hide ((unhide HI) b hlt wr)
      have HN1 := hide ((unhide HCS) b)
      go_wp2_with fail
      refine (unhide HJ).mono ?_
      rintro e w2 ⟨rfl, b2⟩
      have B2 := hide (bel_trans (unhide B) b2)
      clear b2 HJ c1 c2 c3 c4
      cases hp : p b
      · rw [hp] at HN1
        clear hp
        go_wp2_with fail
        exact ⟨⟨b + 1, m, by go_num, by omega, rfl, by rw [unhide HN1, ← unhide HMC]; rfl, unhide B2⟩, by simp [intOf]; omega⟩
      · rw [hp] at HN1
        clear hp
        go_wp2_with fail
        exact ⟨⟨b + 1, m + 1, by go_num, by omega, by go_num, by rw [unhide HN1, ← unhide HMC]; rfl, unhide B2⟩, by simp [intOf]; omega⟩
    · have hbI : ¬ ((b : Int) < 256) := by omega
      have hmC : m = C := by rw [unhide HMC]; exact (unhide HCN) b (by omega)
      subst hmC
      clear HMC HCN HCS
      by_cases h1 : m = 1
      · rw [if_pos h1] at HST
        have hb1 : ((m : Int) == 1) = true := by rw [h1]; rfl
        have HJ := hide ((unhide HIT) wr)
        clear h1
        go_wp2_with fail
        refine (unhide HJ).mono ?_
        rintro e w2 ⟨rfl, b2⟩
        have B2 := hide (bel_trans (unhide B0) (bel_trans (unhide B) b2))
        clear b2
        go_wp2_with fail
        go_ret
        exact ⟨Kb.ret_str (by rw [unhide HST]; exact (unhide HM1).symm), unhide B2⟩
      rw [if_neg h1] at HST
      have hb1 : ((m : Int) == 1) = false := by rw [beq_eq_false_iff_ne]; omega
      clear h1
      by_cases h255 : m = 255 ∧ p 10 = false
      · rw [if_pos h255] at HST
        have hb2 : ((m : Int) == 255) = true := by rw [h255.1]; rfl
        have HJ := hide ((unhide HI) 10 (by omega) wr)
        rw [h255.2] at HJ
        clear h255
        go_wp2_with fail
        refine (unhide HJ).mono ?_
        rintro e w2 ⟨rfl, b2⟩
        have B2 := hide (bel_trans (unhide B0) (bel_trans (unhide B) b2))
        clear b2
        go_wp2_with fail
        go_ret
        exact ⟨Kb.ret_str (by rw [unhide HST]; rfl), unhide B2⟩
      rw [if_neg h255] at HST
      have HSTEP : Hid (∀ wr2, Below W0.heap.size W0 wr2 → True) := hide (fun _ _ => trivial)
      clear HSTEP
      by_cases h25 : m = 255
      · have hp10 : p 10 = true := by cases h : p 10; exact absurd ⟨h25, h⟩ h255; rfl
        have hb2 : ((m : Int) == 255) = true := by rw [h25]; rfl
        have HJ := hide ((unhide HI) 10 (by omega) wr)
        rw [hp10] at HJ
        rw [if_pos (by omega)] at HST
        have hA : (m : Int) > 128 := by omega
        have hZ : (m : Int) < 256 := by omega
        clear h255 hp10 h25
        go_wp2_with fail
        refine (unhide HJ).mono ?_
        rintro e w2 ⟨rfl, b2⟩
        have B2 := hide (bel_trans (unhide B) b2)
        clear b2 HJ
        have hW : Hid (Calls Try.prog 22 #[.func (.func 23) #[] #[.pointer (some ⟨gb, 0, none⟩)]] w2 fun e w' => ∃ s, e = .returned (setV s) ∧ FitS s ∧ (∀ b, b < 256 → bit s b = !p b) ∧ Below w2.heap.size w2 w') := hide (where_t2 #[.pointer (some ⟨gb, 0, none⟩)] (fun b => !p b) w2 (fun b W hb hbel => by
          obtain ⟨q1, q2, q3, q4⟩ := (unhide HS) _ (bel_trans (unhide B2) hbel)
          exact (unhide HNC) gb b W hb q1 q2 q3 q4))
        go_wp2_with fail
        refine (unhide hW).mono ?_
        rintro e w3 ⟨t, rfl, ft, ht, b3⟩
        have HJ := hide ((unhide HIN) t ft ht w3)
        have B3 := hide (bel_trans (unhide B2) b3)
        clear b3 ft ht hW
        unfold setV
        obtain ⟨t1, t2, t3, t4⟩ := t
        dsimp only at *
        go_wp2_with fail
        refine (unhide HJ).mono ?_
        rintro e w4 ⟨rfl, b4⟩
        have B4 := hide (bel_trans (unhide B0) (bel_trans (unhide B3) b4))
        clear b4 HJ
        go_wp2_with fail
        go_ret
        refine ⟨Kb.ret_str ?_, unhide B4⟩
        rw [unhide HST, ← unhide HM2]
        show mk [91, 94] ++ mk I2 ++ mk [93] = _
        rw [cat_mk, cat_mk]
        simp
      · have hb2 : ((m : Int) == 255) = false := by rw [beq_eq_false_iff_ne]; omega
        clear h255
        by_cases hA : 128 < m
        · have hAI : (m : Int) > 128 := by omega
          by_cases hZ : m < 256
          · have hZI : (m : Int) < 256 := by omega
            rw [if_pos ⟨hA, hZ⟩] at HST
            obtain ⟨w2, hw2⟩ : ∃ w2, w2 = wr := ⟨_, rfl⟩
            rw [← hw2] at B ⊢
            have B2 := B
            clear B hw2 c1 c2 c3 c4
            have hW : Hid (Calls Try.prog 22 #[.func (.func 23) #[] #[.pointer (some ⟨gb, 0, none⟩)]] w2 fun e w' => ∃ s, e = .returned (setV s) ∧ FitS s ∧ (∀ b, b < 256 → bit s b = !p b) ∧ Below w2.heap.size w2 w') := hide (where_t2 #[.pointer (some ⟨gb, 0, none⟩)] (fun b => !p b) w2 (fun b W hb hbel => by
              obtain ⟨q1, q2, q3, q4⟩ := (unhide HS) _ (bel_trans (unhide B2) hbel)
              exact (unhide HNC) gb b W hb q1 q2 q3 q4))
            go_wp2_with fail
            refine (unhide hW).mono ?_
            rintro e w3 ⟨t, rfl, ft, ht, b3⟩
            have HJ := hide ((unhide HIN) t ft ht w3)
            have B3 := hide (bel_trans (unhide B2) b3)
            clear b3 ft ht hW
            unfold setV
            obtain ⟨t1, t2, t3, t4⟩ := t
            dsimp only at *
            go_wp2_with fail
            refine (unhide HJ).mono ?_
            rintro e w4 ⟨rfl, b4⟩
            have B4 := hide (bel_trans (unhide B0) (bel_trans (unhide B3) b4))
            clear b4 HJ
            go_wp2_with fail
            go_ret
            refine ⟨Kb.ret_str ?_, unhide B4⟩
            rw [unhide HST, ← unhide HM2]
            show mk [91, 94] ++ mk I2 ++ mk [93] = _
            rw [cat_mk, cat_mk]
            simp
          · have hZI : ¬ ((m : Int) < 256) := by omega
            rw [if_neg (fun h => hZ h.2)] at HST
            have HJ := hide ((unhide HIT) wr)
            go_wp2_with fail
            refine (unhide HJ).mono ?_
            rintro e w4 ⟨rfl, b4⟩
            have B4 := hide (bel_trans (unhide B0) (bel_trans (unhide B) b4))
            clear b4 HJ
            go_wp2_with fail
            go_ret
            refine ⟨Kb.ret_str ?_, unhide B4⟩
            rw [unhide HST, ← unhide HM1]
            show mk [91] ++ mk I1 ++ mk [93] = _
            rw [cat_mk, cat_mk]
            simp
        · have hAI : ¬ ((m : Int) > 128) := by omega
          rw [if_neg (fun h => hA h.1)] at HST
          have HJ := hide ((unhide HIT) wr)
          go_wp2_with fail
          refine (unhide HJ).mono ?_
          rintro e w4 ⟨rfl, b4⟩
          have B4 := hide (bel_trans (unhide B0) (bel_trans (unhide B) b4))
          clear b4 HJ
          go_wp2_with fail
          go_ret
          refine ⟨Kb.ret_str ?_, unhide B4⟩
          rw [unhide HST, ← unhide HM1]
          show mk [91] ++ mk I1 ++ mk [93] = _
          rw [cat_mk, cat_mk]
          simp
end Go.Proofs.Ytgcdpgdfcaglmaa
