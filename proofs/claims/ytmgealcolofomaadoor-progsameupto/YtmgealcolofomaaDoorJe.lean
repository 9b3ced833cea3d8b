/- What is wrong with an expression: the program's look. -/
import Derived.Test.YtmgealcolofomaaDoorHc
import Derived.BigQuiet
import Derived.Deep.QuietTactic
namespace Go.Proofs.YtmgealcolofomaaDoor
open Go.RowKit Kb
set_option linter.unusedVariables false
set_option maxRecDepth 20000

theorem want_cases (k : Int) : ∃ wv : Int, wantK k = wv ∧ ((((k == 4) = true ∨ (k == 4) = false ∧ (k == 5) = true) ∧ wv = 2) ∨ (((k == 4) = false ∧ (k == 5) = false ∧ (k == 6) = true) ∧ wv = 1) ∨ (((k == 4) = false ∧ (k == 5) = false ∧ (k == 6) = false) ∧ wv = 0)) := by
  unfold wantK
  simp only [beq_iff_eq, beq_eq_false_iff_ne, ne_eq]
  refine ⟨_, rfl, ?_⟩
  by_cases h4 : k = 4
  · left; exact ⟨.inl h4, by rw [if_pos (.inl h4)]⟩
  by_cases h5 : k = 5
  · left; exact ⟨.inr ⟨h4, h5⟩, by rw [if_pos (.inr h5)]⟩
  right
  rw [if_neg (fun h => h.elim h4 h5)]
  by_cases h6 : k = 6
  · left; exact ⟨⟨h4, h5, h6⟩, by rw [if_pos h6]⟩
  · right; exact ⟨⟨h4, h5, h6⟩, by rw [if_neg h6]⟩
set_option maxHeartbeats 400000 in
theorem kidsOf_any (k : Int) (w : World) :
    Calls Tryd.prog 111 #[.int .i64 k] w fun e w' => e = .returned (.int .i64 (wantK k)) ∧ w' = w := by
  obtain ⟨wv, hwv, hcs⟩ := want_cases k
  rw [hwv]
  clear hwv
  rcases hcs with ⟨h4 | ⟨h4, h5⟩, rfl⟩ | ⟨⟨h4, h5, h6⟩, rfl⟩ | ⟨⟨h4, h5, h6⟩, rfl⟩
  all_goals (
    go_enter Tryd.func111, Tryd.ntmps111
    go_wp2_with fail
    go_ret
    exact ⟨rfl, rfl⟩)
/-- is a node by itself right? -/
def formB (k : Int) (s : Se) (n : Nat) : Bool := !decide (badN k s n)
set_option maxHeartbeats 1000000 in
theorem formed_any (k : Int) (s : Se) (o : Option Addr) (n c : Nat) (w : World) (hroom : n ≤ 140737488355328) :
    Calls Tryd.prog 85 #[.agg #[.int .i64 k, .int .u64 s.a, .int .u64 s.b, .int .u64 s.c, .int .u64 s.d, .slice o n c]] w fun e w' => e = .returned (.bool (formB k s n)) ∧ Below w.heap.size w w' := by
  obtain ⟨s1, s2, s3, s4⟩ := s
  dsimp only
  have heq := eqSet s1 s2 s3 s4 0 0 0 0
  obtain ⟨wv, hwv⟩ : ∃ wv, wantK k = wv := ⟨_, rfl⟩
  have HK := hide (kidsOf_any k)
  rw [hwv] at HK
  have HB : Hid (formB k ⟨s1, s2, s3, s4⟩ n = (!(decide (k < 1) || decide (k > 8)) && (((n : Int) == wv) && ((!decide ((⟨s1, s2, s3, s4⟩ : Se) = ⟨0, 0, 0, 0⟩)) == (k == 3))))) := hide (by
    have hb : badN k ⟨s1, s2, s3, s4⟩ n ↔ (k < 1 ∨ k > 8 ∨ (n : Int) ≠ wv ∨ ¬ ((!decide ((⟨s1, s2, s3, s4⟩ : Se) = ⟨0, 0, 0, 0⟩)) = (k == 3))) := by
      unfold badN noSet
      rw [hwv]
      have : ¬ ((!decide ((⟨s1, s2, s3, s4⟩ : Se) = ⟨0, 0, 0, 0⟩)) = (k == 3)) ↔ decide ((⟨s1, s2, s3, s4⟩ : Se) ≠ ⟨0, 0, 0, 0⟩) ≠ decide (k = 3) := by
        by_cases h1 : (⟨s1, s2, s3, s4⟩ : Se) = ⟨0, 0, 0, 0⟩ <;> by_cases h2 : k = 3 <;> simp [h1, h2]
      rw [this]
    generalize decide ((⟨s1, s2, s3, s4⟩ : Se) = ⟨0, 0, 0, 0⟩) = sb at hb ⊢
    rw [Bool.eq_iff_iff]
    unfold formB
    simp only [Bool.not_eq_true', decide_eq_false_iff_not, hb, Bool.and_eq_true, Bool.or_eq_false_iff, beq_iff_eq, not_or, Classical.not_not, ne_eq, and_assoc])
  obtain ⟨res, hres⟩ : ∃ res, formB k ⟨s1, s2, s3, s4⟩ n = res := ⟨_, rfl⟩
  rw [hres] at HB ⊢
  clear hres hwv
  generalize decide ((⟨s1, s2, s3, s4⟩ : Se) = ⟨0, 0, 0, 0⟩) = sb at *
  have bb : Hid (Below w.heap.size w (w.alloc (.cells #[.int .i64 k, .int .u64 s1, .int .u64 s2, .int .u64 s3, .int .u64 s4, .slice o n c] 38))) := hide ((Below.refl _ _).alloc (Nat.le_refl _) _)
  obtain ⟨W0, hW0⟩ : ∃ W0, w.alloc (.cells #[.int .i64 k, .int .u64 s1, .int .u64 s2, .int .u64 s3, .int .u64 s4, .slice o n c] 38) = W0 := ⟨_, rfl⟩
  rw [hW0] at bb
  have z0 : W0.cell? ⟨w.heap.size, 0, none⟩ = some (.int .i64 k) := by rw [← hW0, World.cell?_alloc_new]; rfl
  have z1 : W0.cell? ⟨w.heap.size, 1, none⟩ = some (.int .u64 s1) := by rw [← hW0, World.cell?_alloc_new]; rfl
  have z2 : W0.cell? ⟨w.heap.size, 2, none⟩ = some (.int .u64 s2) := by rw [← hW0, World.cell?_alloc_new]; rfl
  have z3 : W0.cell? ⟨w.heap.size, 3, none⟩ = some (.int .u64 s3) := by rw [← hW0, World.cell?_alloc_new]; rfl
  have z4 : W0.cell? ⟨w.heap.size, 4, none⟩ = some (.int .u64 s4) := by rw [← hW0, World.cell?_alloc_new]; rfl
  have z5 : W0.cell? ⟨w.heap.size, 5, none⟩ = some (.slice o n c) := by rw [← hW0, World.cell?_alloc_new]; rfl
  by_cases hlo : k < 1
  · rw [decide_eq_true hlo] at HB
    go_enter Tryd.func85, Tryd.ntmps85
    go_wp2_with fail
    go_ret
    exact ⟨ret_bool (by rw [unhide HB]; rfl), unhide bb⟩
  by_cases hhi : k > 8
  · rw [decide_eq_true hhi] at HB
    go_enter Tryd.func85, Tryd.ntmps85
    go_wp2_with fail
    go_ret
    exact ⟨ret_bool (by rw [unhide HB]; simp), unhide bb⟩
  rw [decide_eq_false hlo, decide_eq_false hhi] at HB
  by_cases hl : (n : Int) = wv
  · have hl1 : ((n : Int) == wv) = true := by rw [hl]; simp
    have HE : Hid (res = ((!sb) == (k == 3))) := hide (by rw [unhide HB, hl1]; rfl)
    clear HB
    generalize hk3 : (k == 3) = kb at *
    subst hl
    clear hl1
    go_enter Tryd.func85, Tryd.ntmps85
    go_wp2_with fail
    clear hW0
    go_quiet (first | (go_at_call 111; refine Calls.quiet_of_same ((unhide HK) _)))
    go_wp2_with fail
    go_ret
    exact ⟨ret_bool (by rw [unhide HE]), Go.below_drewN (unhide bb) _⟩
  · have hl1 : ((n : Int) == wv) = false := by rw [beq_eq_false_iff_ne]; exact hl
    have hl2 : decide ((n : Int) = wv) = false := decide_eq_false hl
    rw [hl1] at HB
    clear hl
    go_enter Tryd.func85, Tryd.ntmps85
    go_wp2_with fail
    clear hW0
    go_quiet (first | (go_at_call 111; refine Calls.quiet_of_same ((unhide HK) _)))
    go_wp2_with fail
    go_ret
    exact ⟨ret_bool (by rw [unhide HB]; rfl), Go.below_drewN (unhide bb) _⟩
theorem grown_of_below {w w' : World} (b : Below w.heap.size w w') (row : Option Nat) : w.grownBy w' row := ⟨b.os, b.tape, b.output, b.size, fun k hk _ => b.block k hk⟩
theorem formB_bad (k : Int) (s : Se) (n : Nat) : formB k s n = true ↔ ¬ badN k s n := by unfold formB; simp
set_option maxHeartbeats 3000000 in
theorem check_any (w0 : World) (nb : Nat) (r : Rx) : ∀ (v : Value) (deep n : Nat) (W : World), RexV w0 v r → Below w0.heap.size w0 W → Num1 W w0.heap.size nb n → n ≤ 80 → deep ≤ 21 →
    Calls Tryd.prog 60 #[v, .int .i64 deep, .pointer (some ⟨nb, 0, none⟩)] W fun e W' => e = .returned (.int .i64 (lookR r deep n).2) ∧ W.grownBy W' (some nb) ∧ Num1 W' w0.heap.size nb (lookR r deep n).1 ∧ ((lookR r deep n).2 = 0 → (lookR r deep n).1 ≤ 80) := by
  induction r using Rx.ind with
  | h k s ks ih =>
    intro v deep n W hV hB hN hn hd
    obtain ⟨e, rfl, hk⟩ := hV.val
    obtain ⟨o, c, rfl, _⟩ := hk.form
    have hf := hV.fit
    have hroom := hk.room
    have HFO := hide (fun W => formed_any k s o ks.length c W hroom)
    obtain ⟨s1, s2, s3, s4⟩ := s
    have KD := hide hk
    have IH := hide ih
    have B := hide hB
    have NB := hide hN
    unfold Fit at hf
    unfold rexV
    simp only [Rx.k, Rx.s, Rx.ks] at *
    have hlt := hN.lt
    clear hk ih hB hV
    obtain ⟨res, hres⟩ : ∃ res, lookR (.mk k ⟨s1, s2, s3, s4⟩ ks) deep n = res := ⟨_, rfl⟩
    rw [hres]
    have HLR : Hid (res = if 80 < n + 1 then (n + 1, 2) else if 20 < deep then (n + 1, 11) else if badN k ⟨s1, s2, s3, s4⟩ ks.length then (n + 1, 1) else lookL ks (deep + 1) (n + 1)) := hide (by rw [← hres, lookR])
    clear hres
    obtain ⟨P, hP⟩ : ∃ P, Obj.cells #[.int .i64 k, .int .u64 s1, .int .u64 s2, .int .u64 s3, .int .u64 s4, .slice o ks.length c] 38 = P := ⟨_, rfl⟩
    obtain ⟨st, gt⟩ := (hN.alloc P).set ((n : Int) + 1)
    have N1 := hide st
    have G1 := hide (Go.Lib.grownBy_trans (World.grownBy_alloc W P (some nb)) gt)
    have hc0 : (W.alloc P).cell? ⟨nb, 0, none⟩ = some (.int .i64 n) := (hN.alloc P).cell
    have hf0 : (W.alloc P).frozen? ⟨nb, 0, none⟩ = false := World.ownsRow.frozenAt (hN.alloc P) 0
    obtain ⟨W1, hW1⟩ : ∃ W1, (W.alloc P).setCell ⟨nb, 0, none⟩ (.int .i64 ((n : Int) + 1)) = W1 := ⟨_, rfl⟩
    have hc1 := st.cell
    have hnn : (some W.heap.size : Option Nat) ≠ some nb := fun e => by
      have h1 : W.heap.size = nb := Option.some.inj e
      have h2 := hlt.2
      omega
    have HPB : Hid (∀ j x, (#[.int .i64 k, .int .u64 s1, .int .u64 s2, .int .u64 s3, .int .u64 s4, .slice o ks.length c] : Array Value)[j]? = some x → W1.cell? ⟨W.heap.size, j, none⟩ = some x) := hide (fun j x h => by
      rw [← hW1]
      refine gt.cell (a := ⟨W.heap.size, j, none⟩) ?_ hnn
      rw [← hP, World.cell?_alloc_new]; exact h)
    have hsz : W.heap.size < W1.heap.size := by rw [← hW1]; simp
    rw [hW1] at N1 G1 hc1
    clear st gt hN
    have z0 := (unhide HPB) 0 _ rfl
    have z1 := (unhide HPB) 1 _ rfl
    have z2 := (unhide HPB) 2 _ rfl
    have z3 := (unhide HPB) 3 _ rfl
    have z4 := (unhide HPB) 4 _ rfl
    have z5 := (unhide HPB) 5 _ rfl
    rw [← hP] at hc0 hf0 hW1
    clear hP P
    go_enter Tryd.func60, Tryd.ntmps60
    by_cases h80 : 80 < n + 1
    · have hI : (n : Int) + 1 > 80 := by omega
      rw [if_pos h80] at HLR
      go_wp2_with fail
      go_ret
      obtain rfl := unhide HLR
      exact ⟨rfl, unhide G1, unhide N1, fun h => by cases h⟩
    have hI : ¬ ((n : Int) + 1 > 80) := by omega
    rw [if_neg h80] at HLR
    by_cases h20 : 20 < deep
    · have hJ : (deep : Int) > 20 := by omega
      rw [if_pos h20] at HLR
      go_wp2_with fail
      go_ret
      obtain rfl := unhide HLR
      exact ⟨rfl, unhide G1, unhide N1, fun h => by cases h⟩
    have hJ : ¬ ((deep : Int) > 20) := by omega
    rw [if_neg h20] at HLR
    have HBAD := hide (formB_bad k ⟨s1, s2, s3, s4⟩ ks.length)
    obtain ⟨fb, hfb⟩ : ∃ fb, formB k ⟨s1, s2, s3, s4⟩ ks.length = fb := ⟨_, rfl⟩
    rw [hfb] at HFO HBAD
    clear hfb
    go_wp2_with fail
    refine ((unhide HFO) W1).mono ?_
    rintro e W2 ⟨rfl, b2⟩
    have N2 : Hid (Num1 W2 w0.heap.size nb ((n + 1 : Nat) : Int)) := hide (by rw [show ((n + 1 : Nat) : Int) = (n : Int) + 1 by omega]; exact own_below (unhide N1) b2)
    have G2 := hide (Go.Lib.grownBy_trans (unhide G1) (grown_of_below b2 _))
    have y5 := cell_below z5 hsz b2
    have hs2 := Nat.lt_of_lt_of_le hsz b2.size
    clear b2 HFO N1 G1 z0 z1 z2 z3 z4 z5 HPB hc0 hc1 hf0 hW1
    cases fb
    · have hbad : badN k ⟨s1, s2, s3, s4⟩ ks.length := Classical.byContradiction fun h => by have := (unhide HBAD).2 h; cases this
      rw [if_pos hbad] at HLR
      clear hbad HBAD
      go_wp2_with fail
      go_ret
      obtain rfl := unhide HLR
      exact ⟨rfl, unhide G2, unhide N2, fun h => by cases h⟩
    · have hgood := (unhide HBAD).1 rfl
      rw [if_neg hgood] at HLR
      have hkl : ks.length ≤ 2 := by
        unfold badN at hgood
        have h3 : (ks.length : Int) = wantK k := Classical.byContradiction fun h => hgood (.inr (.inr (.inl h)))
        unfold wantK at h3
        split at h3
        · omega
        split at h3 <;> omega
      clear hgood HBAD
      go_wp2_with fail
      clear y5
      go_loopw [30] (fun x wr => ∃ i m : Nat, x = .int .i64 i ∧ i ≤ ks.length ∧ W.grownBy wr (some nb) ∧ Num1 wr w0.heap.size nb m ∧ m ≤ 80 ∧ res = lookL (ks.drop i) (deep + 1) m) (fun x _ => ks.length - (intOf x).toNat)
      case atStart => exact ⟨0, n + 1, rfl, Nat.zero_le _, unhide G2, unhide N2, by omega, unhide HLR⟩
      case round =>
        obtain ⟨i, m, rfl, hi, hg, hnm, hm80, hres⟩ := hrel
        have G := hide hg
        have NM := hide hnm
        have RES := hide hres
        have BR := hide (below_of (unhide B) hg hlt.1)
        clear hg hnm hres
        by_cases hil : i < ks.length
        · obtain ⟨x, hx⟩ : ∃ x, ks[i]? = some x := ⟨ks[i], List.getElem?_eq_getElem hil⟩
          obtain ⟨g1, f1, d1, e1, he1, hg1, fx, a0, a1, a2, a3, a4, a5, kx⟩ := (unhide KD).at_ hx
          have hgr : g1 < wr.heap.size := Nat.lt_of_lt_of_le hg1 (unhide BR).size
          have a0 := cell_below a0 hg1 (unhide BR)
          have a1 := cell_below a1 hg1 (unhide BR)
          have a2 := cell_below a2 hg1 (unhide BR)
          have a3 := cell_below a3 hg1 (unhide BR)
          have a4 := cell_below a4 hg1 (unhide BR)
          have a5 := cell_below a5 hg1 (unhide BR)
          have HREC := hide (fun W' b n' => (unhide IH) x (List.mem_of_getElem? hx) (rexV x e1) (deep + 1) m W' ⟨⟨e1, rfl, kx⟩, fx⟩ b n' hm80 (by omega))
          rw [show ((deep + 1 : Nat) : Int) = (deep : Int) + 1 by omega] at HREC
          unfold rexV at HREC
          have HDR : Hid (ks.drop i = x :: ks.drop (i + 1)) := hide (by
            rw [List.drop_eq_getElem_cons hil, (List.getElem?_eq_some_iff.1 hx).2])
          obtain ⟨pr, hpr⟩ : ∃ pr, lookR x (deep + 1) m = pr := ⟨_, rfl⟩
          rw [hpr] at HREC
          have HPR := hide hpr
          obtain ⟨oe1, ce1, hfe1, _⟩ := kx.form
          subst hfe1
          clear hpr kx fx hx
          cases he1
          have hiI : (i : Int) < ks.length := by omega
          have hib : 0 ≤ (i : Int) ∧ (i : Int) < ks.length := by omega
          obtain ⟨l1, hl1⟩ : ∃ l1, x.ks.length = l1 := ⟨_, rfl⟩
          obtain ⟨x0, hx0⟩ : ∃ z, x.k = z := ⟨_, rfl⟩
          obtain ⟨⟨x1, x2, x3, x4⟩, hx1⟩ : ∃ z, x.s = z := ⟨_, rfl⟩
          rw [hl1] at a5
          rw [hx0] at a0
          rw [hx1] at a1 a2 a3 a4
          rw [hl1, hx0, hx1] at HREC
          dsimp only at a1 a2 a3 a4 HREC
          clear hl1 hx0 hx1
          go_wp2_with fail
          refine ((unhide HREC) _ ((unhide BR).alloc (unhide BR).size _) ((unhide NM).alloc _)).mono ?_
          rintro e w3 ⟨rfl, hg3, hn3, h80⟩
          have G3 := hide (Go.Lib.grownBy_trans (unhide G) (Go.Lib.grownBy_trans (World.grownBy_alloc wr _ (some nb)) hg3))
          have N3 := hide hn3
          have H80 := hide h80
          clear hg3 hn3 h80 HREC
          by_cases hp0 : pr.2 = 0
          · have hm' := (unhide H80) hp0
            have HRES : Hid (res = lookL (ks.drop (i + 1)) (deep + 1) pr.1) := hide (by
              rw [unhide RES, unhide HDR, lookL, unhide HPR, if_neg (fun h => h hp0)])
            have hb0 : (pr.2 != 0) = false := by rw [hp0]; rfl
            clear hp0
            go_wp2_with fail
            exact ⟨⟨i + 1, pr.1, by go_num, by omega, unhide G3, unhide N3, hm', unhide HRES⟩, by simp [intOf]; omega⟩
          · have HRES : Hid (res = pr) := hide (by
              rw [unhide RES, unhide HDR, lookL, unhide HPR, if_pos hp0])
            have hb0 : (pr.2 != 0) = true := by simpa using hp0
            clear hp0
            go_wp2_with fail
            go_ret
            obtain rfl := unhide HRES
            exact ⟨rfl, unhide G3, unhide N3, unhide H80⟩
        · obtain rfl : i = ks.length := by omega
          have HRES : Hid (res = (m, 0)) := hide (by rw [unhide RES, List.drop_length, lookL])
          go_wp2_with fail
          go_ret
          obtain rfl := unhide HRES
          exact ⟨rfl, unhide G, unhide NM, fun _ => hm80⟩
set_option maxHeartbeats 1000000 in
theorem Check_any (r : Rx) (v : Value) (w : World) (hV : RexV w v r) :
    Calls Tryd.prog 36 #[v] w fun e w' => e = .returned (.int .i64 (chkR r)) ∧ Below w.heap.size w w' := by
  obtain ⟨t, ht, hk⟩ := hV.val
  have HC := hide (fun W b n => check_any w (w.heap.size + 1) r v 1 0 W hV b n (by omega) (by omega))
  obtain ⟨o, c, rfl, _⟩ := hk.form
  obtain ⟨k, ⟨s1, s2, s3, s4⟩, ks⟩ := r
  have HR : Hid (chkR (.mk k ⟨s1, s2, s3, s4⟩ ks) = (lookR (.mk k ⟨s1, s2, s3, s4⟩ ks) 1 0).2) := hide rfl
  generalize lookR (.mk k ⟨s1, s2, s3, s4⟩ ks) 1 0 = pr at *
  generalize chkR (.mk k ⟨s1, s2, s3, s4⟩ ks) = res at *
  subst ht
  unfold rexV at *
  simp only [Rx.k, Rx.s, Rx.ks] at *
  obtain ⟨P, hP⟩ : ∃ P, Obj.cells #[.int .i64 k, .int .u64 s1, .int .u64 s2, .int .u64 s3, .int .u64 s4, .slice o ks.length c] 38 = P := ⟨_, rfl⟩
  have hn : Num1 ((w.alloc P).alloc (.cells #[.int .i64 0] 3)) w.heap.size (w.heap.size + 1) 0 := by
    have := num1_new (w.alloc P) 0 (B := w.heap.size) (by simp)
    rwa [show (w.alloc P).heap.size = w.heap.size + 1 by simp] at this
  have HC2 := hide ((unhide HC) _ (((Below.refl _ w).alloc (Nat.le_refl _) P).alloc (by simp) (.cells #[.int .i64 0] 3)) hn)
  have hb2 : Hid (Below w.heap.size w ((w.alloc P).alloc (.cells #[.int .i64 0] 3))) := hide (((Below.refl _ w).alloc (Nat.le_refl _) P).alloc (by simp) _)
  rw [← hP] at HC2 hb2
  clear hP P HC hn hV hk
  go_enter Tryd.func36, Tryd.ntmps36
  go_wp2_with fail
  refine (unhide HC2).mono ?_
  rintro e w3 ⟨rfl, hg3, hn3, h80⟩
  have B3 := hide (below_of (unhide hb2) hg3 (Nat.le_succ _))
  clear hg3 hn3 h80 HC2
  go_wp2_with fail
  go_ret
  exact ⟨by rw [unhide HR]; rfl, unhide B3⟩
end Go.Proofs.YtmgealcolofomaaDoor
