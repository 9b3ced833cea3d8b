/- How the document writes expressions: a kid, in brackets or not. -/
import Derived.Test.YtgcdpgdfcaglmaaHk
namespace Go.Proofs.Ytgcdpgdfcaglmaa
open Go.RowKit Kb Pop
set_option linter.unusedVariables false
set_option maxRecDepth 20000

/-- what RexText does with an expression -/
def RT (x : Ex) : Prop := ∀ (w : World) (rv : Value), RexV w rv x.rx → x.nodes ≤ 80 → x.Full →
    Calls Try.prog 8 #[rv] w fun e w' => e = .returned (.string (mk x.tx)) ∧ Below w.heap.size w w'
set_option maxHeartbeats 4000000 in
theorem kidT_any (x : Ex) (HX : RT x) (hn : x.nodes ≤ 80) (hfl : x.Full) (w : World) (i K c1 g1 f1 gb : Nat) (e1 : Value) (kx : Kd w x.rx.ks e1) (fx : Fit x.rx)
    (a0 : w.cell? ⟨g1, f1 + i * 6, none⟩ = some (.int .i64 x.rx.k)) (a1 : w.cell? ⟨g1, f1 + i * 6 + 1, none⟩ = some (.int .u64 x.rx.s.a)) (a2 : w.cell? ⟨g1, f1 + i * 6 + 2, none⟩ = some (.int .u64 x.rx.s.b)) (a3 : w.cell? ⟨g1, f1 + i * 6 + 3, none⟩ = some (.int .u64 x.rx.s.c)) (a4 : w.cell? ⟨g1, f1 + i * 6 + 4, none⟩ = some (.int .u64 x.rx.s.d)) (a5 : w.cell? ⟨g1, f1 + i * 6 + 5, none⟩ = some e1)
    (hg1 : g1 < w.heap.size) (hgb : gb < w.heap.size) (c5 : w.cell? ⟨gb, 5, none⟩ = some (.slice (some ⟨g1, f1, none⟩) K c1)) (hi : i < K) (hK : K ≤ 140737488355328)
    (ks : List Int) (hkl : ks.length ≤ 4) (h : Nat) (o : Option Addr) (c : Nat) (ho : ks ≠ [] → o = some ⟨h, 0, none⟩) (hh : ks ≠ [] → h < w.heap.size) (hks : ∀ j q, ks[j]? = some q → w.cell? ⟨h, j, none⟩ = some (.int .i64 q)) :
    Calls Try.prog 19 #[.int .i64 i, .slice o ks.length c, .pointer (some ⟨gb, 0, none⟩)] w fun e w' => e = .returned (.string (mk (brk (decide (x.kind ∈ ks)) x.tx))) ∧ Below w.heap.size w w' := by
  have HREC := hide (HX w (rexV x.rx e1) ⟨⟨e1, rfl, kx⟩, fx⟩ hn hfl)
  have htl := tx_len x
  have hkp := Ex.kind_pos x
  rw [Ex.rx_k] at a0
  unfold rexV at HREC
  rw [Ex.rx_k] at HREC
  obtain ⟨oe1, ce1, hfe1, _⟩ := kx.form
  subst hfe1
  obtain ⟨l1, hl1⟩ : ∃ l1, x.rx.ks.length = l1 := ⟨_, rfl⟩
  obtain ⟨⟨x1, x2, x3, x4⟩, hx1⟩ : ∃ z, x.rx.s = z := ⟨_, rfl⟩
  obtain ⟨q, hq⟩ : ∃ q, x.kind = q := ⟨_, rfl⟩
  obtain ⟨T, hT⟩ : ∃ T, x.tx = T := ⟨_, rfl⟩
  rw [hl1] at a5 HREC
  rw [hx1] at a1 a2 a3 a4 HREC
  rw [hq] at a0 HREC hkp ⊢
  rw [hT] at HREC htl ⊢
  dsimp only at a1 a2 a3 a4 HREC
  have hTs : (mk T).size ≤ 200000 := by rw [mk_size]; omega
  have HM : Hid (∀ b, brk b T = if b = true then 40 :: (T ++ [41]) else T) := hide (fun b => rfl)
  obtain ⟨mT, hmT⟩ : ∃ m, mk T = m := ⟨_, rfl⟩
  have HMT := hide hmT
  rw [hmT] at HREC hTs
  have hiI : 0 ≤ (i : Int) ∧ (i : Int) < K := by omega
  have HA0 := hide a0
  have HC5 := hide c5
  have HKS := hide hks
  have HO := hide ho
  have HH := hide hh
  clear kx fx hl1 hx1 hq hT hmT htl HX hks ho hh hfl
  go_enter Try.func19, Try.ntmps19
  go_wp2_with fail
  refine (unhide HREC).mono ?_
  rintro e w2 ⟨rfl, b2⟩
  have B2 := hide b2
  have d0 := cell_below a0 hg1 b2
  have d5 := cell_below c5 hgb b2
  clear b2 a0 a1 a2 a3 a4 a5 c5 HREC
  go_wp2_with fail
  go_loopw [7] (fun y wr => ∃ j : Nat, y = .int .i64 j ∧ j ≤ ks.length ∧ Below w.heap.size w wr ∧ ∀ m, m < j → ks[m]? ≠ some q) (fun y _ => ks.length - (intOf y).toNat)
  case atStart => exact ⟨0, rfl, Nat.zero_le _, unhide B2, fun m hm => by omega⟩
  case round =>
    obtain ⟨j, rfl, hj, hb, hall⟩ := hrel
    have B := hide hb
    have ALL := hide hall
    clear hb hall d0 d5
    by_cases hjl : j < ks.length
    · have hne : ks ≠ [] := by intro e; rw [e] at hjl; simp at hjl
      obtain ⟨p, hp⟩ : ∃ p, ks[j]? = some p := ⟨ks[j], List.getElem?_eq_getElem hjl⟩
      have hcp := cell_below ((unhide HKS) j p hp) ((unhide HH) hne) (unhide B)
      have hoe := (unhide HO) hne
      subst hoe
      have d0 := cell_below (unhide HA0) hg1 (unhide B)
      have d5 := cell_below (unhide HC5) hgb (unhide B)
      have hjI : 0 ≤ (j : Int) ∧ (j : Int) < ks.length := by omega
      have hjI2 : (j : Int) < ks.length := by omega
      have HP := hide hp
      clear hp hne
      by_cases hqp : q = p
      · subst hqp
        have HT : Hid (decide (q ∈ ks) = true) := hide (by rw [decide_eq_true_iff]; exact List.mem_of_getElem? (unhide HP))
        have HM1 : Hid (mk (brk (decide (q ∈ ks)) T) = mk (40 :: (T ++ [41]))) := hide (by rw [unhide HT, (unhide HM) true, if_pos rfl])
        have hqq : (q == q) = true := by simp
        go_wp2_with fail
        go_quiet (fail)
        go_wp2_with fail
        go_ret
        refine ⟨?_, Go.below_drewN (unhide B) _⟩
        rw [unhide HM1]
        refine Kb.ret_str ?_
        rw [← unhide HMT]
        show (⟨#[40]⟩ : ByteArray) ++ mk T ++ ⟨#[41]⟩ = _
        rw [show (⟨#[40]⟩ : ByteArray) = mk [40] from rfl, show (⟨#[41]⟩ : ByteArray) = mk [41] from rfl, cat_mk, cat_mk]
        rfl
      · have hqq : (q == p) = false := by rw [beq_eq_false_iff_ne]; exact hqp
        have HQP := hide hqp
        clear hqp
        go_wp2_with fail
        go_quiet (fail)
        go_wp2_with fail
        refine ⟨⟨j + 1, by go_num, by omega, Go.below_drewN (unhide B) _, fun m hm => ?_⟩, by simp [intOf]; omega⟩
        by_cases e : m = j
        · subst e; rw [unhide HP]; intro e; exact (unhide HQP) (Option.some.inj e).symm
        · exact (unhide ALL) m (by omega)
    · obtain rfl : j = ks.length := by omega
      have HT : Hid (decide (q ∈ ks) = false) := hide (by
        rw [decide_eq_false_iff_not]
        intro hm
        obtain ⟨m, hm1, hm2⟩ := List.mem_iff_getElem.1 hm
        exact (unhide ALL) m hm1 (by rw [List.getElem?_eq_getElem hm1, hm2]))
      have HM1 : Hid (mk (brk (decide (q ∈ ks)) T) = mT) := hide (by rw [unhide HT, (unhide HM) false, if_neg (by simp)]; exact unhide HMT)
      go_wp2_with fail
      go_ret
      exact ⟨by rw [unhide HM1]; rfl, unhide B⟩
end Go.Proofs.Ytgcdpgdfcaglmaa
