/- The document's spans: the leaves. -/
import Derived.Test.YtjecopdbcaojcaaDoorZu
namespace Go.Proofs.YtjecopdbcaojcaaDoor
open Go.RowKit Kb
set_option linter.unusedVariables false
set_option maxRecDepth 20000
open Sp

/-- what the document's spans do -/
def DS (x : Ex) : Prop := ∀ (rv : Value) (s : ByteArray) (w : World), RexV w rv x.rx → x.Full → s.size ≤ 60 →
  Calls Tryd.prog 24 #[rv, .string s] w fun e w' => ∃ g h, e = .returned (.slice (some ⟨g, 0, none⟩) (s.size + 1) (s.size + 1)) ∧ TB w' g h s.size (M s.data.toList x) ∧ Below w.heap.size w w' ∧ w.heap.size ≤ g
/-- the box of an expression without kids, and what lies behind it -/
theorem leaf_box (w : World) (k s1 s2 s3 s4 : Int) (o : Option Addr) (c : Nat) : ∃ W1, w.alloc (.cells #[.int .i64 k, .int .u64 s1, .int .u64 s2, .int .u64 s3, .int .u64 s4, .slice o 0 c] 27) = W1 ∧ W1.heap.size = w.heap.size + 1 ∧ Below w.heap.size w W1 ∧
    ∀ W, Below W1.heap.size W1 W → W.cell? ⟨w.heap.size, 0, none⟩ = some (.int .i64 k) ∧ W.cell? ⟨w.heap.size, 1, none⟩ = some (.int .u64 s1) ∧ W.cell? ⟨w.heap.size, 2, none⟩ = some (.int .u64 s2) ∧ W.cell? ⟨w.heap.size, 3, none⟩ = some (.int .u64 s3) ∧ W.cell? ⟨w.heap.size, 4, none⟩ = some (.int .u64 s4) := by
  refine ⟨_, rfl, by simp, (Below.refl _ w).alloc (Nat.le_refl _) _, fun W b => ?_⟩
  have hl : w.heap.size < (w.alloc (.cells #[.int .i64 k, .int .u64 s1, .int .u64 s2, .int .u64 s3, .int .u64 s4, .slice o 0 c] 27)).heap.size := by simp
  refine ⟨(b.cell (p := ⟨w.heap.size, 0, none⟩) hl).trans ?_, (b.cell (p := ⟨w.heap.size, 1, none⟩) hl).trans ?_, (b.cell (p := ⟨w.heap.size, 2, none⟩) hl).trans ?_, (b.cell (p := ⟨w.heap.size, 3, none⟩) hl).trans ?_, (b.cell (p := ⟨w.heap.size, 4, none⟩) hl).trans ?_⟩ <;> (rw [World.cell?_alloc_new]; rfl)
set_option maxHeartbeats 2000000 in
theorem ds_none : DS .none := by
  intro rv s w hV hF hs
  obtain ⟨t, rfl, hkd⟩ := hV.val
  obtain ⟨o, c, rfl, _⟩ := hkd.form
  unfold rexV
  simp only [Ex.rx, Rx.k, Rx.s, Rx.ks, List.length_nil, noSet] at *
  obtain ⟨W1, hW1, hs1, hb1, hm⟩ := leaf_box w 1 0 0 0 0 o c
  have HM := hide hm
  have HB1 := hide hb1
  have HBK := hide (blank_any s.size (by omega) W1)
  obtain ⟨z0, _⟩ := hm W1 (Below.refl _ _)
  obtain ⟨T, hT2⟩ : ∃ T, M s.data.toList .none = T := ⟨_, rfl⟩
  rw [hT2]
  have HT2 := hide hT2
  clear hT2 hV hkd hm hb1 hs1 z0
  go_enter Tryd.func24, Tryd.ntmps24
  go_wp2_with fail
  clear hW1
  refine (unhide HBK).mono ?_
  rintro e w2 ⟨rfl, ht2, bb2⟩
  have TT2 := hide ht2
  have B2 := hide bb2
  obtain ⟨z0, _⟩ := (unhide HM) w2 bb2
  clear ht2 bb2 HBK
  go_wp2_with fail
  go_ret
  exact ⟨_, _, rfl, (unhide TT2).congr (fun i j _ _ => by rw [← unhide HT2]; try rfl), bel_trans (unhide HB1) (unhide B2), (unhide HB1).size⟩
set_option maxHeartbeats 2000000 in
theorem ds_beg : DS .beg := by
  intro rv s w hV hF hs
  obtain ⟨t, rfl, hkd⟩ := hV.val
  obtain ⟨o, c, rfl, _⟩ := hkd.form
  unfold rexV
  simp only [Ex.rx, Rx.k, Rx.s, Rx.ks, List.length_nil, noSet] at *
  obtain ⟨W1, hW1, hs1, hb1, hm⟩ := leaf_box w 7 0 0 0 0 o c
  have HM := hide hm
  have HB1 := hide hb1
  have HBK := hide (blank_any s.size (by omega) W1)
  obtain ⟨T, hT2⟩ : ∃ T, M s.data.toList .beg = T := ⟨_, rfl⟩
  rw [hT2]
  have HT2 := hide hT2
  clear hT2 hV hkd hm hs1 hb1
  go_enter Tryd.func24, Tryd.ntmps24
  go_wp2_with fail
  clear hW1
  refine (unhide HBK).mono ?_
  rintro e w2 ⟨rfl, ht2, bb2⟩
  have TT2 := hide ht2
  have B2 := hide bb2
  obtain ⟨z0, _⟩ := (unhide HM) w2 bb2
  have htop := ht2.top 0 (Nat.zero_le _)
  have hcell := ht2.cell 0 0 (Nat.zero_le _) (Nat.zero_le _)
  have hfr := ht2.froz 0 0 (Nat.zero_le _)
  rw [Nat.add_zero] at htop hcell hfr
  have HR := hide (ht2.put (Nat.zero_le _) (Nat.zero_le _) true)
  rw [Nat.add_zero] at HR
  clear ht2 bb2 HBK
  go_wp2_with fail
  go_ret
  refine ⟨_, _, rfl, (unhide HR).congr (fun i j _ _ => ?_), (bel_trans (unhide HB1) (unhide B2)).setCell (p := ⟨W1.heap.size + 1, 0, none⟩) (by have := (unhide HB1).size; simp; omega) _, (unhide HB1).size⟩
  rw [← unhide HT2, M]
  by_cases e : i = 0 ∧ j = 0
  · rw [if_pos e, decide_eq_true e]
  · rw [if_neg e, decide_eq_false e]
set_option maxHeartbeats 2000000 in
theorem ds_en : DS .en := by
  intro rv s w hV hF hs
  obtain ⟨t, rfl, hkd⟩ := hV.val
  obtain ⟨o, c, rfl, _⟩ := hkd.form
  unfold rexV
  simp only [Ex.rx, Rx.k, Rx.s, Rx.ks, List.length_nil, noSet] at *
  obtain ⟨W1, hW1, hs1, hb1, hm⟩ := leaf_box w 8 0 0 0 0 o c
  have HM := hide hm
  have HB1 := hide hb1
  have HBK := hide (blank_any s.size (by omega) W1)
  obtain ⟨T, hT2⟩ : ∃ T, M s.data.toList .en = T := ⟨_, rfl⟩
  rw [hT2]
  have HT2 := hide hT2
  clear hT2 hV hkd hm hs1 hb1
  go_enter Tryd.func24, Tryd.ntmps24
  go_wp2_with fail
  clear hW1
  refine (unhide HBK).mono ?_
  rintro e w2 ⟨rfl, ht2, bb2⟩
  have TT2 := hide ht2
  have B2 := hide bb2
  obtain ⟨z0, _⟩ := (unhide HM) w2 bb2
  have htop := ht2.top s.size (Nat.le_refl _)
  have hcell := ht2.cell s.size s.size (Nat.le_refl _) (Nat.le_refl _)
  have hfr := ht2.froz s.size s.size (Nat.le_refl _)
  have HR := hide (ht2.put (Nat.le_refl s.size) (Nat.le_refl s.size) true)
  have hI : (s.size : Int) < s.size + 1 := by omega
  clear ht2 bb2 HBK
  go_wp2_with fail
  go_ret
  refine ⟨_, _, rfl, (unhide HR).congr (fun i j _ _ => ?_), (bel_trans (unhide HB1) (unhide B2)).setCell (p := ⟨W1.heap.size + 1 + s.size, s.size, none⟩) (by have := (unhide HB1).size; simp; omega) _, (unhide HB1).size⟩
  rw [← unhide HT2, M, len_data]
  by_cases e : i = s.size ∧ j = s.size
  · rw [if_pos e, decide_eq_true e]
  · rw [if_neg e, decide_eq_false e]
set_option maxHeartbeats 2000000 in
theorem ds_emp : DS .emp := by
  intro rv s w hV hF hs
  obtain ⟨t, rfl, hkd⟩ := hV.val
  obtain ⟨o, c, rfl, _⟩ := hkd.form
  unfold rexV
  simp only [Ex.rx, Rx.k, Rx.s, Rx.ks, List.length_nil, noSet] at *
  obtain ⟨W1, hW1, hs1, hb1, hm⟩ := leaf_box w 2 0 0 0 0 o c
  have HM := hide hm
  have HB1 := hide hb1
  have HBK := hide (blank_any s.size (by omega) W1)
  obtain ⟨T, hT2⟩ : ∃ T, M s.data.toList .emp = T := ⟨_, rfl⟩
  rw [hT2]
  have HT2 := hide hT2
  clear hT2 hV hkd hm hs1 hb1
  go_enter Tryd.func24, Tryd.ntmps24
  go_wp2_with fail
  clear hW1
  refine (unhide HBK).mono ?_
  rintro e w2 ⟨rfl, ht2, bb2⟩
  have TT2 := hide ht2
  have B2 := hide (bel_trans (unhide HB1) bb2)
  obtain ⟨z0, _⟩ := (unhide HM) w2 bb2
  clear ht2 bb2 HBK
  go_wp2_with fail
  clear z0
  go_loopw [7] (fun x wr => ∃ i : Nat, x = .int .i64 i ∧ i ≤ s.size + 1 ∧ TB wr W1.heap.size (W1.heap.size + 1) s.size (fun a b => decide (a = b ∧ a < i)) ∧ Below w.heap.size w wr) (fun x _ => s.size + 1 - (intOf x).toNat)
  case atStart =>
    exact ⟨0, rfl, by omega, (unhide TT2).congr (fun i j _ _ => by rw [eq_comm, decide_eq_false_iff_not]; omega), unhide B2⟩
  case round =>
    clear TT2 B2
    obtain ⟨i, rfl, hi, ht, hb⟩ := hrel
    have TH := hide ht
    have BH := hide hb
    by_cases hlt : i ≤ s.size
    · have hI : (i : Int) ≤ s.size := by omega
      have hI2 : (i : Int) < s.size + 1 := by omega
      have htop := ht.top i hlt
      have hcell := ht.cell i i hlt hlt
      have hfr := ht.froz i i hlt
      have HR := hide (ht.put hlt hlt true)
      obtain ⟨q, hq⟩ : ∃ q, decide (i = i ∧ i < i) = q := ⟨_, rfl⟩
      rw [hq] at hcell
      clear ht hb hq
      go_wp2_with fail
      refine ⟨⟨i + 1, by go_num, by omega, (unhide HR).congr (fun a b _ _ => ?_), (unhide BH).setCell (p := ⟨W1.heap.size + 1 + i, i, none⟩) (by have := (unhide HB1).size; simp; omega) _⟩, by simp [intOf]; omega⟩
      by_cases e : a = i ∧ b = i
      · rw [if_pos e, eq_comm, decide_eq_true_eq]; omega
      · rw [if_neg e, decide_eq_decide]; omega
    · have hI : ¬ ((i : Int) ≤ s.size) := by omega
      have HR : Hid (TB wr W1.heap.size (W1.heap.size + 1) s.size T) := hide (ht.congr (fun a b ha hb => by rw [← unhide HT2, M, decide_eq_decide, len_data]; omega))
      clear ht hb
      go_wp2_with fail
      go_ret
      first
        | exact ⟨_, _, rfl, unhide HR, unhide BH, (unhide HB1).size⟩
        | exact ⟨_, rfl, ⟨_, unhide HR⟩, unhide BH, (unhide HB1).size⟩
        | exact ⟨_, rfl, ⟨_, unhide HR, unhide BH⟩, (unhide HB1).size⟩
set_option maxHeartbeats 4000000 in
theorem ds_byte (t : Se) : DS (.byte t) := by
  intro rv s w hV hF hs
  obtain ⟨e, rfl, hkd⟩ := hV.val
  obtain ⟨o, c, rfl, _⟩ := hkd.form
  unfold rexV
  obtain ⟨T, hT2⟩ : ∃ T, M s.data.toList (.byte t) = T := ⟨_, rfl⟩
  rw [hT2]
  have HT2 := hide hT2
  have HIS := hide (fun (b : Nat) (hb : b < 256) (W : World) => is_any t b W hF.2 hb)
  have HBT : Hid (∀ i c, s.data.toList[i]? = some c → ∀ j, T i j = (decide (j = i + 1) && bit t c.toNat)) := hide (fun i c hc j => by rw [← hT2, M, hc])
  obtain ⟨t1, t2, t3, t4⟩ := t
  unfold setV at HIS
  simp only [Ex.rx, Rx.k, Rx.s, Rx.ks, List.length_nil] at *
  obtain ⟨W1, hW1, hs1, hb1, hm⟩ := leaf_box w 3 t1 t2 t3 t4 o c
  have HM := hide hm
  have HB1 := hide hb1
  have HBK := hide (blank_any s.size (by omega) W1)
  clear hT2 hV hkd hm hs1 hb1 hF
  go_enter Tryd.func24, Tryd.ntmps24
  go_wp2_with fail
  clear hW1
  refine (unhide HBK).mono ?_
  rintro e w2 ⟨rfl, ht2, bb2⟩
  have TT2 := hide ht2
  have B2 := hide bb2
  obtain ⟨z0, _⟩ := (unhide HM) w2 bb2
  clear ht2 bb2 HBK
  go_wp2_with fail
  clear z0
  go_loopw [8] (fun x wr => ∃ i : Nat, x = .int .i64 i ∧ i ≤ s.size ∧ TB wr W1.heap.size (W1.heap.size + 1) s.size (fun a b => decide (a < i) && T a b) ∧ Below W1.heap.size W1 wr) (fun x _ => s.size + 1 - (intOf x).toNat)
  case atStart =>
    exact ⟨0, rfl, by omega, (unhide TT2).congr (fun i j _ _ => by simp), unhide B2⟩
  case round =>
    clear TT2 B2
    obtain ⟨i, rfl, hi, ht, hb⟩ := hrel
    have TH := hide ht
    have BH := hide hb
    by_cases hlt : i < s.size
    · have hI : (i : Int) < s.size := by omega
      have hI2 : (i : Int) < s.size + 1 := by omega
      have hI3 : (i : Int) + 1 < s.size + 1 := by omega
      have hw1 : IntKind.i64.wrap ((i : Int) + 1) = (i : Int) + 1 := Kb.wr64 _ (by omega) (by omega)
      have htn : ((i : Int) + 1).toNat = i + 1 := by omega
      obtain ⟨cb, hcb⟩ : ∃ cb, s[i] = cb := ⟨_, rfl⟩
      have hci : s.data.toList[i]? = some cb := by rw [← hcb]; exact List.getElem?_eq_getElem (by simpa using hlt)
      have HBI := hide ((unhide HBT) i cb hci)
      obtain ⟨bt, hbt⟩ : ∃ b, bit ⟨t1, t2, t3, t4⟩ cb.toNat = b := ⟨_, rfl⟩
      have HII := hide ((unhide HIS) cb.toNat cb.toNat_lt)
      rw [hbt] at HII HBI
      have hwc : IntKind.i64.wrap (cb.toNat : Int) = (cb.toNat : Int) := Kb.wr64 _ (by omega) (by have := cb.toNat_lt; omega)
      rw [← hwc] at HII
      clear hwc
      obtain ⟨q, hq⟩ : ∃ q, (decide (i < i) && T i (i + 1)) = q := ⟨_, rfl⟩
      have HFA : Hid (∀ W, Below wr.heap.size wr W → W.cell? ⟨W1.heap.size, i, none⟩ = some (.slice (some ⟨W1.heap.size + 1 + i, 0, none⟩) (s.size + 1) (s.size + 1)) ∧ W.cell? ⟨W1.heap.size + 1 + i, i + 1, none⟩ = some (.bool q) ∧ W.frozen? ⟨W1.heap.size + 1 + i, i + 1, none⟩ = false ∧ W.cell? ⟨w.heap.size, 1, none⟩ = some (.int .u64 t1) ∧ W.cell? ⟨w.heap.size, 2, none⟩ = some (.int .u64 t2) ∧ W.cell? ⟨w.heap.size, 3, none⟩ = some (.int .u64 t3) ∧ W.cell? ⟨w.heap.size, 4, none⟩ = some (.int .u64 t4)) := hide (fun W k => by
        have h := ht.below k
        have hcc := h.cell i (i + 1) (by omega) (by omega)
        rw [hq] at hcc
        obtain ⟨_, m1, m2, m3, m4⟩ := (unhide HM) W (bel_trans hb k)
        exact ⟨h.top i (by omega), hcc, h.froz i (i + 1) (by omega), m1, m2, m3, m4⟩)
      have HPT : Hid (∀ W, Below wr.heap.size wr W → TB (W.setCell ⟨W1.heap.size + 1 + i, i + 1, none⟩ (.bool bt)) W1.heap.size (W1.heap.size + 1) s.size (fun a b => decide (a < i + 1) && T a b) ∧ Below W1.heap.size W1 (W.setCell ⟨W1.heap.size + 1 + i, i + 1, none⟩ (.bool bt))) := hide (fun W k => by
        refine ⟨((ht.below k).put (i := i) (j := i + 1) (by omega) (by omega) bt).congr (fun a b _ _ => ?_), (bel_trans hb k).setCell (p := ⟨W1.heap.size + 1 + i, i + 1, none⟩) (by simp; omega) _⟩
        by_cases e : a = i
        · subst e
          rw [decide_eq_true (by omega : a < a + 1), Bool.true_and, (unhide HBI) b]
          by_cases e2 : b = a + 1
          · rw [if_pos ⟨rfl, e2⟩, decide_eq_true e2, Bool.true_and]
          · rw [if_neg (fun h => e2 h.2), decide_eq_false e2, decide_eq_false (by omega : ¬ a < a)]; simp
        · rw [if_neg (fun h => e h.1)]
          congr 1
          rw [decide_eq_decide]; omega)
      obtain ⟨f0, f1, f2, f3, f4, f5, f6⟩ := (unhide HFA) wr (Below.refl _ _)
      clear ht hb hq hci hbt
      go_wp2_with fail
      go_region_with (go_at_call 43; refine ((unhide HII) _).mono ?_; rintro e w3 ⟨rfl, b3⟩; have b4 : Below wr.heap.size wr w3 := ⟨b3.os, b3.tape, b3.output, b3.size, b3.block⟩; obtain ⟨f0, f1, f2, f3, f4, f5, f6⟩ := (unhide HFA) w3 b4)
      all_goals (
        have hp := (unhide HPT) w3 b4
        have HP := hide hp
        clear hp b3 f0 f1 f2 f3 f4 f5 f6 HFA HPT
        go_wp2_with fail
        exact ⟨⟨i + 1, by go_num, by omega, (unhide HP).1, (unhide HP).2⟩, by simp [intOf]; omega⟩)
    · have hI : ¬ ((i : Int) < s.size) := by omega
      have HR : Hid (TB wr W1.heap.size (W1.heap.size + 1) s.size T) := hide (ht.congr (fun a b ha hb => by
        by_cases e : a < i
        · rw [decide_eq_true e, Bool.true_and]
        · rw [decide_eq_false e, Bool.false_and]
          cases h : T a b with
          | false => rfl
          | true =>
            rw [← unhide HT2] at h
            obtain ⟨c, hc, _⟩ := (M_byte _ _ _ _).1 h
            have := (List.getElem?_eq_some_iff.1 hc).1
            simp at this
            omega))
      clear ht hb
      go_wp2_with fail
      go_ret
      first
        | exact ⟨_, _, rfl, unhide HR, bel_trans (unhide HB1) (unhide BH), (unhide HB1).size⟩
        | exact ⟨_, rfl, ⟨_, unhide HR⟩, bel_trans (unhide HB1) (unhide BH), (unhide HB1).size⟩
end Go.Proofs.YtjecopdbcaojcaaDoor
