/- The document's spans of either of two. -/
import Derived.Test.YtjecopdbcaojcaaDoorZv
import Derived.Deep.CutRange
import Derived.Deep.RegionLaw
import Derived.BigRegion
namespace Go.Proofs.YtjecopdbcaojcaaDoor
open Go.RowKit Kb
set_option linter.unusedVariables false
set_option maxRecDepth 20000
open Sp

namespace Sp
theorem TB.far {W : World} {g h n : Nat} {T : Nat → Nat → Bool} (t : TB W g h n T) {q j : Nat} (v : Value) (hq : q < g) : TB (W.setCell ⟨q, j, none⟩ v) g h n T :=
  t.kept (by simp) (fun k hk => Below.heap_setCell _ _ _ _ (by have := t.gh; show k ≠ q; omega))
end Sp
set_option maxRecDepth 200000 in
set_option maxHeartbeats 8000000 in
theorem ds_alt (a b : Ex) (ha : DS a) (hb : DS b) : DS (.alt a b) := by
  intro rv s w hV hF hs
  obtain ⟨t, rfl, hkd⟩ := hV.val
  obtain ⟨g1, off, c, o1, l1, c1, rfl, hva, hcl⟩ := kidA' hkd (x := a.rx) rfl
  obtain ⟨o2, l2, c2, hvb, hclb⟩ := kidB' hkd (x := b.rx) rfl
  have HA := hide (fun (W : World) (k : Below w.heap.size w W) => ha _ s W (hva.below k) hF.1 hs)
  have HB := hide (fun (W : World) (k : Below w.heap.size w W) => hb _ s W (hvb.below k) hF.2 hs)
  obtain ⟨A, hA⟩ : ∃ A, M s.data.toList a = A := ⟨_, rfl⟩
  obtain ⟨B, hB⟩ : ∃ B, M s.data.toList b = B := ⟨_, rfl⟩
  obtain ⟨T, hTT⟩ : ∃ T, M s.data.toList (.alt a b) = T := ⟨_, rfl⟩
  have HOA : Hid (∀ i j, A i j = true → i ≤ j ∧ j ≤ s.size) := hide (fun i j h => by rw [← hA] at h; exact M_okm s a i j h)
  have HOB : Hid (∀ i j, B i j = true → i ≤ j ∧ j ≤ s.size) := hide (fun i j h => by rw [← hB] at h; exact M_okm s b i j h)
  have HTT : Hid (∀ i j, T i j = (A i j || B i j)) := hide (fun i j => by rw [← hTT, ← hA, ← hB, M])
  rw [hA] at HA
  rw [hB] at HB
  rw [hTT]
  obtain ⟨x0, hx0⟩ : ∃ z, a.rx.k = z := ⟨_, rfl⟩
  obtain ⟨⟨x1, x2, x3, x4⟩, hx1⟩ : ∃ z, a.rx.s = z := ⟨_, rfl⟩
  obtain ⟨q0, hq0⟩ : ∃ z, b.rx.k = z := ⟨_, rfl⟩
  obtain ⟨⟨q1, q2, q3, q4⟩, hq1⟩ : ∃ z, b.rx.s = z := ⟨_, rfl⟩
  rw [hx0, hx1] at HA hcl
  rw [hq0, hq1] at HB hclb
  dsimp only at HA HB hcl hclb
  have HCL := hide hcl
  have HCB := hide hclb
  clear hva hvb hx0 hx1 hq0 hq1 hcl hclb hA hB hTT
  unfold rexV
  simp only [Ex.rx, Rx.k, Rx.s, Rx.ks, List.length_cons, List.length_nil, noSet, Nat.zero_add, Nat.reduceAdd] at *
  obtain ⟨W1, hW1⟩ : ∃ W1, w.alloc (.cells #[.int .i64 5, .int .u64 0, .int .u64 0, .int .u64 0, .int .u64 0, .slice (some ⟨g1, off, none⟩) 2 c] 27) = W1 := ⟨_, rfl⟩
  have hb1 : Below w.heap.size w W1 := by rw [← hW1]; exact (Below.refl _ w).alloc (Nat.le_refl _) _
  have hu0 : W1.cell? ⟨w.heap.size, 0, none⟩ = some (.int .i64 5) := by rw [← hW1, World.cell?_alloc_new]; rfl
  have hu5 : W1.cell? ⟨w.heap.size, 5, none⟩ = some (.slice (some ⟨g1, off, none⟩) 2 c) := by rw [← hW1, World.cell?_alloc_new]; rfl
  have hl1 : w.heap.size < W1.heap.size := by rw [← hW1]; simp
  have HMC : Hid (∀ W, Below W1.heap.size W1 W → W.cell? ⟨w.heap.size, 0, none⟩ = some (.int .i64 5) ∧ W.cell? ⟨w.heap.size, 5, none⟩ = some (.slice (some ⟨g1, off, none⟩) 2 c) ∧ Below w.heap.size w W) := hide (fun W k => ⟨(k.cell (p := ⟨w.heap.size, 0, none⟩) hl1).trans hu0, (k.cell (p := ⟨w.heap.size, 5, none⟩) hl1).trans hu5, bel_trans hb1 k⟩)
  have HB1 := hide hb1
  have HL1 := hide hl1
  have HBK := hide (blank_any s.size (by omega) W1)
  clear hV hkd hb1 hu0 hu5 hl1 hF
  go_enter Tryd.func24, Tryd.ntmps24
  go_wp2_with fail
  clear hW1
  refine (unhide HBK).mono ?_
  rintro e w2 ⟨rfl, ht2, bb2⟩
  have TT2 := hide ht2
  have B2 := hide bb2
  obtain ⟨u0, u5, hbw⟩ := (unhide HMC) w2 bb2
  obtain ⟨y0, y1, y2, y3, y4, y5, _⟩ := (unhide HCL) w2 hbw
  obtain ⟨z0, z1, z2, z3, z4, z5⟩ := (unhide HCB) w2 hbw
  clear ht2 bb2 HBK hbw
  go_upto_region 19 with fail
  go_cut [9, 10] from 78 to 89 (fun v9 v10 wx => ∃ ga ha gb hb, v9 = .slice (some ⟨ga, 0, none⟩) (s.size + 1) (s.size + 1) ∧ v10 = .slice (some ⟨gb, 0, none⟩) (s.size + 1) (s.size + 1) ∧ TB wx ga ha s.size A ∧ TB wx gb hb s.size B ∧ w2.heap.size ≤ ga ∧ w2.heap.size ≤ gb ∧ Below w2.heap.size w2 wx)
  case first =>
    have HBC : Hid (Below w2.heap.size w2 w2.drew) := hide (Below.refl _ _).drew
    clear u0
    go_region_law (first
      | (go_simp; go_at_call_of 24 x0; refine ((unhide HA) _ ((unhide HMC) _ (bel_trans (unhide B2) (unhide HBC))).2.2).mono ?_; rintro e w3 ⟨ga, ha, rfl, ta, ba, la⟩; have hla := Nat.le_trans (unhide HBC).size la; have hbc := bel_trans (unhide HBC) ba; obtain ⟨_, u5, hbw⟩ := (unhide HMC) _ (bel_trans (unhide B2) hbc); obtain ⟨y0, y1, y2, y3, y4, y5, _⟩ := (unhide HCL) _ hbw; obtain ⟨z0, z1, z2, z3, z4, z5⟩ := (unhide HCB) _ hbw; (try have HTB := hide ((unhide HTB).below ba)); have HTA := hide ta; have HLA := hide hla; have HBC := hide hbc; clear ta ba la hla hbc hbw HA)
      | (go_simp; go_at_call_of 24 q0; refine ((unhide HB) _ ((unhide HMC) _ (bel_trans (unhide B2) (unhide HBC))).2.2).mono ?_; rintro e w4 ⟨gb, hb, rfl, tb, bb, lb⟩; have hlb := Nat.le_trans (unhide HBC).size lb; have hbc := bel_trans (unhide HBC) bb; obtain ⟨_, u5, hbw⟩ := (unhide HMC) _ (bel_trans (unhide B2) hbc); obtain ⟨y0, y1, y2, y3, y4, y5, _⟩ := (unhide HCL) _ hbw; obtain ⟨z0, z1, z2, z3, z4, z5⟩ := (unhide HCB) _ hbw; (try have HTA := hide ((unhide HTA).below bb)); have HTB := hide tb; have HLB := hide hlb; have HBC := hide hbc; clear tb bb lb hlb hbc hbw HB))
    all_goals (
      go_wp2_with fail
      go_meet
      exact ⟨_, _, _, _, rfl, rfl, unhide HTA, unhide HTB, unhide HLA, unhide HLB, unhide HBC⟩)
  case rest =>
    obtain ⟨ga, ha, gb, hb, rfl, rfl, ta, tb, la, lb, bc⟩ := hcut
    have TA := hide ta
    have TBB := hide tb
    have LT := hide (unhide TT2).lt
    have LA := hide la
    have LB := hide lb
    have TO := hide ((unhide TT2).below bc)
    have BC := hide (bel_trans (unhide HB1) (bel_trans (unhide B2) bc))
    obtain ⟨u0, u5, _⟩ := (unhide HMC) wc (bel_trans (unhide B2) bc)
    clear ta tb la lb bc y0 y1 y2 y3 y4 y5 z0 z1 z2 z3 z4 z5 HA HB HCL HCB TT2
    go_wp2_with fail
    clear u0 u5
    go_loopw [11] (fun x wr => ∃ i : Nat, x = .int .i64 i ∧ i ≤ s.size + 1 ∧ TB wr W1.heap.size (W1.heap.size + 1) s.size (fun a b => decide (a < i) && T a b) ∧ TB wr ga ha s.size A ∧ TB wr gb hb s.size B ∧ Below w.heap.size w wr) (fun x _ => s.size + 1 - (intOf x).toNat)
    case atStart => exact ⟨0, rfl, by omega, (unhide TO).congr (fun i j _ _ => by simp), unhide TA, unhide TBB, unhide BC⟩
    case round =>
      clear TO TA TBB BC
      obtain ⟨i, rfl, hi, ho, ta, tb, hbel⟩ := hrel
      have TO := hide ho
      have TA := hide ta
      have TBB := hide tb
      have BC := hide hbel
      clear ho ta tb hbel
      by_cases hlt : i ≤ s.size
      · have hI : (i : Int) ≤ s.size := by omega
        go_wp2_with fail
        go_loopw [12] (fun x wr => ∃ j : Nat, x = .int .i64 j ∧ i ≤ j ∧ j ≤ s.size + 1 ∧ TB wr W1.heap.size (W1.heap.size + 1) s.size (fun a b => (decide (a < i) || (decide (a = i) && decide (b < j))) && T a b) ∧ TB wr ga ha s.size A ∧ TB wr gb hb s.size B ∧ Below w.heap.size w wr) (fun x _ => s.size + 1 - (intOf x).toNat)
        case atStart =>
          refine ⟨i, rfl, by omega, by omega, (unhide TO).congr (fun a b _ _ => ?_), unhide TA, unhide TBB, unhide BC⟩
          by_cases e : a = i ∧ b < i
          · obtain ⟨rfl, h2⟩ := e
            have : T a b = false := by
              rw [(unhide HTT) a b]
              cases h1 : A a b with
              | true => have := (unhide HOA) a b h1; omega
              | false =>
                cases h3 : B a b with
                | true => have := (unhide HOB) a b h3; omega
                | false => rfl
            rw [this]; simp
          · have : (decide (a = i) && decide (b < i)) = false := by
              rw [Bool.eq_false_iff]; intro h; simp at h; exact e h
            rw [this, Bool.or_false]
        case round =>
          clear TO TA TBB BC
          obtain ⟨j, rfl, hij, hj, ho, ta, tb, hbel⟩ := hrel
          have TO := hide ho
          have TA := hide ta
          have TBB := hide tb
          have BC := hide hbel
          clear ho ta tb hbel
          by_cases hlj : j ≤ s.size
          · have hI2 : (j : Int) ≤ s.size := by omega
            have hI3 : (i : Int) < s.size + 1 := by omega
            have hI4 : (j : Int) < s.size + 1 := by omega
            have p0 := (unhide TO).top i hlt
            have p1 := (unhide TO).cell i j hlt hlj
            have p2 := (unhide TO).froz i j hlt
            have p3 := (unhide TA).top i hlt
            have p4 := (unhide TA).cell i j hlt hlj
            have p5 := (unhide TBB).top i hlt
            have p6 := (unhide TBB).cell i j hlt hlj
            obtain ⟨qo, hqo⟩ : ∃ q, ((decide (i < i) || (decide (i = i) && decide (j < j))) && T i j) = q := ⟨_, rfl⟩
            rw [hqo] at p1
            have htij := (unhide HTT) i j
            obtain ⟨ma, hma⟩ : ∃ q, A i j = q := ⟨_, rfl⟩
            obtain ⟨mb, hmb⟩ : ∃ q, B i j = q := ⟨_, rfl⟩
            rw [hma] at p4 htij
            rw [hmb] at p6 htij
            have HPT : Hid (∀ X : World, X = wr.setCell ⟨W1.heap.size + 1 + i, j, none⟩ (.bool (ma || mb)) → TB X W1.heap.size (W1.heap.size + 1) s.size (fun a b => (decide (a < i) || (decide (a = i) && decide (b < j + 1))) && T a b) ∧ TB X ga ha s.size A ∧ TB X gb hb s.size B ∧ Below w.heap.size w X) := hide (fun X hX => by
              subst hX
              have hlt1 := unhide LT
              have hla := unhide LA
              have hlb := unhide LB
              refine ⟨((unhide TO).put hlt hlj (ma || mb)).congr (fun a b _ _ => ?_), (unhide TA).far _ (by omega), (unhide TBB).far _ (by omega), (unhide BC).setCell (p := ⟨W1.heap.size + 1 + i, j, none⟩) (by have := unhide HL1; show w.heap.size ≤ W1.heap.size + 1 + i; omega) _⟩
              by_cases e : a = i ∧ b = j
              · obtain ⟨rfl, rfl⟩ := e
                rw [if_pos ⟨rfl, rfl⟩, htij]; simp
              · rw [if_neg e]
                congr 2
                by_cases e1 : a = i
                · rw [decide_eq_true e1, Bool.true_and, Bool.true_and, decide_eq_decide]; omega
                · rw [decide_eq_false e1, Bool.false_and, Bool.false_and])
            clear hqo htij hma hmb TO TA TBB BC
            cases ma
            · go_wp2_with fail
              go_big_region
              all_goals (
                have hp := (unhide HPT) _ (by rw [Bool.false_or])
                have HP := hide hp
                clear hp HPT p0 p1 p2 p3 p4 p5 p6
                go_wp2_with fail
                exact ⟨⟨j + 1, by go_num, by omega, by omega, (unhide HP).1.kept (Nat.le_refl _) (fun _ _ => rfl), (unhide HP).2.1.kept (Nat.le_refl _) (fun _ _ => rfl), (unhide HP).2.2.1.kept (Nat.le_refl _) (fun _ _ => rfl), ⟨(unhide HP).2.2.2.os, (unhide HP).2.2.2.tape, (unhide HP).2.2.2.output, (unhide HP).2.2.2.size, (unhide HP).2.2.2.block⟩⟩, by simp [intOf]; omega⟩)
            · go_wp2_with fail
              go_big_region
              all_goals (
                have hp := (unhide HPT) _ (by rw [Bool.true_or])
                have HP := hide hp
                clear hp HPT p0 p1 p2 p3 p4 p5 p6
                go_wp2_with fail
                exact ⟨⟨j + 1, by go_num, by omega, by omega, (unhide HP).1.kept (Nat.le_refl _) (fun _ _ => rfl), (unhide HP).2.1.kept (Nat.le_refl _) (fun _ _ => rfl), (unhide HP).2.2.1.kept (Nat.le_refl _) (fun _ _ => rfl), ⟨(unhide HP).2.2.2.os, (unhide HP).2.2.2.tape, (unhide HP).2.2.2.output, (unhide HP).2.2.2.size, (unhide HP).2.2.2.block⟩⟩, by simp [intOf]; omega⟩)
          · have hI2 : ¬ ((j : Int) ≤ s.size) := by omega
            have HN : Hid (TB wr W1.heap.size (W1.heap.size + 1) s.size (fun a b => decide (a < i + 1) && T a b)) := hide ((unhide TO).congr (fun a b _ hb => by
              congr 1
              by_cases e : a = i
              · rw [decide_eq_true e, decide_eq_true (by omega : b < j), decide_eq_true (by omega : a < i + 1)]; simp
              · rw [decide_eq_false e, Bool.false_and, Bool.or_false, decide_eq_decide]; omega))
            clear TO
            go_wp2_with fail
            exact ⟨⟨i + 1, by go_num, by omega, unhide HN, unhide TA, unhide TBB, unhide BC⟩, by simp [intOf]; omega⟩
      · have hI : ¬ ((i : Int) ≤ s.size) := by omega
        have HR : Hid (TB wr W1.heap.size (W1.heap.size + 1) s.size T) := hide ((unhide TO).congr (fun a b ha' _ => by rw [decide_eq_true (by omega : a < i), Bool.true_and]))
        have hs1 := (unhide HB1).size
        clear TO TA TBB
        go_wp2_with fail
        go_ret
        first
          | exact ⟨_, _, rfl, unhide HR, unhide BC, hs1⟩
          | exact ⟨_, rfl, ⟨_, unhide HR⟩, unhide BC, hs1⟩
end Go.Proofs.YtjecopdbcaojcaaDoor
