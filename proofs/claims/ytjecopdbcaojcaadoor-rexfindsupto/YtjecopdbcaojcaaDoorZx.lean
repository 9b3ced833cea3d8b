/- The document's spans of two, one behind the other. -/
import Derived.Test.YtjecopdbcaojcaaDoorZw
namespace Go.Proofs.YtjecopdbcaojcaaDoor
open Go.RowKit Kb
set_option linter.unusedVariables false
set_option maxRecDepth 20000
open Sp

namespace Sp
/-- a row of two behind each other: the places between them below m -/
def rowC (A B : Nat → Nat → Bool) (i m b : Nat) : Bool := (List.range m).any fun k => A i k && B k b
theorem rowC_succ (A B : Nat → Nat → Bool) (i m b : Nat) : rowC A B i (m + 1) b = (rowC A B i m b || (A i m && B m b)) := by
  unfold rowC
  rw [List.range_succ, List.any_append]
  simp
theorem rowC_none {A B : Nat → Nat → Bool} {i m b : Nat} (h : ∀ k, k < m → A i k = false) : rowC A B i m b = false := by
  unfold rowC
  rw [List.any_eq_false]
  intro k hk
  rw [h k (List.mem_range.1 hk)]; simp
end Sp
set_option maxRecDepth 200000 in
set_option maxHeartbeats 8000000 in
theorem ds_cat (a b : Ex) (ha : DS a) (hb : DS b) : DS (.cat a b) := by
  intro rv s w hV hF hs
  obtain ⟨t, rfl, hkd⟩ := hV.val
  obtain ⟨g1, off, c, o1, l1, c1, rfl, hva, hcl⟩ := kidA' hkd (x := a.rx) rfl
  obtain ⟨o2, l2, c2, hvb, hclb⟩ := kidB' hkd (x := b.rx) rfl
  have HA := hide (fun (W : World) (k : Below w.heap.size w W) => ha _ s W (hva.below k) hF.1 hs)
  have HB := hide (fun (W : World) (k : Below w.heap.size w W) => hb _ s W (hvb.below k) hF.2 hs)
  obtain ⟨A, hA⟩ : ∃ A, M s.data.toList a = A := ⟨_, rfl⟩
  obtain ⟨B, hB⟩ : ∃ B, M s.data.toList b = B := ⟨_, rfl⟩
  obtain ⟨T, hTT⟩ : ∃ T, M s.data.toList (.cat a b) = T := ⟨_, rfl⟩
  have HOA : Hid (∀ i j, A i j = true → i ≤ j ∧ j ≤ s.size) := hide (fun i j h => by rw [← hA] at h; exact M_okm s a i j h)
  have HOB : Hid (∀ i j, B i j = true → i ≤ j ∧ j ≤ s.size) := hide (fun i j h => by rw [← hB] at h; exact M_okm s b i j h)
  have HTT : Hid (∀ i j, T i j = rowC A B i (s.size + 1) j) := hide (fun i j => by rw [← hTT, ← hA, ← hB, M, len_data]; rfl)
  rw [hA] at HA
  rw [hB] at HB
  rw [hTT]
  obtain ⟨x0, hx0⟩ : ∃ z, a.rx.k = z := ⟨_, rfl⟩
  obtain ⟨⟨x1, x2, x3, x4⟩, hx1⟩ : ∃ z, a.rx.s = z := ⟨_, rfl⟩
  obtain ⟨q0, hq0⟩ : ∃ z, b.rx.k = z := ⟨_, rfl⟩
  obtain ⟨⟨q1, q2, q3, q4⟩, hq1⟩ : ∃ z, b.rx.s = z := ⟨_, rfl⟩
  rw [hx0, hx1] at HA hcl
  rw [hq0, hq1] at HB hclb
  dsimp only at HA HB hcl hclb
  have HCL := hide hcl
  have HCB := hide hclb
  clear hva hvb hx0 hx1 hq0 hq1 hcl hclb hA hB hTT
  unfold rexV
  simp only [Ex.rx, Rx.k, Rx.s, Rx.ks, List.length_cons, List.length_nil, noSet, Nat.zero_add, Nat.reduceAdd] at *
  obtain ⟨W1, hW1⟩ : ∃ W1, w.alloc (.cells #[.int .i64 4, .int .u64 0, .int .u64 0, .int .u64 0, .int .u64 0, .slice (some ⟨g1, off, none⟩) 2 c] 27) = W1 := ⟨_, rfl⟩
  have hb1 : Below w.heap.size w W1 := by rw [← hW1]; exact (Below.refl _ w).alloc (Nat.le_refl _) _
  have hu0 : W1.cell? ⟨w.heap.size, 0, none⟩ = some (.int .i64 4) := by rw [← hW1, World.cell?_alloc_new]; rfl
  have hu5 : W1.cell? ⟨w.heap.size, 5, none⟩ = some (.slice (some ⟨g1, off, none⟩) 2 c) := by rw [← hW1, World.cell?_alloc_new]; rfl
  have hl1 : w.heap.size < W1.heap.size := by rw [← hW1]; simp
  have HMC : Hid (∀ W, Below W1.heap.size W1 W → W.cell? ⟨w.heap.size, 0, none⟩ = some (.int .i64 4) ∧ W.cell? ⟨w.heap.size, 5, none⟩ = some (.slice (some ⟨g1, off, none⟩) 2 c) ∧ Below w.heap.size w W) := hide (fun W k => ⟨(k.cell (p := ⟨w.heap.size, 0, none⟩) hl1).trans hu0, (k.cell (p := ⟨w.heap.size, 5, none⟩) hl1).trans hu5, bel_trans hb1 k⟩)
  have HB1 := hide hb1
  have HL1 := hide hl1
  have HBK := hide (blank_any s.size (by omega) W1)
  clear hV hkd hb1 hu0 hu5 hl1 hF
  go_enter Tryd.func24, Tryd.ntmps24
  go_wp2_with fail
  clear hW1
  refine (unhide HBK).mono ?_
  rintro e w2 ⟨rfl, ht2, bb2⟩
  have TT2 := hide ht2
  have B2 := hide bb2
  obtain ⟨u0, u5, hbw⟩ := (unhide HMC) w2 bb2
  obtain ⟨y0, y1, y2, y3, y4, y5, _⟩ := (unhide HCL) w2 hbw
  obtain ⟨z0, z1, z2, z3, z4, z5⟩ := (unhide HCB) w2 hbw
  clear ht2 bb2 HBK hbw
  go_upto_region 28 with fail
  go_cut [13, 14] from 125 to 136 (fun v9 v10 wx => ∃ ga ha gb hb, v9 = .slice (some ⟨ga, 0, none⟩) (s.size + 1) (s.size + 1) ∧ v10 = .slice (some ⟨gb, 0, none⟩) (s.size + 1) (s.size + 1) ∧ TB wx ga ha s.size A ∧ TB wx gb hb s.size B ∧ w2.heap.size ≤ ga ∧ w2.heap.size ≤ gb ∧ Below w2.heap.size w2 wx)
  case first =>
    have HBC : Hid (Below w2.heap.size w2 w2.drew) := hide (Below.refl _ _).drew
    clear u0
    go_region_law (first
      | (go_simp; go_at_call_of 24 x0; refine ((unhide HA) _ ((unhide HMC) _ (bel_trans (unhide B2) (unhide HBC))).2.2).mono ?_; rintro e w3 ⟨ga, ha, rfl, ta, ba, la⟩; have hla := Nat.le_trans (unhide HBC).size la; have hbc := bel_trans (unhide HBC) ba; obtain ⟨_, u5, hbw⟩ := (unhide HMC) _ (bel_trans (unhide B2) hbc); obtain ⟨y0, y1, y2, y3, y4, y5, _⟩ := (unhide HCL) _ hbw; obtain ⟨z0, z1, z2, z3, z4, z5⟩ := (unhide HCB) _ hbw; (try have HTB := hide ((unhide HTB).below ba)); have HTA := hide ta; have HLA := hide hla; have HBC := hide hbc; clear ta ba la hla hbc hbw HA)
      | (go_simp; go_at_call_of 24 q0; refine ((unhide HB) _ ((unhide HMC) _ (bel_trans (unhide B2) (unhide HBC))).2.2).mono ?_; rintro e w4 ⟨gb, hb, rfl, tb, bb, lb⟩; have hlb := Nat.le_trans (unhide HBC).size lb; have hbc := bel_trans (unhide HBC) bb; obtain ⟨_, u5, hbw⟩ := (unhide HMC) _ (bel_trans (unhide B2) hbc); obtain ⟨y0, y1, y2, y3, y4, y5, _⟩ := (unhide HCL) _ hbw; obtain ⟨z0, z1, z2, z3, z4, z5⟩ := (unhide HCB) _ hbw; (try have HTA := hide ((unhide HTA).below bb)); have HTB := hide tb; have HLB := hide hlb; have HBC := hide hbc; clear tb bb lb hlb hbc hbw HB))
    all_goals (
      go_wp2_with fail
      go_meet
      exact ⟨_, _, _, _, rfl, rfl, unhide HTA, unhide HTB, unhide HLA, unhide HLB, unhide HBC⟩)
  case rest =>
    obtain ⟨ga, ha, gb, hb, rfl, rfl, ta, tb, la, lb, bc⟩ := hcut
    have TA := hide ta
    have TBB := hide tb
    have LT := hide (unhide TT2).lt
    have LA := hide la
    have LB := hide lb
    have TO := hide ((unhide TT2).below bc)
    have BC := hide (bel_trans (unhide HB1) (bel_trans (unhide B2) bc))
    obtain ⟨u0, u5, _⟩ := (unhide HMC) wc (bel_trans (unhide B2) bc)
    clear ta tb la lb bc y0 y1 y2 y3 y4 y5 z0 z1 z2 z3 z4 z5 HA HB HCL HCB TT2
    go_wp2_with fail
    clear u0 u5
    go_loopw [15] (fun x wr => ∃ i : Nat, x = .int .i64 i ∧ i ≤ s.size + 1 ∧ TB wr W1.heap.size (W1.heap.size + 1) s.size (fun a b => decide (a < i) && T a b) ∧ TB wr ga ha s.size A ∧ TB wr gb hb s.size B ∧ Below w.heap.size w wr) (fun x _ => s.size + 1 - (intOf x).toNat)
    case atStart => exact ⟨0, rfl, by omega, (unhide TO).congr (fun i j _ _ => by simp), unhide TA, unhide TBB, unhide BC⟩
    case round =>
      clear TO TA TBB BC
      obtain ⟨i, rfl, hi, ho, ta, tb, hbel⟩ := hrel
      have TO := hide ho
      have TA := hide ta
      have TBB := hide tb
      have BC := hide hbel
      clear ho ta tb hbel
      by_cases hlt : i ≤ s.size
      · have hI : (i : Int) ≤ s.size := by omega
        go_wp2_with fail
        go_loopw [16] (fun x wr => ∃ m : Nat, x = .int .i64 m ∧ i ≤ m ∧ m ≤ s.size + 1 ∧ TB wr W1.heap.size (W1.heap.size + 1) s.size (fun a b => (decide (a < i) && T a b) || (decide (a = i) && rowC A B i m b)) ∧ TB wr ga ha s.size A ∧ TB wr gb hb s.size B ∧ Below w.heap.size w wr) (fun x _ => s.size + 1 - (intOf x).toNat)
        case atStart =>
          refine ⟨i, rfl, by omega, by omega, (unhide TO).congr (fun a b _ _ => ?_), unhide TA, unhide TBB, unhide BC⟩
          have : rowC A B i i b = false := rowC_none (fun k hk => by
            cases h1 : A i k with
            | true => have := (unhide HOA) i k h1; omega
            | false => rfl)
          rw [this, Bool.and_false, Bool.or_false]
        case round =>
          clear TO TA TBB BC
          obtain ⟨m, rfl, him, hm, ho, ta, tb, hbel⟩ := hrel
          have TO := hide ho
          have TA := hide ta
          have TBB := hide tb
          have BC := hide hbel
          clear ho ta tb hbel
          by_cases hlm : m ≤ s.size
          · have hI1 : (m : Int) ≤ s.size := by omega
            go_wp2_with fail
            go_loopw [17] (fun x wr => ∃ j : Nat, x = .int .i64 j ∧ m ≤ j ∧ j ≤ s.size + 1 ∧ TB wr W1.heap.size (W1.heap.size + 1) s.size (fun a b => (decide (a < i) && T a b) || (decide (a = i) && (rowC A B i m b || (decide (b < j) && (A i m && B m b))))) ∧ TB wr ga ha s.size A ∧ TB wr gb hb s.size B ∧ Below w.heap.size w wr) (fun x _ => s.size + 1 - (intOf x).toNat)
            case atStart =>
              refine ⟨m, rfl, by omega, by omega, (unhide TO).congr (fun a b _ _ => ?_), unhide TA, unhide TBB, unhide BC⟩
              have : (decide (b < m) && (A i m && B m b)) = false := by
                by_cases e : b < m
                · have : B m b = false := by
                    cases h1 : B m b with
                    | true => have := (unhide HOB) m b h1; omega
                    | false => rfl
                  rw [this]; simp
                · rw [decide_eq_false e, Bool.false_and]
              rw [this, Bool.or_false]
            case round =>
              clear TO TA TBB BC
              obtain ⟨j, rfl, hmj, hj, ho, ta, tb, hbel⟩ := hrel
              have TO := hide ho
              have TA := hide ta
              have TBB := hide tb
              have BC := hide hbel
              clear ho ta tb hbel
              have hI3 : (i : Int) < s.size + 1 := by omega
              have hI5 : (m : Int) < s.size + 1 := by omega
              have p3 := (unhide TA).top i hlt
              have p4 := (unhide TA).cell i m hlt hlm
              obtain ⟨ma, hma⟩ : ∃ q, A i m = q := ⟨_, rfl⟩
              rw [hma] at p4
              have HMA := hide hma
              by_cases hgo : j ≤ s.size ∧ ma = true
              · obtain ⟨hlj, rfl⟩ := hgo
                have hI2 : (j : Int) ≤ s.size := by omega
                have hI4 : (j : Int) < s.size + 1 := by omega
                have p0 := (unhide TO).top i hlt
                have p1 := (unhide TO).cell i j hlt hlj
                have p2 := (unhide TO).froz i j hlt
                have p5 := (unhide TBB).top m hlm
                have p6 := (unhide TBB).cell m j hlm hlj
                obtain ⟨mb, hmb⟩ : ∃ q, B m j = q := ⟨_, rfl⟩
                rw [hmb] at p6
                obtain ⟨vo, hvo⟩ : ∃ q, rowC A B i m j = q := ⟨_, rfl⟩
                have e1 : ((decide (i < i) && T i j) || (decide (i = i) && (rowC A B i m j || (decide (j < j) && (A i m && B m j))))) = vo := by rw [hvo]; simp
                rw [e1] at p1
                have HPT : Hid (∀ X : World, X = wr.setCell ⟨W1.heap.size + 1 + i, j, none⟩ (.bool (vo || mb)) → TB X W1.heap.size (W1.heap.size + 1) s.size (fun a b => (decide (a < i) && T a b) || (decide (a = i) && (rowC A B i m b || (decide (b < j + 1) && (A i m && B m b))))) ∧ TB X ga ha s.size A ∧ TB X gb hb s.size B ∧ Below w.heap.size w X) := hide (fun X hX => by
                  subst hX
                  have hlt1 := unhide LT
                  have hla := unhide LA
                  have hlb := unhide LB
                  refine ⟨((unhide TO).put hlt hlj (vo || mb)).congr (fun a b _ _ => ?_), (unhide TA).far _ (by omega), (unhide TBB).far _ (by omega), (unhide BC).setCell (p := ⟨W1.heap.size + 1 + i, j, none⟩) (by have := unhide HL1; show w.heap.size ≤ W1.heap.size + 1 + i; omega) _⟩
                  by_cases e : a = i ∧ b = j
                  · obtain ⟨rfl, rfl⟩ := e
                    rw [if_pos ⟨rfl, rfl⟩, hma, hmb, hvo]; simp
                  · rw [if_neg e]
                    by_cases e2 : a = i
                    · rw [decide_eq_true e2, Bool.true_and, Bool.true_and]
                      congr 2
                      rw [show decide (b < j) = decide (b < j + 1) by rw [decide_eq_decide]; omega]
                    · rw [decide_eq_false e2, Bool.false_and, Bool.false_and])
                clear hmb hvo e1 hma TO TA TBB BC HMA
                cases vo
                · go_wp2_with fail
                  go_big_region
                  all_goals (
                    have hp := (unhide HPT) _ (by rw [Bool.false_or])
                    have HP := hide hp
                    clear hp HPT p0 p1 p2 p3 p4 p5 p6
                    go_wp2_with fail
                    exact ⟨⟨j + 1, by go_num, by omega, by omega, (unhide HP).1.kept (Nat.le_refl _) (fun _ _ => rfl), (unhide HP).2.1.kept (Nat.le_refl _) (fun _ _ => rfl), (unhide HP).2.2.1.kept (Nat.le_refl _) (fun _ _ => rfl), ⟨(unhide HP).2.2.2.os, (unhide HP).2.2.2.tape, (unhide HP).2.2.2.output, (unhide HP).2.2.2.size, (unhide HP).2.2.2.block⟩⟩, by simp [intOf]; omega⟩)
                · go_wp2_with fail
                  go_big_region
                  all_goals (
                    have hp := (unhide HPT) _ (by rw [Bool.true_or])
                    have HP := hide hp
                    clear hp HPT p0 p1 p2 p3 p4 p5 p6
                    go_wp2_with fail
                    exact ⟨⟨j + 1, by go_num, by omega, by omega, (unhide HP).1.kept (Nat.le_refl _) (fun _ _ => rfl), (unhide HP).2.1.kept (Nat.le_refl _) (fun _ _ => rfl), (unhide HP).2.2.1.kept (Nat.le_refl _) (fun _ _ => rfl), ⟨(unhide HP).2.2.2.os, (unhide HP).2.2.2.tape, (unhide HP).2.2.2.output, (unhide HP).2.2.2.size, (unhide HP).2.2.2.block⟩⟩, by simp [intOf]; omega⟩)
              · have HN : Hid (TB wr W1.heap.size (W1.heap.size + 1) s.size (fun a b => (decide (a < i) && T a b) || (decide (a = i) && rowC A B i (m + 1) b))) := hide ((unhide TO).congr (fun a b _ hb => by
                  rw [rowC_succ]
                  by_cases e : ma = true
                  · have hnj : ¬ j ≤ s.size := fun h => hgo ⟨h, e⟩
                    rw [decide_eq_true (by omega : b < j), Bool.true_and]
                  · have : A i m = false := by rw [unhide HMA]; simpa using e
                    rw [this]; simp))
                clear TO hma HMA
                by_cases hlj : j ≤ s.size
                · have hI2 : (j : Int) ≤ s.size := by omega
                  obtain rfl : ma = false := by
                    cases ma
                    · rfl
                    · exact absurd ⟨hlj, rfl⟩ hgo
                  clear hgo
                  go_wp2_with fail
                  exact ⟨⟨m + 1, by go_num, by omega, by omega, unhide HN, unhide TA, unhide TBB, unhide BC⟩, by simp [intOf]; omega⟩
                · have hI2 : ¬ ((j : Int) ≤ s.size) := by omega
                  clear hgo p3 p4
                  go_wp2_with fail
                  exact ⟨⟨m + 1, by go_num, by omega, by omega, unhide HN, unhide TA, unhide TBB, unhide BC⟩, by simp [intOf]; omega⟩
          · have hI1 : ¬ ((m : Int) ≤ s.size) := by omega
            have HN : Hid (TB wr W1.heap.size (W1.heap.size + 1) s.size (fun a b => decide (a < i + 1) && T a b)) := hide ((unhide TO).congr (fun a b _ hb => by
              have hms : m = s.size + 1 := by omega
              rw [hms]
              by_cases e : a = i
              · rw [decide_eq_true e, Bool.true_and, decide_eq_false (by omega : ¬ a < i), Bool.false_and, Bool.false_or, decide_eq_true (by omega : a < i + 1), Bool.true_and, (unhide HTT) a b, e]
              · rw [decide_eq_false e, Bool.false_and, Bool.or_false]
                congr 1
                rw [decide_eq_decide]; omega))
            clear TO
            go_wp2_with fail
            exact ⟨⟨i + 1, by go_num, by omega, unhide HN, unhide TA, unhide TBB, unhide BC⟩, by simp [intOf]; omega⟩
      · have hI : ¬ ((i : Int) ≤ s.size) := by omega
        have HR : Hid (TB wr W1.heap.size (W1.heap.size + 1) s.size T) := hide ((unhide TO).congr (fun a b ha' _ => by rw [decide_eq_true (by omega : a < i), Bool.true_and]))
        have hs1 := (unhide HB1).size
        clear TO TA TBB
        go_wp2_with fail
        go_ret
        first
          | exact ⟨_, _, rfl, unhide HR, unhide BC, hs1⟩
          | exact ⟨_, rfl, ⟨_, unhide HR⟩, unhide BC, hs1⟩
end Go.Proofs.YtjecopdbcaojcaaDoor
