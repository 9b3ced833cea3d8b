/- The document's spans of a star, and of any expression. -/
import Derived.Test.YtjecopdbcaojcaaDoorZx
namespace Go.Proofs.YtjecopdbcaojcaaDoor
open Go.RowKit Kb
set_option linter.unusedVariables false
set_option maxRecDepth 20000
open Sp

namespace Sp
/-- a row of a star: the places below m gone through -/
def rowQ (n : Nat) (A : Nat → Nat → Bool) (i m b : Nat) : Bool := decide (b = i) || (List.range m).any fun k => decide (i < k) && A i k && star n A k b
theorem rowQ_succ (n : Nat) (A : Nat → Nat → Bool) (i m b : Nat) : rowQ n A i (m + 1) b = (rowQ n A i m b || (decide (i < m) && A i m && star n A m b)) := by
  unfold rowQ
  rw [List.range_succ, List.any_append]
  simp [Bool.or_assoc]
theorem rowQ_zero (n : Nat) (A : Nat → Nat → Bool) (i b : Nat) : rowQ n A i (i + 1) b = decide (b = i) := by
  unfold rowQ
  have : ((List.range (i + 1)).any fun k => decide (i < k) && A i k && star n A k b) = false := by
    rw [List.any_eq_false]
    intro k hk
    rw [decide_eq_false (by have := List.mem_range.1 hk; omega)]; simp
  rw [this, Bool.or_false]
theorem rowQ_all {n : Nat} {A : Nat → Nat → Bool} {i b : Nat} (hi : i ≤ n) : rowQ n A i (n + 1) b = star n A i b := by
  rw [Bool.eq_iff_iff, star_iff]
  unfold rowQ
  simp only [Bool.or_eq_true, decide_eq_true_eq, List.any_eq_true, List.mem_range, Bool.and_eq_true]
  constructor
  · rintro (h | ⟨k, h1, ⟨h2, h3⟩, h4⟩)
    · exact ⟨hi, .inl h.symm⟩
    · exact ⟨hi, .inr ⟨k, h2, by omega, h3, h4⟩⟩
  · rintro ⟨_, h | ⟨k, h1, h2, h3, h4⟩⟩
    · exact .inl h.symm
    · exact .inr ⟨k, by omega, ⟨h1, h3⟩, h4⟩
theorem star_ge {n : Nat} {A : Nat → Nat → Bool} (hA : Ok n A) {i b : Nat} (h : star n A i b = true) : i ≤ b ∧ b ≤ n := by
  unfold star at h
  rw [Bool.and_eq_true, decide_eq_true_eq] at h
  exact starF_ok hA n i b h.1 h.2
end Sp
set_option maxRecDepth 200000 in
set_option maxHeartbeats 8000000 in
theorem ds_star (a : Ex) (ha : DS a) : DS (.star a) := by
  intro rv s w hV hF hs
  obtain ⟨t, rfl, hkd⟩ := hV.val
  obtain ⟨g1, off, c, o1, l1, c1, rfl, hva, hcl⟩ := kidA' hkd (x := a.rx) rfl
  have HA := hide (fun (W : World) (k : Below w.heap.size w W) => ha _ s W (hva.below k) hF hs)
  obtain ⟨A, hA⟩ : ∃ A, M s.data.toList a = A := ⟨_, rfl⟩
  have HOA : Hid (Ok s.size A) := hide (fun i j h => by rw [← hA] at h; exact M_okm s a i j h)
  have HTT : Hid (∀ i j, M s.data.toList (.star a) i j = star s.size A i j) := hide (fun i j => by rw [M_star, hA, len_data])
  rw [hA] at HA
  obtain ⟨T, hTT⟩ : ∃ T, M s.data.toList (.star a) = T := ⟨_, rfl⟩
  rw [hTT] at HTT ⊢
  obtain ⟨S, hS⟩ : ∃ S, star s.size A = S := ⟨_, rfl⟩
  rw [hS] at HTT
  have HSE := hide hS
  obtain ⟨x0, hx0⟩ : ∃ z, a.rx.k = z := ⟨_, rfl⟩
  obtain ⟨⟨x1, x2, x3, x4⟩, hx1⟩ : ∃ z, a.rx.s = z := ⟨_, rfl⟩
  rw [hx0, hx1] at HA hcl
  dsimp only at HA hcl
  have HCL := hide hcl
  clear hva hx0 hx1 hcl hA hTT hS
  unfold rexV
  simp only [Ex.rx, Rx.k, Rx.s, Rx.ks, List.length_cons, List.length_nil, noSet, Nat.zero_add] at *
  obtain ⟨W1, hW1⟩ : ∃ W1, w.alloc (.cells #[.int .i64 6, .int .u64 0, .int .u64 0, .int .u64 0, .int .u64 0, .slice (some ⟨g1, off, none⟩) 1 c] 27) = W1 := ⟨_, rfl⟩
  have hb1 : Below w.heap.size w W1 := by rw [← hW1]; exact (Below.refl _ w).alloc (Nat.le_refl _) _
  have hu0 : W1.cell? ⟨w.heap.size, 0, none⟩ = some (.int .i64 6) := by rw [← hW1, World.cell?_alloc_new]; rfl
  have hu5 : W1.cell? ⟨w.heap.size, 5, none⟩ = some (.slice (some ⟨g1, off, none⟩) 1 c) := by rw [← hW1, World.cell?_alloc_new]; rfl
  have hl1 : w.heap.size < W1.heap.size := by rw [← hW1]; simp
  have HMC : Hid (∀ W, Below W1.heap.size W1 W → W.cell? ⟨w.heap.size, 0, none⟩ = some (.int .i64 6) ∧ W.cell? ⟨w.heap.size, 5, none⟩ = some (.slice (some ⟨g1, off, none⟩) 1 c) ∧ Below w.heap.size w W) := hide (fun W k => ⟨(k.cell (p := ⟨w.heap.size, 0, none⟩) hl1).trans hu0, (k.cell (p := ⟨w.heap.size, 5, none⟩) hl1).trans hu5, bel_trans hb1 k⟩)
  have HB1 := hide hb1
  have HL1 := hide hl1
  have HBK := hide (blank_any s.size (by omega) W1)
  clear hV hkd hb1 hu0 hu5 hl1 hF
  go_enter Tryd.func24, Tryd.ntmps24
  go_wp2_with fail
  clear hW1
  refine (unhide HBK).mono ?_
  rintro e w2 ⟨rfl, ht2, bb2⟩
  have TT2 := hide ht2
  have B2 := hide bb2
  obtain ⟨u0, u5, hbw⟩ := (unhide HMC) w2 bb2
  obtain ⟨y0, y1, y2, y3, y4, y5, _⟩ := (unhide HCL) w2 hbw
  have HCA := hide ((unhide HA) w2 hbw)
  clear ht2 bb2 HBK hbw HA
  go_wp2_with fail
  clear u0 u5 y0 y1 y2 y3 y4 y5
  refine (unhide HCA).mono ?_
  rintro e w3 ⟨ga, ha, rfl, ta, bc, la⟩
  have TA := hide ta
  have LT := hide (unhide TT2).lt
  have LA := hide la
  have TO := hide ((unhide TT2).below bc)
  have BC := hide (bel_trans (unhide HB1) (bel_trans (unhide B2) bc))
  clear ta la bc TT2 HCA HCL
  go_wp2_with fail
  go_loopw [19] (fun x wr => ∃ p : Nat, x = .int .i64 ((p : Int) - 1) ∧ p ≤ s.size + 1 ∧ TB wr W1.heap.size (W1.heap.size + 1) s.size (fun a b => decide (p ≤ a) && S a b) ∧ TB wr ga ha s.size A ∧ Below w.heap.size w wr) (fun x _ => (intOf x + 1).toNat)
  case atStart =>
    refine ⟨s.size + 1, congrArg (Value.int .i64) (by omega), by omega, (unhide TO).congr (fun i j hi _ => ?_), unhide TA, unhide BC⟩
    rw [decide_eq_false (by omega : ¬ s.size + 1 ≤ i), Bool.false_and]
  case round =>
    clear TO TA BC
    obtain ⟨p, rfl, hp, ho, ta, hbel⟩ := hrel
    have TO := hide ho
    have TA := hide ta
    have BC := hide hbel
    clear ho ta hbel
    match p, hp with
    | 0, _ =>
      have HR : Hid (TB wr W1.heap.size (W1.heap.size + 1) s.size T) := hide ((unhide TO).congr (fun a b _ _ => by rw [decide_eq_true (by omega : 0 ≤ a), Bool.true_and, (unhide HTT) a b]))
      have hs1 := (unhide HB1).size
      have hI : ¬ (((0 : Nat) : Int) - 1 ≥ 0) := by omega
      clear TO TA
      go_wp2_with fail
      go_ret
      first
        | exact ⟨_, _, rfl, unhide HR, unhide BC, hs1⟩
        | exact ⟨_, rfl, ⟨_, unhide HR⟩, unhide BC, hs1⟩
    | i + 1, hp =>
      rw [show ((i + 1 : Nat) : Int) - 1 = (i : Int) by omega]
      have hlt : i ≤ s.size := by omega
      have hI : (i : Int) ≥ 0 := by omega
      have hI3 : (i : Int) < s.size + 1 := by omega
      have p0 := (unhide TO).top i hlt
      have p1 := (unhide TO).cell i i hlt hlt
      have p2 := (unhide TO).froz i i hlt
      obtain ⟨qo, hqo⟩ : ∃ q, (decide (i + 1 ≤ i) && S i i) = q := ⟨_, rfl⟩
      rw [hqo] at p1
      have TO2 := hide (((unhide TO).put hlt hlt true).congr (T' := fun a b => (decide (i < a) && S a b) || (decide (a = i) && rowQ s.size A i (i + 1) b)) (fun a b _ _ => by
        rw [rowQ_zero]
        by_cases e : a = i ∧ b = i
        · rw [if_pos e, decide_eq_true e.1, decide_eq_true e.2]; simp
        · rw [if_neg e]
          by_cases e1 : a = i
          · rw [decide_eq_true e1, decide_eq_false (fun h => e ⟨e1, h⟩), decide_eq_false (by omega : ¬ i + 1 ≤ a), decide_eq_false (by omega : ¬ i < a)]; simp
          · rw [decide_eq_false e1, Bool.false_and, Bool.or_false]
            congr 1))
      have TA2 := hide ((unhide TA).far (q := W1.heap.size + 1 + i) (j := i) (.bool true) (by have := unhide LT; have := unhide LA; omega))
      have BC2 := hide ((unhide BC).setCell (p := ⟨W1.heap.size + 1 + i, i, none⟩) (by have := unhide HL1; show w.heap.size ≤ W1.heap.size + 1 + i; omega) (.bool true))
      clear hqo TO TA BC
      go_wp2_with fail
      clear p0 p1 p2
      go_loopw [20] (fun x wr => ∃ m : Nat, x = .int .i64 m ∧ i + 1 ≤ m ∧ m ≤ s.size + 1 ∧ TB wr W1.heap.size (W1.heap.size + 1) s.size (fun a b => (decide (i < a) && S a b) || (decide (a = i) && rowQ s.size A i m b)) ∧ TB wr ga ha s.size A ∧ Below w.heap.size w wr) (fun x _ => s.size + 1 - (intOf x).toNat)
      case atStart => exact ⟨i + 1, congrArg (Value.int .i64) (by omega), by omega, by omega, unhide TO2, unhide TA2, unhide BC2⟩
      case round =>
        clear TO2 TA2 BC2
        obtain ⟨m, rfl, him, hm, ho, ta, hbel⟩ := hrel
        have TO := hide ho
        have TA := hide ta
        have BC := hide hbel
        clear ho ta hbel
        by_cases hlm : m ≤ s.size
        · have hI1 : (m : Int) ≤ s.size := by omega
          go_wp2_with fail
          go_loopw [21] (fun x wr => ∃ j : Nat, x = .int .i64 j ∧ m ≤ j ∧ j ≤ s.size + 1 ∧ TB wr W1.heap.size (W1.heap.size + 1) s.size (fun a b => (decide (i < a) && S a b) || (decide (a = i) && (rowQ s.size A i m b || (decide (b < j) && (A i m && S m b))))) ∧ TB wr ga ha s.size A ∧ Below w.heap.size w wr) (fun x _ => s.size + 1 - (intOf x).toNat)
          case atStart =>
            refine ⟨m, rfl, by omega, by omega, (unhide TO).congr (fun a b _ _ => ?_), unhide TA, unhide BC⟩
            have : (decide (b < m) && (A i m && S m b)) = false := by
              by_cases e : b < m
              · have : S m b = false := by
                  cases h1 : S m b with
                  | true =>
                    rw [← unhide HSE] at h1
                    have := star_ge (unhide HOA) h1; omega
                  | false => rfl
                rw [this]; simp
              · rw [decide_eq_false e, Bool.false_and]
            rw [this, Bool.or_false]
          case round =>
            clear TO TA BC
            obtain ⟨j, rfl, hmj, hj, ho, ta, hbel⟩ := hrel
            have TO := hide ho
            have TA := hide ta
            have BC := hide hbel
            clear ho ta hbel
            have hI5 : (m : Int) < s.size + 1 := by omega
            have p3 := (unhide TA).top i hlt
            have p4 := (unhide TA).cell i m hlt hlm
            obtain ⟨ma, hma⟩ : ∃ q, A i m = q := ⟨_, rfl⟩
            rw [hma] at p4
            have HMA := hide hma
            by_cases hgo : j ≤ s.size ∧ ma = true
            · obtain ⟨hlj, rfl⟩ := hgo
              have hI2 : (j : Int) ≤ s.size := by omega
              have hI4 : (j : Int) < s.size + 1 := by omega
              have p0 := (unhide TO).top i hlt
              have p1 := (unhide TO).cell i j hlt hlj
              have p2 := (unhide TO).froz i j hlt
              have p5 := (unhide TO).top m hlm
              have p6 := (unhide TO).cell m j hlm hlj
              obtain ⟨mb, hmb⟩ : ∃ q, S m j = q := ⟨_, rfl⟩
              obtain ⟨vo, hvo⟩ : ∃ q, rowQ s.size A i m j = q := ⟨_, rfl⟩
              have e1 : ((decide (i < i) && S i j) || (decide (i = i) && (rowQ s.size A i m j || (decide (j < j) && (A i m && S m j))))) = vo := by rw [hvo]; simp
              have e2 : ((decide (i < m) && S m j) || (decide (m = i) && (rowQ s.size A i m j || (decide (j < j) && (A i m && S m j))))) = mb := by rw [hmb, decide_eq_true (by omega : i < m), decide_eq_false (by omega : ¬ m = i)]; simp
              rw [e1] at p1
              rw [e2] at p6
              have HPT : Hid (∀ X : World, X = wr.setCell ⟨W1.heap.size + 1 + i, j, none⟩ (.bool (vo || mb)) → TB X W1.heap.size (W1.heap.size + 1) s.size (fun a b => (decide (i < a) && S a b) || (decide (a = i) && (rowQ s.size A i m b || (decide (b < j + 1) && (A i m && S m b))))) ∧ TB X ga ha s.size A ∧ Below w.heap.size w X) := hide (fun X hX => by
                subst hX
                have hlt1 := unhide LT
                have hla := unhide LA
                refine ⟨((unhide TO).put hlt hlj (vo || mb)).congr (fun a b _ _ => ?_), (unhide TA).far _ (by omega), (unhide BC).setCell (p := ⟨W1.heap.size + 1 + i, j, none⟩) (by have := unhide HL1; show w.heap.size ≤ W1.heap.size + 1 + i; omega) _⟩
                by_cases e : a = i ∧ b = j
                · obtain ⟨rfl, rfl⟩ := e
                  rw [if_pos ⟨rfl, rfl⟩, hma, hmb, hvo]; simp
                · rw [if_neg e]
                  by_cases e2 : a = i
                  · rw [decide_eq_true e2, Bool.true_and, Bool.true_and]
                    congr 2
                    rw [show decide (b < j) = decide (b < j + 1) by rw [decide_eq_decide]; omega]
                  · rw [decide_eq_false e2, Bool.false_and, Bool.false_and])
              clear hmb hvo e1 e2 hma TO TA BC HMA
              cases vo
              · go_wp2_with fail
                go_big_region
                all_goals (
                  have hp := (unhide HPT) _ (by rw [Bool.false_or])
                  have HP := hide hp
                  clear hp HPT p0 p1 p2 p3 p4 p5 p6
                  go_wp2_with fail
                  exact ⟨⟨j + 1, by go_num, by omega, by omega, (unhide HP).1.kept (Nat.le_refl _) (fun _ _ => rfl), (unhide HP).2.1.kept (Nat.le_refl _) (fun _ _ => rfl), ⟨(unhide HP).2.2.os, (unhide HP).2.2.tape, (unhide HP).2.2.output, (unhide HP).2.2.size, (unhide HP).2.2.block⟩⟩, by simp [intOf]; omega⟩)
              · go_wp2_with fail
                go_big_region
                all_goals (
                  have hp := (unhide HPT) _ (by rw [Bool.true_or])
                  have HP := hide hp
                  clear hp HPT p0 p1 p2 p3 p4 p5 p6
                  go_wp2_with fail
                  exact ⟨⟨j + 1, by go_num, by omega, by omega, (unhide HP).1.kept (Nat.le_refl _) (fun _ _ => rfl), (unhide HP).2.1.kept (Nat.le_refl _) (fun _ _ => rfl), ⟨(unhide HP).2.2.os, (unhide HP).2.2.tape, (unhide HP).2.2.output, (unhide HP).2.2.size, (unhide HP).2.2.block⟩⟩, by simp [intOf]; omega⟩)
            · have HN : Hid (TB wr W1.heap.size (W1.heap.size + 1) s.size (fun a b => (decide (i < a) && S a b) || (decide (a = i) && rowQ s.size A i (m + 1) b))) := hide ((unhide TO).congr (fun a b _ hb => by
                rw [rowQ_succ, unhide HSE, decide_eq_true (by omega : i < m), Bool.true_and]
                by_cases e : ma = true
                · have hnj : ¬ j ≤ s.size := fun h => hgo ⟨h, e⟩
                  rw [decide_eq_true (by omega : b < j), Bool.true_and]
                · have : A i m = false := by rw [unhide HMA]; simpa using e
                  rw [this]; simp))
              clear TO hma HMA
              by_cases hlj : j ≤ s.size
              · have hI2 : (j : Int) ≤ s.size := by omega
                obtain rfl : ma = false := by
                  cases ma
                  · rfl
                  · exact absurd ⟨hlj, rfl⟩ hgo
                clear hgo
                go_wp2_with fail
                exact ⟨⟨m + 1, by go_num, by omega, by omega, unhide HN, unhide TA, unhide BC⟩, by simp [intOf]; omega⟩
              · have hI2 : ¬ ((j : Int) ≤ s.size) := by omega
                clear hgo p3 p4
                go_wp2_with fail
                exact ⟨⟨m + 1, by go_num, by omega, by omega, unhide HN, unhide TA, unhide BC⟩, by simp [intOf]; omega⟩
        · have hI1 : ¬ ((m : Int) ≤ s.size) := by omega
          have HN : Hid (TB wr W1.heap.size (W1.heap.size + 1) s.size (fun a b => decide (i ≤ a) && S a b)) := hide ((unhide TO).congr (fun a b _ hb => by
            have hms : m = s.size + 1 := by omega
            rw [hms, rowQ_all hlt, unhide HSE]
            by_cases e : a = i
            · rw [e, decide_eq_true (rfl : i = i), decide_eq_false (by omega : ¬ i < i), decide_eq_true (by omega : i ≤ i)]; simp
            · rw [decide_eq_false e, Bool.false_and, Bool.or_false]
              congr 1
              rw [decide_eq_decide]; omega))
          clear TO
          go_wp2_with fail
          exact ⟨⟨i, rfl, by omega, unhide HN, unhide TA, unhide BC⟩, by simp [intOf]; try omega⟩
theorem ds_any (x : Ex) : DS x := by
  induction x with
  | none => exact ds_none
  | emp => exact ds_emp
  | byte s => exact ds_byte s
  | cat a b ha hb => exact ds_cat a b ha hb
  | alt a b ha hb => exact ds_alt a b ha hb
  | star a ha => exact ds_star a ha
  | beg => exact ds_beg
  | en => exact ds_en
end Go.Proofs.YtjecopdbcaojcaaDoor
