/- The program's spans of either of two. -/
import Derived.Test.YtmgealcolofomaaDoorZh
import Derived.StillTailTactics
import Derived.StillTailTactics
namespace Go.Proofs.YtmgealcolofomaaDoor
open Go.RowKit Kb
set_option linter.unusedVariables false
set_option maxRecDepth 20000
open Sp

namespace Sp
theorem SP.words {W : World} {g m i : Nat} {T : Nat → Nat → Bool} (h : SP W g m T) (hi : i < m) :
    W.cell? ⟨g, i * 5, none⟩ = some (.int .u64 (wd (T i) 0)) ∧ W.cell? ⟨g, i * 5 + 1, none⟩ = some (.int .u64 (wd (T i) 1)) ∧ W.cell? ⟨g, i * 5 + 2, none⟩ = some (.int .u64 (wd (T i) 2)) ∧ W.cell? ⟨g, i * 5 + 3, none⟩ = some (.int .u64 (wd (T i) 3)) ∧ W.cell? ⟨g, i * 5 + 4, none⟩ = some (.int .u64 (wd (T i) 4)) :=
  ⟨h.cell i 0 hi (by omega), h.cell i 1 hi (by omega), h.cell i 2 hi (by omega), h.cell i 3 hi (by omega), h.cell i 4 hi (by omega)⟩
/-- a whole row is put -/
theorem SP.row {W : World} {g m i : Nat} {T : Nat → Nat → Bool} (h : SP W g m T) (hi : i < m) (f : Nat → Bool) :
    SP (((((W.setCell ⟨g, i * 5, none⟩ (.int .u64 (wd f 0))).setCell ⟨g, i * 5 + 1, none⟩ (.int .u64 (wd f 1))).setCell ⟨g, i * 5 + 2, none⟩ (.int .u64 (wd f 2))).setCell ⟨g, i * 5 + 3, none⟩ (.int .u64 (wd f 3))).setCell ⟨g, i * 5 + 4, none⟩ (.int .u64 (wd f 4))) g m (fun r j => if r = i then f j else T r j) := by
  have step : ∀ (k : Nat) (W : World), k < 5 → SP W g m (fun r j => if r = i ∧ j < 64 * k then f j else T r j) → SP (W.setCell ⟨g, i * 5 + k, none⟩ (.int .u64 (wd f k))) g m (fun r j => if r = i ∧ j < 64 * (k + 1) then f j else T r j) := fun k W hk h =>
    h.put _ hi hk (wd f k) (wd_congr fun b hb => by rw [if_pos ⟨rfl, by omega⟩]) (fun r j hr hj hn => by
      by_cases e : r = i ∧ j < 64 * k
      · rw [if_pos e, if_pos ⟨e.1, by omega⟩]
      · rw [if_neg e, if_neg (by omega)])
  have h0 : SP W g m (fun r j => if r = i ∧ j < 64 * 0 then f j else T r j) := h.congr fun r j _ _ => by rw [if_neg (by omega)]
  have h5 := step 4 _ (by omega) (step 3 _ (by omega) (step 2 _ (by omega) (step 1 _ (by omega) (step 0 _ (by omega) h0))))
  exact h5.congr fun r j _ hj => by
    by_cases e : r = i
    · rw [if_pos ⟨e, by omega⟩, if_pos e]
    · rw [if_neg (by omega), if_neg e]
theorem grownBy_row (W : World) (g o : Nat) (a b c d e : Value) : W.grownBy (((((W.setCell ⟨g, o, none⟩ a).setCell ⟨g, o + 1, none⟩ b).setCell ⟨g, o + 2, none⟩ c).setCell ⟨g, o + 3, none⟩ d).setCell ⟨g, o + 4, none⟩ e) (some g) :=
  ((((grownBy_setAt _ _ _ _).trans (grownBy_setAt _ _ _ _)).trans (grownBy_setAt _ _ _ _)).trans (grownBy_setAt _ _ _ _)).trans (grownBy_setAt _ _ _ _)
end Sp
set_option maxHeartbeats 2000000 in
theorem either_any (va vb : Value) (m : Nat) (A B : Nat → Nat → Bool) (w : World) (hm : m ≤ 301) (ha : PR w va m A) (hb : PR w vb m B) :
    Calls Tryd.prog 66 #[va, vb] w fun e w' => ∃ v, e = .returned v ∧ PR w' v m (fun r j => A r j || B r j) ∧ Below w.heap.size w w' := by
  obtain ⟨ga, ca, rfl, hca, hSa⟩ := ha
  obtain ⟨gb, cb, rfl, hcb, hSb⟩ := hb
  have hmk := make_spans m (by omega)
  have hS := SP.made w m 86
  have hb0 := (Below.refl w.heap.size w).alloc (Nat.le_refl _) (.cells (madeCells #[.int .u64 0, .int .u64 0, .int .u64 0, .int .u64 0, .int .u64 0] (m * 5)) 86)
  obtain ⟨cs, hcs⟩ : ∃ cs, madeCells #[.int .u64 0, .int .u64 0, .int .u64 0, .int .u64 0, .int .u64 0] (m * 5) = cs := ⟨_, rfl⟩
  rw [hcs] at hmk hS hb0
  clear hcs
  obtain ⟨W1, hW1⟩ : ∃ W1, w.alloc (.cells cs 86) = W1 := ⟨_, rfl⟩
  have hsz : w.heap.size < W1.heap.size := by rw [← hW1]; simp
  rw [hW1] at hS hb0
  have HS0 := hide hS
  have HB0 := hide hb0
  have HSA := hide hSa
  have HSB := hide hSb
  have HLA := hide hSa.lt
  have HLB := hide hSb.lt
  clear hS hb0 hSa hSb
  go_enter Tryd.func66, Tryd.ntmps66
  go_wp2_with fail
  clear hW1 hmk
  go_loopw [12] (fun x wr => ∃ i : Nat, x = .int .i64 i ∧ i ≤ m ∧ SP wr w.heap.size m (fun r j => decide (r < i) && (A r j || B r j)) ∧ Below w.heap.size w wr) (fun x _ => m - (intOf x).toNat)
  case atStart =>
    exact ⟨0, rfl, by omega, (unhide HS0).congr (fun r j _ _ => by simp), unhide HB0⟩
  case round =>
    clear HS0 HB0
    obtain ⟨i, rfl, hi, hsp, hb⟩ := hrel
    have SPH := hide hsp
    have BH := hide hb
    clear hsp hb
    by_cases hlt : i < m
    · have hI : (i : Int) < m := by omega
      have hfz := (unhide SPH).froz
      have f0 := hfz (i * 5)
      have f1 := hfz (i * 5 + 1)
      have f2 := hfz (i * 5 + 2)
      have f3 := hfz (i * 5 + 3)
      have f4 := hfz (i * 5 + 4)
      obtain ⟨d0, d1, d2, d3, d4⟩ := (unhide SPH).words hlt
      have HA1 := hide ((unhide HSA).kept (unhide BH).size ((unhide BH).block ga (unhide HLA)))
      obtain ⟨a0, a1, a2, a3, a4⟩ := (unhide HA1).words hlt
      have hR0 := (unhide SPH).row hlt (A i)
      obtain ⟨T2, hT2⟩ : ∃ T2 : Nat → Nat → Bool, (fun r j => if r = i then A i j else decide (r < i) && (A r j || B r j)) = T2 := ⟨_, rfl⟩
      rw [hT2] at hR0
      have HT2 := hide hT2
      have HR := hide hR0
      have HG := hide (grownBy_row wr w.heap.size (i * 5) (.int .u64 (wd (A i) 0)) (.int .u64 (wd (A i) 1)) (.int .u64 (wd (A i) 2)) (.int .u64 (wd (A i) 3)) (.int .u64 (wd (A i) 4)))
      clear hfz HA1 hT2 hR0
      go_wp2_with fail
      have hR := unhide HR
      have hG := unhide HG
      clear HR HG a0 a1 a2 a3 a4 d0 d1 d2 d3 d4 f0 f1 f2 f3 f4
      obtain ⟨W2, hW2⟩ : ∃ W2, ((((wr.setCell ⟨w.heap.size, i * 5, none⟩ (.int .u64 (wd (A i) 0))).setCell ⟨w.heap.size, i * 5 + 1, none⟩ (.int .u64 (wd (A i) 1))).setCell ⟨w.heap.size, i * 5 + 2, none⟩ (.int .u64 (wd (A i) 2))).setCell ⟨w.heap.size, i * 5 + 3, none⟩ (.int .u64 (wd (A i) 3))).setCell ⟨w.heap.size, i * 5 + 4, none⟩ (.int .u64 (wd (A i) 4)) = W2 := ⟨_, rfl⟩
      rw [hW2] at hR hG ⊢
      clear hW2
      have HR := hide hR
      have HB2 := hide (sp_below (unhide BH) hG (Nat.le_refl _) (unhide SPH).lt)
      have HB3 := hide ((unhide HSB).kept (unhide HB2).size ((unhide HB2).block gb (unhide HLB)))
      obtain ⟨a0, a1, a2, a3, a4⟩ := (unhide HB3).words hlt
      have HJ := hide (fun (T : Nat → Nat → Bool) (W2' : World) (h : SP W2' w.heap.size m T) => join_any w.heap.size m i T (B i) W2' h hlt)
      unfold plV at HJ
      clear hR hG SPH BH
      go_still_tail 7, (by kernel_rfl)
      go_wp2_with (go_at_call 88; refine ((unhide HJ) T2 _ (by exact (unhide HR).kept (Nat.le_refl _) rfl)).mono ?_; rintro e w3 ⟨⟨v, rfl⟩, hS3, hG3⟩)
      all_goals (
        have HS3 := hide hS3
        have hG4 : W2.grownBy w3 (some w.heap.size) := ⟨hG3.os, hG3.tape, hG3.output, hG3.size, hG3.block⟩
        have HB4 := hide (sp_below (unhide HB2) hG4 (Nat.le_refl _) (unhide HR).lt)
        clear hS3 hG3 hG4
        refine ⟨⟨i + 1, by go_num, by omega, (unhide HS3).congr (fun r j _ _ => ?_), unhide HB4⟩, by simp [intOf]; omega⟩
        rw [← unhide HT2]
        dsimp only
        by_cases e : r = i
        · subst e
          simp
        · rw [if_neg e, decide_eq_false e, Bool.false_and, Bool.or_false]
          congr 1
          rw [decide_eq_decide]; omega)
    · have hI : ¬ ((i : Int) < m) := by omega
      have HP : Hid (SP wr w.heap.size m (fun r j => A r j || B r j)) := hide ((unhide SPH).congr (fun r j hr _ => by rw [decide_eq_true (by omega : r < i), Bool.true_and]))
      go_wp2_with fail
      go_ret
      exact ⟨_, rfl, ⟨_, _, rfl, Nat.le_refl _, unhide HP⟩, unhide BH⟩
end Go.Proofs.YtmgealcolofomaaDoor
