/- The program's spans of the leaves: empties, bytesOf; either. -/
import Derived.Test.YtmgealcolofomaaDoorZc
import Derived.Test.YtmgealcolofomaaDoorJa
namespace Go.Proofs.YtmgealcolofomaaDoor
open Go.RowKit Kb
set_option linter.unusedVariables false
set_option maxRecDepth 20000
open Sp

theorem sp_below {w w' w'' : World} {B g : Nat} (b : Below B w w') (h : w'.grownBy w'' (some g)) (hg : B ≤ g) (hl : g < w'.heap.size) : Below B w w'' :=
  b.grown h (by omega) (fun q hq => by have := Option.some.inj hq; omega)
set_option maxHeartbeats 1000000 in
theorem empties_any (s : ByteArray) (a z : Nat) (w : World) (hs : s.size ≤ 300) (hz : z ≤ s.size) (haz : a ≤ z) :
    Calls Tryd.prog 63 #[.string s, .int .i64 a, .int .i64 z] w fun e w' => ∃ v, e = .returned v ∧ PR w' v (s.size + 1) (fun r j => decide (r = j ∧ a ≤ r ∧ r ≤ z)) ∧ Below w.heap.size w w' := by
  obtain ⟨T, hT⟩ : ∃ T : Nat → Nat → Bool, (fun r j => decide (r = j ∧ a ≤ r ∧ r ≤ z)) = T := ⟨_, rfl⟩
  rw [hT]
  have HTT := hide hT
  clear hT
  go_enter Tryd.func63, Tryd.ntmps63
  go_wp2_with (go_at_call 68; refine (none_any s _ hs).mono ?_; rintro e w1 ⟨rfl, hS1, hB1⟩; have HS1 := hide hS1; have HB1 := hide hB1; clear hS1 hB1)
  go_loopw [8] (fun x wr => ∃ i : Nat, x = .int .i64 i ∧ a ≤ i ∧ i ≤ z + 1 ∧ SP wr w.heap.size (s.size + 1) (fun r j => decide (r = j ∧ a ≤ r ∧ r < i)) ∧ Below w.heap.size w wr) (fun x _ => z + 1 - (intOf x).toNat)
  case atStart =>
    exact ⟨a, rfl, Nat.le_refl _, by omega, (unhide HS1).congr (fun r j _ _ => by rw [eq_comm, decide_eq_false_iff_not]; omega), unhide HB1⟩
  case round =>
    clear HS1 HB1
    obtain ⟨i, rfl, hai, hiz, hsp, hb⟩ := hrel
    have SPH := hide hsp
    have B := hide hb
    clear hsp hb
    by_cases hlt : i ≤ z
    · have hI : (i : Int) ≤ z := by omega
      have hlen : (i : Int) < s.size + 1 := by omega
      have HA := hide (add_any w.heap.size (s.size + 1) i i _ wr (unhide SPH) (by omega) (by omega))
      go_wp2_with fail
      refine (unhide HA).mono ?_
      rintro e w2 ⟨⟨v, rfl⟩, hS2, hG2⟩
      have HS2 := hide hS2
      have HB2 := hide (sp_below (unhide B) hG2 (Nat.le_refl _) (unhide SPH).lt)
      clear hS2 hG2
      go_wp2_with fail
      refine ⟨⟨i + 1, by go_num, by omega, by omega, (unhide HS2).congr (fun r j _ _ => ?_), unhide HB2⟩, by simp [intOf]; omega⟩
      rw [Bool.eq_iff_iff]; simp; omega
    · have hI : ¬ ((i : Int) ≤ z) := by omega
      have hi : i = z + 1 := by omega
      have HP : Hid (SP wr w.heap.size (s.size + 1) T) := hide ((unhide SPH).congr (fun r j _ _ => by rw [← unhide HTT]; dsimp only; rw [decide_eq_decide]; omega))
      go_wp2_with fail
      go_ret
      exact ⟨_, rfl, ⟨_, _, rfl, Nat.le_refl _, unhide HP⟩, unhide B⟩
set_option maxHeartbeats 1000000 in
theorem bytesOf_any (t : Se) (s : ByteArray) (w : World) (hs : s.size ≤ 300) (hf : FitS t) :
    Calls Tryd.prog 64 #[setV t, .string s] w fun e w' => ∃ v, e = .returned v ∧ PR w' v (s.size + 1) (M s.data.toList (.byte t)) ∧ Below w.heap.size w w' := by
  obtain ⟨T, hT⟩ : ∃ T : Nat → Nat → Bool, M s.data.toList (.byte t) = T := ⟨_, rfl⟩
  rw [hT]
  have HTT := hide hT
  have HH := hide (fun (c : UInt8) (W : World) => has_any t c W hf)
  have HF := hide hf
  clear hT
  obtain ⟨t1, t2, t3, t4⟩ := t
  unfold setV at *
  dsimp only at *
  obtain ⟨W1, hW1⟩ : ∃ W1, w.alloc (.cells #[.int .u64 t1, .int .u64 t2, .int .u64 t3, .int .u64 t4] 35) = W1 := ⟨_, rfl⟩
  have hsz : W1.heap.size = w.heap.size + 1 := by rw [← hW1]; simp
  have hb1 : Below w.heap.size w W1 := by rw [← hW1]; exact (Below.refl _ w).alloc (Nat.le_refl _) _
  have hbx : ∀ k v, (#[.int .u64 t1, .int .u64 t2, .int .u64 t3, .int .u64 t4] : Array Value)[k]? = some v → W1.cell? ⟨w.heap.size, k, none⟩ = some v := fun k v h => by
    rw [← hW1, World.cell?_alloc_new]; exact h
  have HBX : Hid (∀ W, Below W1.heap.size W1 W → W.cell? ⟨w.heap.size, 0, none⟩ = some (.int .u64 t1) ∧ W.cell? ⟨w.heap.size, 1, none⟩ = some (.int .u64 t2) ∧ W.cell? ⟨w.heap.size, 2, none⟩ = some (.int .u64 t3) ∧ W.cell? ⟨w.heap.size, 3, none⟩ = some (.int .u64 t4)) := hide (fun W b => by
    have hl : w.heap.size < W1.heap.size := by omega
    exact ⟨(b.cell (p := ⟨w.heap.size, 0, none⟩) hl).trans (hbx 0 _ rfl), (b.cell (p := ⟨w.heap.size, 1, none⟩) hl).trans (hbx 1 _ rfl), (b.cell (p := ⟨w.heap.size, 2, none⟩) hl).trans (hbx 2 _ rfl), (b.cell (p := ⟨w.heap.size, 3, none⟩) hl).trans (hbx 3 _ rfl)⟩)
  have HB1 := hide hb1
  have HSZ := hide hsz
  clear hbx hb1 hsz hf
  have HN := hide (none_any s W1 hs)
  go_enter Tryd.func64, Tryd.ntmps64
  go_wp2_with fail
  clear hW1
  refine (unhide HN).mono ?_
  rintro e w1 ⟨rfl, hS1, hB2⟩
  have HS1 := hide hS1
  have HB2 := hide hB2
  clear hS1 hB2 HN
  go_wp2_with fail
  go_loopw [11] (fun x wr => ∃ i : Nat, x = .int .i64 i ∧ i ≤ s.size ∧ SP wr W1.heap.size (s.size + 1) (fun r j => decide (r < i) && T r j) ∧ Below W1.heap.size W1 wr) (fun x _ => s.size + 1 - (intOf x).toNat)
  case atStart =>
    exact ⟨0, rfl, by omega, (unhide HS1).congr (fun r j _ _ => by simp), unhide HB2⟩
  case round =>
    clear HS1 HB2
    obtain ⟨i, rfl, hi, hsp, hb⟩ := hrel
    have SPH := hide hsp
    have B := hide hb
    clear hsp hb
    by_cases hlt : i < s.size
    · have hI : (i : Int) < s.size := by omega
      have hlen : (i : Int) < s.size + 1 := by omega
      obtain ⟨q0, q1, q2, q3⟩ := (unhide HBX) wr (unhide B)
      obtain ⟨c, hc⟩ : ∃ c, s[i] = c := ⟨_, rfl⟩
      have hci : s.data.toList[i]? = some c := by rw [← hc]; exact List.getElem?_eq_getElem (by simpa using hlt)
      have HCI := hide hci
      clear hci
      obtain ⟨bt, hbt⟩ : ∃ b, bit ⟨t1, t2, t3, t4⟩ c.toNat = b := ⟨_, rfl⟩
      have HHC := hide (fun W => (unhide HH) c W)
      rw [hbt] at HHC
      have HBT := hide hbt
      clear hbt
      go_wp2_with fail
      go_region_with (go_at_call 87; refine ((unhide HHC) _).mono ?_; rintro e w2 ⟨rfl, b2⟩)
      all_goals (
        have b3 : Below wr.heap.size wr w2 := ⟨b2.os, b2.tape, b2.output, b2.size, b2.block⟩
        have S2 := hide ((unhide SPH).below b3)
        have B2 := hide (bel_trans (unhide B) b3)
        clear b2 b3 SPH B q0 q1 q2 q3 HHC hc
        cases bt with
        | true =>
          have HA := hide (add_any W1.heap.size (s.size + 1) i (i + 1) _ w2 (unhide S2) (by omega) (by omega))
          rw [show ((i + 1 : Nat) : Int) = (i : Int) + 1 by omega] at HA
          have HTI : Hid (∀ j, T i j = decide (j = i + 1)) := hide (fun j => by
            rw [← unhide HTT, M, unhide HCI]
            dsimp only
            rw [unhide HBT, Bool.and_true])
          go_wp2_with fail
          refine (unhide HA).mono ?_
          rintro e w3 ⟨⟨v, rfl⟩, hS3, hG3⟩
          have HS3 := hide hS3
          have HB3 := hide (sp_below (unhide B2) hG3 (Nat.le_refl _) (unhide S2).lt)
          clear hS3 hG3 HA
          go_wp2_with fail
          refine ⟨⟨i + 1, by go_num, by omega, (unhide HS3).congr (fun r j _ _ => ?_), unhide HB3⟩, by simp [intOf]; omega⟩
          by_cases e : r = i
          · subst e
            rw [unhide HTI j]; simp
          · rw [decide_eq_false e, Bool.false_and, Bool.or_false]
            congr 1
            rw [decide_eq_decide]; omega
        | false =>
          have HTI : Hid (∀ j, T i j = false) := hide (fun j => by
            rw [← unhide HTT, M, unhide HCI]
            dsimp only
            rw [unhide HBT, Bool.and_false])
          go_wp2_with fail
          refine ⟨⟨i + 1, by go_num, by omega, (unhide S2).congr (fun r j _ _ => ?_), unhide B2⟩, by simp [intOf]; omega⟩
          by_cases e : r = i
          · subst e
            rw [unhide HTI j]; simp
          · congr 1
            rw [decide_eq_decide]; omega)
    · have hI : ¬ ((i : Int) < s.size) := by omega
      have hii : i = s.size := by omega
      have HP : Hid (SP wr W1.heap.size (s.size + 1) T) := hide ((unhide SPH).congr (fun r j hr _ => by
        by_cases e : r < i
        · rw [decide_eq_true e, Bool.true_and]
        · rw [decide_eq_false e, Bool.false_and]
          cases ht : T r j with
          | false => rfl
          | true =>
            rw [← unhide HTT] at ht
            obtain ⟨c, hc, _⟩ := (M_byte _ _ _ _).1 ht
            have := (List.getElem?_eq_some_iff.1 hc).1
            simp at this
            omega))
      go_wp2_with fail
      go_ret
      exact ⟨_, rfl, ⟨_, _, rfl, Nat.le_refl _, unhide HP⟩, (unhide HB1).trans ((unhide B).mono (by rw [unhide HSZ]; omega))⟩
end Go.Proofs.YtmgealcolofomaaDoor
