/- The program's places: add, join, none. -/
import Derived.Test.YtmgealcolofomaaDoorZb
namespace Go.Proofs.YtmgealcolofomaaDoor
open Go.RowKit Kb
set_option linter.unusedVariables false
set_option maxRecDepth 20000
open Sp

theorem grownBy_setAt (w : World) (g o : Nat) (v : Value) : w.grownBy (w.setCell ⟨g, o, none⟩ v) (some g) :=
  ⟨rfl, rfl, rfl, by simp, fun k hk hn => Below.heap_setCell _ _ _ _ (fun e => hn (by rw [e]))⟩
theorem grownBy_alloc' (w : World) (g : Nat) (o : Obj) : w.grownBy (w.alloc o) (some g) :=
  ⟨rfl, rfl, rfl, by simp, fun k hk hn => Below.heap_alloc _ _ _ hk⟩
set_option maxHeartbeats 1000000 in
theorem add_any (g m i p : Nat) (T : Nat → Nat → Bool) (w : World) (hS : SP w g m T) (hi : i < m) (hp : p < 320) :
    Calls Tryd.prog 86 #[.pointer (some ⟨g, i * 5, none⟩), .int .i64 p] w fun e w' => (∃ v, e = .returned v) ∧ SP w' g m (fun r j => T r j || (decide (r = i) && decide (j = p))) ∧ w.grownBy w' (some g) := by
  have hk : p / 64 < 5 := by omega
  have hcell := hS.cell i (p / 64) hi hk
  have hfz := hS.froz (i * 5 + p / 64)
  have hfw := wd_fit (T i) (p / 64)
  have HS := hide hS
  obtain ⟨x, hx⟩ : ∃ x, wd (T i) (p / 64) = x := ⟨_, rfl⟩
  rw [hx] at hcell hfw
  have HX := hide hx
  have hq5 : 0 ≤ (p : Int) / 64 ∧ (p : Int) / 64 < 5 := by omega
  clear hS hx
  go_enter Tryd.func86, Tryd.ntmps86
  go_wp2_with fail
  go_region
  rw [or_pow hfw (show p % 64 < 64 by omega)]
  have hy : ((x : Int).toNat ||| 2 ^ (p % 64)) = wd (fun j => T i j || decide (j = p)) (p / 64) := by rw [Int.toNat_natCast, ← unhide HX]; exact wd_add (T i) p
  obtain ⟨y, hyy⟩ : ∃ y : Nat, ((x : Int).toNat ||| 2 ^ (p % 64)) = y := ⟨_, rfl⟩
  rw [hyy] at hy ⊢
  have HY := hide hy
  clear hy hyy hcell hfz
  go_end0
  refine ⟨⟨_, rfl⟩, ?_, ?_⟩
  · refine SP.kept ((unhide HS).put (fun r j => T r j || (decide (r = i) && decide (j = p))) hi hk y ?_ ?_) (Nat.le_refl _) rfl
    · rw [unhide HY]
      exact wd_congr fun b hb => by simp
    · intro r j hr hj hn
      by_cases e : r = i ∧ j = p
      · exact absurd ⟨e.1, by rw [e.2]⟩ hn
      · have : (decide (r = i) && decide (j = p)) = false := by
          rw [Bool.eq_false_iff]; intro h; simp at h; exact e h
        rw [this, Bool.or_false]
  · have hg := grownBy_setAt w g (i * 5 + p / 64) (.int .u64 (y : Int))
    exact ⟨hg.os, hg.tape, hg.output, hg.size, hg.block⟩
set_option maxHeartbeats 1000000 in
theorem join_any (g m i : Nat) (T : Nat → Nat → Bool) (f : Nat → Bool) (w : World) (hS : SP w g m T) (hi : i < m) :
    Calls Tryd.prog 88 #[.pointer (some ⟨g, i * 5, none⟩), plV f] w fun e w' => (∃ v, e = .returned v) ∧ SP w' g m (fun r j => T r j || (decide (r = i) && f j)) ∧ w.grownBy w' (some g) := by
  unfold plV
  obtain ⟨W0, hW0⟩ : ∃ W0, w.alloc (.cells #[.int .u64 (wd f 0), .int .u64 (wd f 1), .int .u64 (wd f 2), .int .u64 (wd f 3), .int .u64 (wd f 4)] 86) = W0 := ⟨_, rfl⟩
  have hbx : ∀ q, q < 5 → W0.cell? ⟨w.heap.size, q, none⟩ = some (.int .u64 (wd f q)) := by
    intro q hq
    rw [← hW0, World.cell?_alloc_new]
    match q, hq with
    | 0, _ => rfl
    | 1, _ => rfl
    | 2, _ => rfl
    | 3, _ => rfl
    | 4, _ => rfl
  have hg0 : w.grownBy W0 (some g) := by rw [← hW0]; exact grownBy_alloc' w g _
  have hgs := hS.lt
  have hS0 := hS.kept (W' := W0) hg0.size (by rw [← hW0]; exact Below.heap_alloc _ _ _ hgs)
  have HBX := hide hbx
  have HG0 := hide hg0
  have HS0 := hide hS0
  clear hbx hg0 hS0 hS
  go_enter Tryd.func88, Tryd.ntmps88
  go_wp2_with fail
  clear hW0
  go_loopw [5] (fun x wr => ∃ k : Nat, x = .int .i64 k ∧ k ≤ 5 ∧ SP wr g m (fun r j => T r j || (decide (r = i ∧ j < 64 * k) && f j)) ∧ w.grownBy wr (some g) ∧ ∀ q, q < 5 → wr.cell? ⟨w.heap.size, q, none⟩ = some (.int .u64 (wd f q))) (fun x _ => 5 - (intOf x).toNat)
  case atStart =>
    exact ⟨0, rfl, by omega, (unhide HS0).congr (fun r j _ _ => by simp), unhide HG0, unhide HBX⟩
  case round =>
    clear HS0 HG0 HBX
    obtain ⟨k, rfl, hk, hsp, hgr, hbx⟩ := hrel
    have SPH := hide hsp
    have GR := hide hgr
    have BX := hide hbx
    clear hsp hgr hbx
    by_cases hlt : k < 5
    · have hI : (k : Int) < 5 := by omega
      have hcell := (unhide SPH).cell i k hi hlt
      have hfz := (unhide SPH).froz (i * 5 + k)
      have hbc := unhide BX k hlt
      obtain ⟨x, hx⟩ : ∃ x, wd (fun j => T i j || (decide (i = i ∧ j < 64 * k) && f j)) k = x := ⟨_, rfl⟩
      obtain ⟨z, hz⟩ : ∃ z, wd f k = z := ⟨_, rfl⟩
      have hxl : x < 18446744073709551616 := by rw [← hx]; exact wd_lt _ _
      have hzl : z < 18446744073709551616 := by rw [← hz]; exact wd_lt _ _
      rw [hx] at hcell
      rw [hz] at hbc
      have HX := hide hx
      have HZ := hide hz
      clear hx hz
      go_wp2_with fail
      go_region
      rw [bits_or_u64_nat x z hxl hzl]
      have hy : x ||| z = wd (fun j => T i j || (decide (i = i ∧ j < 64 * (k + 1)) && f j)) k := by
        rw [← unhide HX, ← unhide HZ, wd_or]
        exact wd_congr fun b hb => by
          have h1 : ¬ (64 * k + b < 64 * k) := by omega
          have h2 : 64 * k + b < 64 * (k + 1) := by omega
          simp [h1, h2]
      obtain ⟨y, hyy⟩ : ∃ y : Nat, x ||| z = y := ⟨_, rfl⟩
      rw [hyy] at hy ⊢
      have HY := hide hy
      clear hy hyy hcell hfz hbc
      go_wp2_with fail
      have hg := grownBy_setAt wr g (i * 5 + k) (.int .u64 (y : Int))
      have hS := (unhide SPH).put (fun r j => T r j || (decide (r = i ∧ j < 64 * (k + 1)) && f j)) hi hlt y (unhide HY) (fun r j hr hj hn => by
        have : decide (r = i ∧ j < 64 * (k + 1)) = decide (r = i ∧ j < 64 * k) := by rw [decide_eq_decide]; omega
        simp only [this])
      refine ⟨⟨k + 1, by go_num, by omega, hS.kept (Nat.le_refl _) rfl, ?_, fun q hq => ?_⟩, by simp [intOf]; omega⟩
      · have h := (unhide GR).trans hg
        exact ⟨h.os, h.tape, h.output, h.size, h.block⟩
      · have : (wr.setCell ⟨g, i * 5 + k, none⟩ (.int .u64 (y : Int))).cell? ⟨w.heap.size, q, none⟩ = wr.cell? ⟨w.heap.size, q, none⟩ := World.cell?_of_block (a := ⟨w.heap.size, q, none⟩) (Below.heap_setCell _ _ _ _ (show w.heap.size ≠ g by omega))
        exact this.trans (unhide BX q hq)
    · have h5 : k = 5 := by omega
      have hI : ¬ ((k : Int) < 5) := by omega
      go_wp2_with fail
      go_end0
      refine ⟨⟨_, rfl⟩, (unhide SPH).congr (fun r j _ hj => ?_), unhide GR⟩
      have : decide (r = i ∧ j < 64 * k) = decide (r = i) := by rw [decide_eq_decide]; omega
      simp only [this]
theorem none_any (s : ByteArray) (w : World) (hs : s.size ≤ 300) :
    Calls Tryd.prog 68 #[.string s] w fun e w' => e = .returned (.slice (some ⟨w.heap.size, 0, none⟩) (s.size + 1) (s.size + 1)) ∧ SP w' w.heap.size (s.size + 1) (fun _ _ => false) ∧ Below w.heap.size w w' := by
  have hmk0 := make_spans (s.size + 1) (by omega)
  rw [show ((s.size + 1 : Nat) : Int) = (s.size : Int) + 1 by omega] at hmk0
  have hmk := hmk0
  clear hmk0
  have hS := SP.made w (s.size + 1) 86
  have hb := (Below.refl w.heap.size w).alloc (Nat.le_refl _) (.cells (madeCells #[.int .u64 0, .int .u64 0, .int .u64 0, .int .u64 0, .int .u64 0] ((s.size + 1) * 5)) 86)
  obtain ⟨cs, hcs⟩ : ∃ cs, madeCells #[.int .u64 0, .int .u64 0, .int .u64 0, .int .u64 0, .int .u64 0] ((s.size + 1) * 5) = cs := ⟨_, rfl⟩
  rw [hcs] at hmk hS hb
  have HS := hide hS
  have HB := hide hb
  clear hcs hS hb
  go_enter Tryd.func68, Tryd.ntmps68
  go_wp2_with fail
  go_ret
  exact ⟨rfl, unhide HS, unhide HB⟩
end Go.Proofs.YtmgealcolofomaaDoor
