/- Walks of writing a number in base 16, told by its text: TrailingZeros of 16, isPowerOfTwo of 16, formatBits, FormatInt. -/
import Derived.Test.YtjpclmkekmkddaaGreatDoorChecked
import Derived.Test.YtjpclmkekmkddaaGreatDoorTb
import Derived.Test.YtjpclmkekmkddaaGreatDoorWs
namespace Go.Proofs.YtjpclmkekmkddaaGreatDoor
open Go.RowKit
set_option linter.unusedVariables false
set_option maxRecDepth 20000
namespace Hx

set_option maxHeartbeats 1000000 in
theorem pow2_16 (w : World) : Calls Tryz.prog 122 #[.int .i64 16] w fun e w' => e = .returned (.bool true) ∧ w' = w := by
  go_enter Tryz.func122, Tryz.ntmps122
  go_wp2
  go_ret
  exact ⟨rfl, rfl⟩

set_option maxHeartbeats 1000000 in
theorem tz64_16 (w : World) (h : w.cell? ⟨3, 15, none⟩ = some (.int .u8 4)) : Calls Tryz.prog 138 #[.int .u64 16] w fun e w' => e = .returned (.int .i64 4) ∧ w' = w := by
  have e1 : bits BinOp.and IntKind.u64 16 (IntKind.u64.wrap (-16)) = 16 := by decide +kernel
  have e2 : IntKind.u64.wrap (16 * 285870213051353865) = 4573923408821661840 := by decide +kernel
  have e3 : (4573923408821661840 : Int) / 288230376151711744 = 15 := by decide +kernel
  go_enter Tryz.func138, Tryz.ntmps138
  go_wp2
  go_ret
  exact ⟨rfl, rfl⟩

set_option maxHeartbeats 1000000 in
theorem tz_16 (w : World) (h : w.cell? ⟨3, 15, none⟩ = some (.int .u8 4)) : Calls Tryz.prog 123 #[.int .u64 16] w fun e w' => e = .returned (.int .i64 4) ∧ w' = w := by
  have H := hide (tz64_16 w h)
  clear h
  go_enter Tryz.func123, Tryz.ntmps123
  go_wp2_with (go_at_call 138; refine (unhide H).mono ?_; rintro e wx ⟨rfl, rfl⟩)
  go_ret
  exact ⟨rfl, rfl⟩

/-- digits of base 16 behind u: read on from u they are x -/
def readOn (u x : Int) (ds : List UInt8) : Prop := (u = x ∧ ds = []) ∨ Cu.hx x.toNat = Cu.hx u.toNat ++ ds

theorem zero83 : Tryz.zeroCells146 = Array.replicate 65 (.int .u8 0) := by kernel_rfl

/-- the row of 65 bytes: what stands behind place k -/
structure Row (w wr : World) (k : Nat) (ds : List UInt8) : Prop where
  len : k + ds.length = 65
  there : ∀ j, j < 65 → (wr.cell? ⟨w.heap.size, j, none⟩).isSome = true ∧ wr.frozen? ⟨w.heap.size, j, none⟩ = false
  holds : ∀ j (hj : j < ds.length), wr.cell? ⟨w.heap.size, k + j, none⟩ = some (.int .u8 (ds[j].toNat : Int))
  below : Below w.heap.size w wr

theorem Row.start (w : World) : Row w (w.alloc (.cells Tryz.zeroCells146 146)) 65 [] := by
  refine ⟨rfl, fun j hj => ⟨?_, World.frozen?_alloc_new w _ _ j⟩, fun j hj => by simp at hj, (Below.refl _ _).alloc (Nat.le_refl _) _⟩
  rw [World.cell?_alloc_new w _ _ j, zero83]
  simp [hj]
theorem Row.put {w wr : World} {k : Nat} {ds : List UInt8} (h : Row w wr (k + 1) ds) (c : UInt8) : Row w (wr.setCell ⟨w.heap.size, k, none⟩ (.int .u8 c.toNat)) k (c :: ds) := by
  have hl := h.len
  have hk : k < 65 := by omega
  refine ⟨by simp; omega, fun j hj => ⟨?_, by rw [World.frozen?_setCell]; exact (h.there j hj).2⟩, fun j hj => ?_, h.below.setCell (Nat.le_refl _) _⟩
  · by_cases e : j = k
    · subst e
      rw [World.cell?_setCell_same' _ _ _ (h.there j hj).1]; rfl
    · rw [World.cell?_setCell_other _ _ _ _ (by intro x; apply e; simpa using x.symm)]; exact (h.there j hj).1
  · cases j with
    | zero => rw [Nat.add_zero, World.cell?_setCell_same' _ _ _ (h.there k hk).1]; rfl
    | succ j =>
      rw [World.cell?_setCell_other _ _ _ _ (by simp)]
      have := h.holds j (by simpa using hj)
      rw [show k + (j + 1) = k + 1 + j from by omega, this]; rfl

theorem rnd (n : Nat) (y : Int) (hn : n ≤ 6) (hy : y < 16 ^ (7 - n)) (h16 : 16 ≤ y) : n + 1 ≤ 6 ∧ y / 16 < 16 ^ (7 - (n + 1)) := by
  have hd : n = 0 ∨ n = 1 ∨ n = 2 ∨ n = 3 ∨ n = 4 ∨ n = 5 ∨ n = 6 := by omega
  rcases hd with rfl | rfl | rfl | rfl | rfl | rfl | rfl <;> simp at hy ⊢ <;> omega

theorem tab_36 : ∀ k : Fin 16, ((({ data := #[48, 49, 50, 51, 52, 53, 54, 55, 56, 57, 97, 98, 99, 100, 101, 102, 103, 104, 105, 106, 107, 108, 109, 110, 111, 112, 113, 114, 115, 116, 117, 118, 119, 120, 121, 122] } : ByteArray)[k.1]'(by have := k.2; exact Nat.lt_of_lt_of_le this (by decide)))) = Cu.dg k.1 := by decide
theorem read_next {x y : Int} {c : UInt8} {ds : List UInt8} (hy : 0 ≤ y) (h16 : 16 ≤ y) (h : readOn y x ds) (hc : c = Cu.dg (y % 16).toNat) : readOn (y / 16) x (c :: ds) := by
  have hb : Cu.hx y.toNat = Cu.hx (y / 16).toNat ++ [c] := by
    rw [Cu.hx_big (show ¬ y.toNat < 16 by omega), hc, show y.toNat / 16 = (y / 16).toNat by omega, show y.toNat % 16 = (y % 16).toNat by omega]
  unfold readOn at *
  rcases h with ⟨rfl, rfl⟩ | h
  · exact .inr hb
  · right; rw [h, hb, List.append_assoc]; rfl
theorem read_last {x y : Int} {c : UInt8} {ds : List UInt8} (hy : 0 ≤ y) (h16 : y < 16) (h : readOn y x ds) (hc : c = Cu.dg y.toNat) : c :: ds = Cu.hx x.toNat := by
  have hb : Cu.hx y.toNat = [c] := by rw [Cu.hx_small (show y.toNat < 16 by omega), hc]
  unfold readOn at h
  rcases h with ⟨rfl, rfl⟩ | h
  · exact hb.symm
  · rw [h, hb]; rfl
theorem tab_dig (z : Int) (h0 : 0 ≤ z) (h1 : z < 16) (hb : z.toNat < 36) : ((({ data := #[48, 49, 50, 51, 52, 53, 54, 55, 56, 57, 97, 98, 99, 100, 101, 102, 103, 104, 105, 106, 107, 108, 109, 110, 111, 112, 113, 114, 115, 116, 117, 118, 119, 120, 121, 122] } : ByteArray)[z.toNat]'hb)) = Cu.dg z.toNat := by
  have := tab_36 ⟨z.toNat, by omega⟩
  simpa only using this
theorem and15_u64 (y : Int) (h0 : 0 ≤ y) (h1 : y < 268435456) : bits BinOp.and IntKind.u64 y 15 = y % 16 := by
  have h := bits_and_u64_nat y.toNat 15 (by omega) (by omega)
  rw [show y.toNat &&& 15 = y.toNat % 16 from Nat.and_two_pow_sub_one_eq_mod y.toNat 4, Int.toNat_of_nonneg h0] at h
  have h2 : ((y.toNat % 16 : Nat) : Int) = y % 16 := by omega
  exact h.trans h2
theorem pow_le7 (n : Nat) (y : Int) (h : n ≤ 6) (hy : y < 16 ^ (7 - n)) : y < 268435456 := by
  have hd : n = 0 ∨ n = 1 ∨ n = 2 ∨ n = 3 ∨ n = 4 ∨ n = 5 ∨ n = 6 := by omega
  rcases hd with rfl | rfl | rfl | rfl | rfl | rfl | rfl <;> simp at hy <;> omega

/-- what lies from place k on, as a string -/
theorem Row.str {w wr : World} {k : Nat} {ds : List UInt8} (h : Row w wr k ds) (cap : Nat) : (convert 89 9 (.slice (some ⟨w.heap.size, k, none⟩) ds.length cap)).run Tryz.prog wr = .ok (.string ⟨ds.toArray⟩) wr := by
  refine run_convert_bytes_back wr 89 9 5 ⟨w.heap.size, k, none⟩ cap ds Tryz.underlying89 Tryz.underlying5 Tryz.underlying9 fun j hj => ?_
  rw [Addr.add_lit]; exact h.holds j hj

theorem cut65 (W : World) (b j n : Nat) (h : j + n = 65) (hn : 1 ≤ n) : (Instr.sliceAt 146 (.pointer (some ⟨b, 0, none⟩)) (some (.int .i64 (j : Int))) none none).run Tryz.prog W = .ok (.slice (some ⟨b, j, none⟩) n n) W := by
  have hl : Tryz.prog.arrayLen 146 = 65 := by kernel_rfl
  have he : Tryz.prog.elem 146 = 5 := by kernel_rfl
  rw [run_sliceAt_array_l W 146 ⟨b, 0, none⟩ (by rw [hl, he]; exact Tryz.underlying146) .i64 (j : Int) (by omega) (by rw [hl]; omega), hl, he]
  have hz : (sizeOf 5).run Tryz.prog W = .ok 1 W := Tryz.sizeOf5 W
  rw [hz]
  simp only [Result.andThen, slicedAt, Int.toNat_natCast, Nat.mul_one]
  rw [if_neg (by omega), Addr.add_lit, Nat.zero_add, show 65 - j = n from by omega]

set_option maxHeartbeats 2000000 in
theorem bits_16 (x : Int) (w : World) (h0 : 0 ≤ x) (h1 : x < 268435456) (h : w.cell? ⟨3, 15, none⟩ = some (.int .u8 4)) :
    Calls Tryz.prog 106 #[.slice none 0 0, .int .u64 x, .int .i64 16, .bool false, .bool false] w fun e w' => ∃ l : List UInt8, e = .returned (.tuple #[.slice none 0 0, .string ⟨l.toArray⟩]) ∧ l = Cu.hx x.toNat ∧ Below w.heap.size w w' := by
  have HP := hide pow2_16
  have HT := hide (fun w => tz_16 w)
  have Hc := hide h
  clear h
  go_enter Tryz.func106, Tryz.ntmps106
  go_wp2_with fail
  refine ((unhide HP) _).mono ?_; rintro e wx ⟨rfl, rfl⟩
  go_wp2_with fail
  refine ((unhide HT) _ ?_).mono ?_
  · rw [((Below.refl w.heap.size w).alloc (Nat.le_refl _) _).cell (World.block_lt_of_cell? _ _ (unhide Hc))]; exact unhide Hc
  rintro e wx ⟨rfl, rfl⟩
  go_wp2_with fail
  go_loopw [1, 13] (fun u i wr => ∃ (y : Int) (k : Nat) (ds : List UInt8), u = .int .u64 y ∧ i = .int .i64 k ∧ 0 ≤ y ∧ ds.length ≤ 6 ∧ y < 16 ^ (7 - ds.length) ∧ readOn y x ds ∧ Row w wr k ds) (fun u _ _ => (intOf u).toNat)
  case atStart => exact ⟨x, 65, [], rfl, rfl, h0, by simp, by simpa using h1, .inl ⟨rfl, rfl⟩, Row.start w⟩
  case round =>
    obtain ⟨y, k, ds, rfl, rfl, hy0, hl, hy1, hr, hrow⟩ := hrel
    have HR := hide hr
    have HW := hide hrow
    have hk := hrow.len
    have HY := hide hy1
    clear hr hrow hy1
    by_cases h16 : 16 ≤ y
    · obtain ⟨j, rfl⟩ : ∃ j, k = j + 1 := ⟨k - 1, by omega⟩
      have hyb := pow_le7 _ _ hl (unhide HY)
      have hrn := rnd _ _ hl (unhide HY) h16
      have HN := hide hrn.2
      have hl2 := hrn.1
      clear hrn
      have hand := and15_u64 y hy0 hyb
      have hm : 0 ≤ y % 16 ∧ y % 16 < 16 := by omega
      obtain ⟨v0, hv0⟩ := Option.isSome_iff_exists.1 ((unhide HW).there j (by omega)).1
      have hfz := ((unhide HW).there j (by omega)).2
      go_wp2
      refine ⟨⟨y / 16, j, _ :: ds, by go_num, rfl, by omega, hl2, unhide HN, read_next hy0 h16 (unhide HR) (tab_dig _ hm.1 hm.2 _), (unhide HW).put _⟩, by simp [intOf]; omega⟩
    · obtain ⟨j, rfl⟩ : ∃ j, k = j + 1 := ⟨k - 1, by omega⟩
      obtain ⟨v0, hv0⟩ := Option.isSome_iff_exists.1 ((unhide HW).there j (by omega)).1
      have hfz := ((unhide HW).there j (by omega)).2
      have hy16 : y < 16 := by omega
      have hsl := fun W => cut65 W w.heap.size j (ds.length + 1) (by omega) (by omega)
      have hcv : ∀ c : UInt8, (convert 89 9 (.slice (some ⟨w.heap.size, j, none⟩) (ds.length + 1) (ds.length + 1))).run Tryz.prog (wr.setCell ⟨w.heap.size, j, none⟩ (.int .u8 c.toNat)) = .ok (.string ⟨(c :: ds).toArray⟩) (wr.setCell ⟨w.heap.size, j, none⟩ (.int .u8 c.toNat)) := fun c => ((unhide HW).put c).str (ds.length + 1)
      have hlen : ds.length + 1 ≤ 7 := by omega
      go_wp2
      go_ret2
      exact ⟨_ :: ds, rfl, read_last hy0 hy16 (unhide HR) (tab_dig _ hy0 hy16 _), ((unhide HW).put _).below⟩

set_option maxHeartbeats 1000000 in
theorem formatInt_16 (x : Int) (w : World) (h0 : 0 ≤ x) (h1 : x < 268435456) (h : w.cell? ⟨3, 15, none⟩ = some (.int .u8 4)) :
    Calls Tryz.prog 84 #[.int .i64 x, .int .i64 16] w fun e w' => ∃ l : List UInt8, e = .returned (.string ⟨l.toArray⟩) ∧ l = Cu.hx x.toNat ∧ Below w.heap.size w w' := by
  have H := hide (bits_16 x w h0 h1 h)
  have hng : decide (x < 0) = false := by simp; omega
  clear h
  go_enter Tryz.func84, Tryz.ntmps84
  go_wp2_with fail
  refine (unhide H).mono ?_; rintro e w1 ⟨l, rfl, p1, b1⟩
  have P := hide p1
  clear p1
  go_wp2_with fail
  go_ret
  exact ⟨l, rfl, unhide P, b1⟩
set_option maxHeartbeats 1000000 in
theorem format_16 (x : Int) (w : World) (h0 : 0 ≤ x) (h1 : x < 268435456) (h : w.cell? ⟨3, 15, none⟩ = some (.int .u8 4)) :
    Calls Tryz.prog 67 #[.int .i64 x, .int .i64 16] w fun e w' => ∃ l : List UInt8, e = .returned (.string ⟨l.toArray⟩) ∧ l = Cu.hx x.toNat ∧ Below w.heap.size w w' := by
  have H := hide (formatInt_16 x w h0 h1 h)
  clear h
  go_enter Tryz.func67, Tryz.ntmps67
  go_wp2_with fail
  refine (unhide H).mono ?_; rintro e w1 ⟨l, rfl, p1, b1⟩
  have P := hide p1
  clear p1
  go_wp2_with fail
  go_ret
  exact ⟨l, rfl, unhide P, b1⟩
end Hx
end Go.Proofs.YtjpclmkekmkddaaGreatDoor
