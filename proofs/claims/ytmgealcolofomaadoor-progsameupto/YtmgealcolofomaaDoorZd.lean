/- The bits of a word one by one: plain; the library's TrailingZeros64. -/
import Derived.Test.YtmgealcolofomaaDoorZb
import Derived.Shelf.Spec.TrailingZeros
namespace Go.Proofs.YtmgealcolofomaaDoor
open Go.RowKit Kb
set_option linter.unusedVariables false
set_option maxRecDepth 20000
open Sp

/-- the library's table lies as it is laid -/
def TZ (W : World) : Prop := TabAt 0 Lib.deBruijn64tab W
theorem TZ.kept {W W' : World} {r : Option Nat} (h : TZ W) (hb : ∀ k, k < W.heap.size → some k ≠ r → W'.heap[k]? = W.heap[k]?) (hr : ∀ k, r = some k → k ≠ 0) : TZ W' := fun j hj =>
  (World.cell?_of_block (a := ⟨0, j, none⟩) (hb _ (World.block_lt_of_cell? _ _ (h j hj)) (fun e => hr _ e.symm rfl))).trans (h j hj)
theorem TZ.lt {W : World} (h : TZ W) : 0 < W.heap.size := World.block_lt_of_cell? _ _ (h 0 (by decide))
theorem TZ.below {W W' : World} {n : Nat} (h : TZ W) (hn : 0 < n) (b : Below n W W') : TZ W' := fun j hj => (b.cell (p := ⟨0, j, none⟩) hn).trans (h j hj)
set_option maxHeartbeats 1000000 in
theorem tz_core (x k idx : Nat) (w : World) (hx0 : ((x : Int) == 0) = false)
    (key : IntKind.u64.wrap (bits BinOp.and IntKind.u64 (x : Int) (IntKind.u64.wrap (-(x : Int))) * 285870213051353865) / 288230376151711744 = (idx : Int))
    (hi : idx < 64) (hk : k < 64) (hcell : w.cell? ⟨0, idx, none⟩ = some (.int .u8 k)) :
    Calls Tryd.prog 89 #[.int .u64 x] w fun e w' => e = .returned (.int .i64 k) ∧ w' = w := by
  go_enter Tryd.func89, Tryd.ntmps89
  go_wp2_with (simp only [key])
  go_ret
  exact ⟨rfl, rfl⟩
/-- of a word that is not 0: where its lowest bit stands -/
theorem tz_any (x : Nat) (hx : x < 18446744073709551616) (hx0 : x ≠ 0) (w : World) (hT : TZ w) :
    Calls Tryd.prog 89 #[.int .u64 x] w fun e w' => e = .returned (.int .i64 (Lib.ctz 64 x)) ∧ w' = w := by
  obtain ⟨hlow, hk⟩ := Lib.lowest_bit 64 x hx0 hx
  obtain ⟨hi, htab⟩ := Lib.deBruijn64_at _ hk
  have hcell := hT _ hi
  rw [htab] at hcell
  exact tz_core x _ _ w (by simp; omega) (tz64_key x _ hx hx0 hlow) hi hk hcell
namespace Sp
theorem ctz_spec {x : Nat} (hx : x < 18446744073709551616) (hx0 : x ≠ 0) : ∃ m, x = 2 ^ Lib.ctz 64 x * (2 * m + 1) ∧ Lib.ctz 64 x < 64 := by
  unfold Lib.ctz
  rw [if_neg hx0]
  exact Lib.ctzFrom_spec 64 x (by omega) hx
theorem odd_bit (c m b : Nat) : (2 ^ c * (2 * m + 1)).testBit b = (decide (c ≤ b) && (2 * m + 1).testBit (b - c)) := by
  rw [Nat.testBit_two_pow_mul]
theorem ctz_bit {x : Nat} (hx : x < 18446744073709551616) (hx0 : x ≠ 0) : x.testBit (Lib.ctz 64 x) = true ∧ ∀ b, b < Lib.ctz 64 x → x.testBit b = false := by
  obtain ⟨m, hm, _⟩ := ctz_spec hx hx0
  obtain ⟨c, hc⟩ : ∃ c, Lib.ctz 64 x = c := ⟨_, rfl⟩
  rw [hc] at hm ⊢
  rw [hm]
  constructor
  · rw [odd_bit, Nat.sub_self, Nat.testBit_zero]; simp
  · intro b hb
    rw [odd_bit, decide_eq_false (by omega), Bool.false_and]
/-- x & (x - 1): without the lowest bit -/
theorem low_off {x : Nat} (hx : x < 18446744073709551616) (hx0 : x ≠ 0) (b : Nat) : (x &&& (x - 1)).testBit b = (x.testBit b && !decide (b = Lib.ctz 64 x)) := by
  obtain ⟨m, hm, _⟩ := ctz_spec hx hx0
  obtain ⟨c, hc⟩ : ∃ c, Lib.ctz 64 x = c := ⟨_, rfl⟩
  rw [hc] at hm ⊢
  have h1 : x - 1 = 2 ^ c * (2 * m) + (2 ^ c - 1) := by
    rw [hm, Nat.mul_add, Nat.mul_one]
    have : 0 < 2 ^ c := Nat.pos_of_ne_zero (by simp)
    omega
  have hp : 2 ^ c - 1 < 2 ^ c := Nat.sub_lt (Nat.pos_of_ne_zero (by simp)) (by omega)
  rw [Nat.testBit_and, h1, Nat.testBit_two_pow_mul_add _ hp]
  rw [hm, odd_bit]
  by_cases hb : b < c
  · rw [decide_eq_false (by omega : ¬ c ≤ b)]; simp
  · rw [if_neg hb, decide_eq_true (by omega : c ≤ b), Bool.true_and]
    by_cases e : b = c
    · rw [e, Nat.sub_self]; simp
    · obtain ⟨q, hq⟩ : ∃ q, b - c = q + 1 := ⟨b - c - 1, by omega⟩
      rw [hq, Nat.testBit_succ, Nat.testBit_succ, decide_eq_false e, show (2 * m + 1) / 2 = m by omega, show 2 * m / 2 = m by omega]
      cases m.testBit q <;> rfl
theorem bits_sub {x : Nat} (hx : x < 18446744073709551616) (hx0 : x ≠ 0) : IntKind.u64.wrap ((x : Int) - 1) = ((x - 1 : Nat) : Int) := by
  rw [IntKind.wrap_u64]; omega
/-- the places of a row, one by one -/
def plc (f : Nat → Bool) (n : Nat) : List Nat := (List.range n).filter f
theorem plc_succ (f : Nat → Bool) (n : Nat) : plc f (n + 1) = plc f n ++ if f n then [n] else [] := by
  unfold plc
  rw [List.range_succ, List.filter_append]
  cases h : f n <;> simp [h]
theorem plc_to {f : Nat → Bool} {a : Nat} : ∀ b, a ≤ b → (∀ j, a ≤ j → j < b → f j = false) → plc f b = plc f a := by
  intro b
  induction b with
  | zero => intro h _; rw [show a = 0 by omega]
  | succ b ih =>
    intro h hn
    by_cases e : a = b + 1
    · rw [e]
    · rw [plc_succ, hn b (by omega) (by omega), ih (by omega) (fun j h1 h2 => hn j h1 (by omega))]; simp
theorem plc_pre (f : Nat → Bool) (a b : Nat) (h : a ≤ b) : plc f a <+: plc f b := by
  induction b with
  | zero => rw [show a = 0 by omega]; exact List.prefix_refl _
  | succ b ih =>
    by_cases e : a = b + 1
    · rw [e]; exact List.prefix_refl _
    · rw [plc_succ]
      exact (ih (by omega)).trans (List.prefix_append _ _)
theorem plc_mem (f : Nat → Bool) (n j : Nat) : j ∈ plc f n ↔ j < n ∧ f j = true := by
  unfold plc; simp
end Sp
end Go.Proofs.YtmgealcolofomaaDoor
