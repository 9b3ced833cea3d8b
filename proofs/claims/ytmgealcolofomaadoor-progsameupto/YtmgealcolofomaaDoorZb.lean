/- Places of a text as words, rows of them in memory. -/
import Derived.Test.YtmgealcolofomaaDoorZa
import Derived.Laws.MakeOwn
namespace Go.Proofs.YtmgealcolofomaaDoor
open Go.RowKit Kb
set_option linter.unusedVariables false
set_option maxRecDepth 20000

namespace Sp
/-- the first k bits of a word -/
def wordN (p : Nat → Bool) : Nat → Nat
  | 0 => 0
  | k + 1 => wordN p k + (p k).toNat * 2 ^ k
theorem wordN_lt (p : Nat → Bool) (k : Nat) : wordN p k < 2 ^ k := by
  induction k with
  | zero => simp [wordN]
  | succ k ih =>
    rw [wordN, Nat.pow_succ]
    have : (p k).toNat ≤ 1 := Bool.toNat_le _
    have : (p k).toNat * 2 ^ k ≤ 1 * 2 ^ k := Nat.mul_le_mul_right _ this
    omega
theorem wordN_bit (p : Nat → Bool) (k : Nat) : ∀ j, j < k → (wordN p k).testBit j = p j := by
  induction k with
  | zero => intro j h; omega
  | succ k ih =>
    intro j hj
    have hl := wordN_lt p k
    rw [wordN, Nat.add_comm, Nat.mul_comm, Nat.testBit_two_pow_mul_add _ hl]
    by_cases e : j < k
    · rw [if_pos e]; exact ih j e
    · obtain rfl : j = k := by omega
      rw [if_neg e, Nat.sub_self]
      cases p j <;> rfl
/-- word k of a row of places -/
def wd (f : Nat → Bool) (k : Nat) : Nat := wordN (fun b => f (64 * k + b)) 64
theorem wd_lt (f : Nat → Bool) (k : Nat) : wd f k < 18446744073709551616 := wordN_lt _ 64
theorem wd_bit (f : Nat → Bool) (k b : Nat) (hb : b < 64) : (wd f k).testBit b = f (64 * k + b) := wordN_bit _ 64 b hb
theorem wd_of {x k : Nat} {f : Nat → Bool} (hx : x < 18446744073709551616) (h : ∀ b, b < 64 → x.testBit b = f (64 * k + b)) : x = wd f k := by
  apply Nat.eq_of_testBit_eq
  intro b
  by_cases hb : b < 64
  · rw [h b hb, wd_bit f k b hb]
  · have e : ∀ n : Nat, n < 18446744073709551616 → n.testBit b = false := fun n hn => Nat.testBit_lt_two_pow (Nat.lt_of_lt_of_le (by omega : n < 2 ^ 64) (Nat.pow_le_pow_right (by omega) (by omega)))
    rw [e x hx, e _ (wd_lt f k)]
theorem wd_congr {f g : Nat → Bool} {k : Nat} (h : ∀ b, b < 64 → f (64 * k + b) = g (64 * k + b)) : wd f k = wd g k :=
  wd_of (wd_lt f k) fun b hb => by rw [wd_bit f k b hb, h b hb]
theorem wd_none (k : Nat) : wd (fun _ => false) k = 0 := (wd_of (by omega) fun b _ => Nat.zero_testBit b).symm
theorem wd_or (f g : Nat → Bool) (k : Nat) : wd f k ||| wd g k = wd (fun j => f j || g j) k := by
  refine wd_of ?_ fun b hb => by rw [Nat.testBit_or, wd_bit f k b hb, wd_bit g k b hb]
  have : wd f k ||| wd g k < 2 ^ 64 := Nat.or_lt_two_pow (wd_lt f k) (wd_lt g k)
  omega
theorem wd_add (f : Nat → Bool) (p : Nat) : wd f (p / 64) ||| 2 ^ (p % 64) = wd (fun j => f j || decide (j = p)) (p / 64) := by
  refine wd_of ?_ fun b hb => ?_
  · have : wd f (p / 64) ||| 2 ^ (p % 64) < 2 ^ 64 := Nat.or_lt_two_pow (wd_lt f _) (Nat.pow_lt_pow_right (by omega) (by omega))
    omega
  · rw [Nat.testBit_or, wd_bit f _ b hb, Nat.testBit_two_pow]
    congr 1
    rw [decide_eq_decide]; omega
theorem wd_fit (f : Nat → Bool) (k : Nat) : 0 ≤ (wd f k : Int) ∧ (wd f k : Int) ≤ 18446744073709551615 := by have := wd_lt f k; omega
/-- a row of places as a value -/
def plV (f : Nat → Bool) : Value := .agg #[.int .u64 (wd f 0), .int .u64 (wd f 1), .int .u64 (wd f 2), .int .u64 (wd f 3), .int .u64 (wd f 4)]
theorem plV_congr {f g : Nat → Bool} (h : ∀ j, j < 320 → f j = g j) : plV f = plV g := by
  unfold plV
  rw [wd_congr (f := f) (g := g) (k := 0) (fun b hb => h _ (by omega)), wd_congr (f := f) (g := g) (k := 1) (fun b hb => h _ (by omega)), wd_congr (f := f) (g := g) (k := 2) (fun b hb => h _ (by omega)), wd_congr (f := f) (g := g) (k := 3) (fun b hb => h _ (by omega)), wd_congr (f := f) (g := g) (k := 4) (fun b hb => h _ (by omega))]
/-- m rows of places lie in block g -/
structure SP (W : World) (g m : Nat) (T : Nat → Nat → Bool) : Prop where
  lt : g < W.heap.size
  cell : ∀ i k, i < m → k < 5 → W.cell? ⟨g, i * 5 + k, none⟩ = some (.int .u64 (wd (T i) k))
  froz : ∀ j, W.frozen? ⟨g, j, none⟩ = false
theorem SP.kept {W W' : World} {g m : Nat} {T : Nat → Nat → Bool} (h : SP W g m T) (hs : W.heap.size ≤ W'.heap.size) (b : W'.heap[g]? = W.heap[g]?) : SP W' g m T :=
  ⟨Nat.lt_of_lt_of_le h.lt hs, fun i k hi hk => (World.cell?_of_block (a := ⟨g, i * 5 + k, none⟩) b).trans (h.cell i k hi hk), fun j => (World.frozen?_of_block (a := ⟨g, j, none⟩) b).trans (h.froz j)⟩
theorem SP.below {W W' : World} {g m : Nat} {T : Nat → Nat → Bool} (h : SP W g m T) (b : Below W.heap.size W W') : SP W' g m T := h.kept b.size (b.block g h.lt)
theorem SP.grown {W W' : World} {g m r : Nat} {T : Nat → Nat → Bool} (h : SP W g m T) (b : W.grownBy W' (some r)) (hr : g ≠ r) : SP W' g m T := h.kept b.size (b.block g h.lt (fun e => hr (Option.some.inj e)))
theorem SP.congr {W : World} {g m : Nat} {T T' : Nat → Nat → Bool} (h : SP W g m T) (e : ∀ i j, i < m → j < 320 → T i j = T' i j) : SP W g m T' :=
  ⟨h.lt, fun i k hi hk => by rw [h.cell i k hi hk, wd_congr (f := T i) (g := T' i) (fun b hb => e i _ hi (by omega))], h.froz⟩
/-- one word is put -/
theorem SP.put {W : World} {g m : Nat} {T : Nat → Nat → Bool} (h : SP W g m T) (T' : Nat → Nat → Bool) {i k : Nat} (hi : i < m) (hk : k < 5) (x : Nat) (hx : x = wd (T' i) k)
    (ho : ∀ r j, r < m → j < 320 → ¬ (r = i ∧ j / 64 = k) → T' r j = T r j) : SP (W.setCell ⟨g, i * 5 + k, none⟩ (.int .u64 (x : Int))) g m T' := by
  refine ⟨by simpa using h.lt, fun r q hr hq => ?_, fun j => by rw [World.frozen?_setCell]; exact h.froz j⟩
  by_cases e : r = i ∧ q = k
  · obtain ⟨rfl, rfl⟩ := e
    rw [World.cell?_setCell_same' _ _ _ (by rw [h.cell r q hr hq]; rfl), hx]
  · rw [World.cell?_setCell_other _ _ _ _ (by intro e2; apply e; have := congrArg Addr.off e2; simp only at this; omega), h.cell r q hr hq, wd_congr (f := T r) (g := T' r) (fun b hb => (ho r _ hr (by omega) (fun h2 => e ⟨h2.1, by have := h2.2; omega⟩)).symm)]
theorem madeZ (m j : Nat) (hj : j < m * 5) : (madeCells #[.int .u64 0, .int .u64 0, .int .u64 0, .int .u64 0, .int .u64 0] (m * 5))[j]? = some (Value.int .u64 0) := by
  unfold madeCells
  have h5 : j % 5 < 5 := Nat.mod_lt _ (by omega)
  rw [Array.getElem?_map, Array.getElem?_range, if_pos hj]
  have e : ∀ q, q < 5 → (#[Value.int .u64 0, .int .u64 0, .int .u64 0, .int .u64 0, .int .u64 0] : Array Value)[q]! = .int .u64 0 := by
    intro q hq
    match q, hq with
    | 0, _ => rfl
    | 1, _ => rfl
    | 2, _ => rfl
    | 3, _ => rfl
    | 4, _ => rfl
  exact congrArg some (e _ h5)
theorem SP.made (W : World) (m : Nat) (t : TypeId) : SP (W.alloc (.cells (madeCells #[.int .u64 0, .int .u64 0, .int .u64 0, .int .u64 0, .int .u64 0] (m * 5)) t)) W.heap.size m (fun _ _ => false) := by
  refine ⟨by simp, fun i k hi hk => ?_, fun j => World.frozen?_alloc_new _ _ _ _⟩
  rw [World.cell?_alloc_new, madeZ m _ (by omega), wd_none]; rfl
/-- a row of spans that came in or was made: it is read alone -/
def PR (W : World) (v : Value) (m : Nat) (T : Nat → Nat → Bool) : Prop := ∃ g c, v = .slice (some ⟨g, 0, none⟩) m c ∧ m ≤ c ∧ SP W g m T
theorem PR.below {W W' : World} {v : Value} {m : Nat} {T : Nat → Nat → Bool} (h : PR W v m T) (b : Below W.heap.size W W') : PR W' v m T := by
  obtain ⟨g, c, h1, h2, h3⟩ := h
  exact ⟨g, c, h1, h2, h3.below b⟩
end Sp
theorem infoPl : (Tryd.prog.info? 86).map (fun i => (i.zero, i.size, i.bytes)) = some (some (.agg #[.int .u64 0, .int .u64 0, .int .u64 0, .int .u64 0, .int .u64 0]), 5, 40) := by kernel_rfl
theorem make_spans (m : Nat) (hm : m ≤ 1000000) (w : World) : (Instr.makeSlice 83 (.int .i64 m) (.int .i64 m)).run Tryd.prog w = .ok (.slice (some ⟨w.heap.size, 0, none⟩) m m) (w.alloc (.cells (madeCells #[.int .u64 0, .int .u64 0, .int .u64 0, .int .u64 0, .int .u64 0] (m * 5)) 86)) := by
  obtain ⟨i, hi, hzz⟩ := Option.map_eq_some_iff.1 infoPl
  simp only [Prod.mk.injEq] at hzz
  obtain ⟨hz, hs, hb⟩ := hzz
  have h := run_make (P := Tryd.prog) w 83 86 i _ Tryd.underlying83 hi hz .i64 .i64 m m (by omega) (Int.le_refl _) (by rw [hb]; omega) (by omega)
  rw [hs] at h
  exact h
end Go.Proofs.YtmgealcolofomaaDoor
