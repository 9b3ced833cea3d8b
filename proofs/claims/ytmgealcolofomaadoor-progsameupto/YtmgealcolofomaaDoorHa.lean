/- Regular expressions as trees, and how they lie in memory; the document's comparing of two. -/
import Derived.Test.YtmgealcolofomaaDoorFi
import Derived.Laws.StructEq
namespace Go.Proofs.YtmgealcolofomaaDoor
open Go.RowKit Kb
set_option linter.unusedVariables false
set_option maxRecDepth 20000

/-- a set of bytes: four words -/
structure Se where
  a : Int
  b : Int
  c : Int
  d : Int
deriving DecidableEq
inductive Rx where
  | mk (k : Int) (s : Se) (ks : List Rx)
namespace Rx
def k : Rx → Int | mk k _ _ => k
def s : Rx → Se | mk _ s _ => s
def ks : Rx → List Rx | mk _ _ ks => ks
theorem eta (r : Rx) : r = mk r.k r.s r.ks := by cases r; rfl
theorem ind {P : Rx → Prop} (h : ∀ k s ks, (∀ x ∈ ks, P x) → P (mk k s ks)) : ∀ r, P r
  | mk k s ks => h k s ks (fun x hx => ind h x)
decreasing_by
  have := List.sizeOf_lt_of_mem hx
  simp; omega
theorem ks_lt {l : List Rx} {i : Nat} (h : i < l.length) : SizeOf.sizeOf l[i].ks < SizeOf.sizeOf l := by
  have := List.sizeOf_lt_of_mem (List.getElem_mem h)
  have h2 : SizeOf.sizeOf l[i].ks < SizeOf.sizeOf l[i] := by
    rcases hl : l[i] with ⟨k, s, ks⟩
    simp [Rx.ks]; omega
  omega
end Rx
def Fit (r : Rx) : Prop := (-9223372036854775808 ≤ r.k ∧ r.k ≤ 9223372036854775807) ∧ (0 ≤ r.s.a ∧ r.s.a ≤ 18446744073709551615) ∧ (0 ≤ r.s.b ∧ r.s.b ≤ 18446744073709551615) ∧ (0 ≤ r.s.c ∧ r.s.c ≤ 18446744073709551615) ∧ (0 ≤ r.s.d ∧ r.s.d ≤ 18446744073709551615)
/-- a slice of expressions -/
def Kd (w : World) (l : List Rx) (v : Value) : Prop :=
  (∃ o c, v = .slice o l.length c ∧ l.length ≤ c) ∧ l.length ≤ 140737488355328 ∧
  (l ≠ [] → ∃ g off c, v = .slice (some ⟨g, off, none⟩) l.length c ∧ g < w.heap.size ∧ ∀ (i : Nat) (h : i < l.length), Fit l[i] ∧
    w.cell? ⟨g, off + i * 6, none⟩ = some (.int .i64 l[i].k) ∧ w.cell? ⟨g, off + i * 6 + 1, none⟩ = some (.int .u64 l[i].s.a) ∧ w.cell? ⟨g, off + i * 6 + 2, none⟩ = some (.int .u64 l[i].s.b) ∧
    w.cell? ⟨g, off + i * 6 + 3, none⟩ = some (.int .u64 l[i].s.c) ∧ w.cell? ⟨g, off + i * 6 + 4, none⟩ = some (.int .u64 l[i].s.d) ∧ ∃ e, w.cell? ⟨g, off + i * 6 + 5, none⟩ = some e ∧ Kd w l[i].ks e)
termination_by SizeOf.sizeOf l
decreasing_by exact Rx.ks_lt h
theorem Kd.form {w : World} {l : List Rx} {v : Value} (h : Kd w l v) : ∃ o c, v = .slice o l.length c ∧ l.length ≤ c := by rw [Kd] at h; exact h.1
theorem Kd.room {w : World} {l : List Rx} {v : Value} (h : Kd w l v) : l.length ≤ 140737488355328 := by rw [Kd] at h; exact h.2.1
theorem Kd.at_ {w : World} {l : List Rx} {v : Value} (h : Kd w l v) {i : Nat} {x : Rx} (hi : l[i]? = some x) : ∃ g off c e, v = .slice (some ⟨g, off, none⟩) l.length c ∧ g < w.heap.size ∧ Fit x ∧
    w.cell? ⟨g, off + i * 6, none⟩ = some (.int .i64 x.k) ∧ w.cell? ⟨g, off + i * 6 + 1, none⟩ = some (.int .u64 x.s.a) ∧ w.cell? ⟨g, off + i * 6 + 2, none⟩ = some (.int .u64 x.s.b) ∧
    w.cell? ⟨g, off + i * 6 + 3, none⟩ = some (.int .u64 x.s.c) ∧ w.cell? ⟨g, off + i * 6 + 4, none⟩ = some (.int .u64 x.s.d) ∧ w.cell? ⟨g, off + i * 6 + 5, none⟩ = some e ∧ Kd w x.ks e := by
  rw [Kd] at h
  obtain ⟨hil, hx⟩ := List.getElem?_eq_some_iff.1 hi
  obtain ⟨g, off, c, h1, h2, h3⟩ := h.2.2 (by intro e; rw [e] at hil; cases hil)
  obtain ⟨h4, k0, k1, k2, k3, k4, e, k5, h5⟩ := h3 i hil
  rw [hx] at h4 k0 k1 k2 k3 k4 h5
  exact ⟨g, off, c, e, h1, h2, h4, k0, k1, k2, k3, k4, k5, h5⟩
theorem Kd.nil (w : World) : Kd w [] (.slice none 0 0) := by
  rw [Kd]; exact ⟨⟨none, 0, rfl, Nat.le_refl _⟩, by show 0 ≤ _; omega, fun h => absurd rfl h⟩
theorem Kd.below {w w' : World} (b : Below w.heap.size w w') : ∀ (n : Nat) (l : List Rx) (v : Value), SizeOf.sizeOf l ≤ n → Kd w l v → Kd w' l v := by
  intro n
  induction n with
  | zero => intro l v hn h; cases l <;> simp at hn
  | succ n ih =>
    intro l v hn h
    rw [Kd] at h ⊢
    refine ⟨h.1, h.2.1, fun hne => ?_⟩
    obtain ⟨g, off, c, h1, h2, h3⟩ := h.2.2 hne
    refine ⟨g, off, c, h1, Nat.lt_of_lt_of_le h2 b.size, fun i hi => ?_⟩
    obtain ⟨h4, k0, k1, k2, k3, k4, e, k5, h5⟩ := h3 i hi
    have := Rx.ks_lt hi
    exact ⟨h4, cell_below k0 h2 b, cell_below k1 h2 b, cell_below k2 h2 b, cell_below k3 h2 b, cell_below k4 h2 b, e, cell_below k5 h2 b, ih _ _ (by omega) h5⟩
/-- an expression as a value -/
def rexV (r : Rx) (e : Value) : Value := .agg #[.int .i64 r.k, .int .u64 r.s.a, .int .u64 r.s.b, .int .u64 r.s.c, .int .u64 r.s.d, e]
structure RexV (w : World) (v : Value) (r : Rx) : Prop where
  val : ∃ e, v = rexV r e ∧ Kd w r.ks e
  fit : Fit r
theorem RexV.below {w w' : World} {v : Value} {r : Rx} (h : RexV w v r) (b : Below w.heap.size w w') : RexV w' v r := by
  obtain ⟨e, h1, h2⟩ := h.val
  exact ⟨⟨e, h1, Kd.below b _ _ _ (Nat.le_refl _) h2⟩, h.fit⟩
theorem eqSet (a b c d a' b' c' d' : Int) (w : World) : (Op.equalIn 10000 35 (.agg #[.int .u64 a, .int .u64 b, .int .u64 c, .int .u64 d]) (.agg #[.int .u64 a', .int .u64 b', .int .u64 c', .int .u64 d'])).run Tryd.prog w = .ok (decide ((⟨a, b, c, d⟩ : Se) = ⟨a', b', c', d'⟩)) w := by
  have he := Tryd.underlying33
  have hsz : ∀ w, (Go.sizeOf 33).run Tryd.prog w = .ok 1 w := fun w => by kernel_rfl
  have pe : ∀ x y : Int, (Op.equalIn (9998 + 1) 33 (.int .u64 x) (.int .u64 y)).run Tryd.prog w = .ok (x == y) w := fun x y => run_equalIn_int w 9998 _ .u64 .u64 x y he
  have hd : decide ((⟨a, b, c, d⟩ : Se) = ⟨a', b', c', d'⟩) = (a == a' && (b == b' && (c == c' && d == d'))) := by
    rw [Bool.eq_iff_iff]; simp
  rw [hd, show Op.equalIn 10000 = Op.equalIn (9998 + 2) from rfl, Op.equalIn]
  simp only [Sem.run_bind, run_underlying Tryd.underlying35, Result.andThen_ok, hsz, Std.Legacy.Range.forIn_eq_forIn_range', Std.Legacy.Range.size, Nat.sub_zero, Nat.add_sub_cancel, Nat.div_one, show List.range' 0 4 1 = [0, 1, 2, 3] from rfl, List.forIn_cons]
  cases h1 : (a == a') <;> cases h2 : (b == b') <;> cases h3 : (c == c') <;> cases h4 : (d == d') <;> simp [part, isAgg, run_underlying he, pe, h1, h2, h3, h4]
end Go.Proofs.YtmgealcolofomaaDoor
