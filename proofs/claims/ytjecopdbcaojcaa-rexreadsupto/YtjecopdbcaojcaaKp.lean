/- What the program's reader builds, in memory: trees whose blocks lie in a set; variables that hold an expression. -/
import Derived.Test.YtjecopdbcaojcaaKl
import Derived.Test.YtjecopdbcaojcaaKo
namespace Go.Proofs.Ytjecopdbcaojcaa
open Go.RowKit Kb
set_option linter.unusedVariables false
set_option maxRecDepth 20000

/-- a slice of expressions, all of whose blocks are in N -/
def KdN (N : Nat → Prop) (w : World) (l : List Rx) (v : Value) : Prop :=
  (∃ o c, v = .slice o l.length c ∧ l.length ≤ c) ∧ l.length ≤ 140737488355328 ∧
  (l ≠ [] → ∃ g off c, v = .slice (some ⟨g, off, none⟩) l.length c ∧ g < w.heap.size ∧ N g ∧ ∀ (i : Nat) (h : i < l.length), Fit l[i] ∧
    w.cell? ⟨g, off + i * 6, none⟩ = some (.int .i64 l[i].k) ∧ w.cell? ⟨g, off + i * 6 + 1, none⟩ = some (.int .u64 l[i].s.a) ∧ w.cell? ⟨g, off + i * 6 + 2, none⟩ = some (.int .u64 l[i].s.b) ∧
    w.cell? ⟨g, off + i * 6 + 3, none⟩ = some (.int .u64 l[i].s.c) ∧ w.cell? ⟨g, off + i * 6 + 4, none⟩ = some (.int .u64 l[i].s.d) ∧ ∃ e, w.cell? ⟨g, off + i * 6 + 5, none⟩ = some e ∧ KdN N w l[i].ks e)
termination_by SizeOf.sizeOf l
decreasing_by exact Rx.ks_lt h
theorem KdN.form {N : Nat → Prop} {w : World} {l : List Rx} {v : Value} (h : KdN N w l v) : ∃ o c, v = .slice o l.length c ∧ l.length ≤ c := by rw [KdN] at h; exact h.1
theorem KdN.nil (N : Nat → Prop) (w : World) : KdN N w [] (.slice none 0 0) := by
  rw [KdN]; exact ⟨⟨none, 0, rfl, Nat.le_refl _⟩, by show 0 ≤ _; omega, fun h => absurd rfl h⟩
theorem KdN.kd {N : Nat → Prop} {w : World} : ∀ (n : Nat) (l : List Rx) (v : Value), SizeOf.sizeOf l ≤ n → KdN N w l v → Kd w l v := by
  intro n
  induction n with
  | zero => intro l v hn h; cases l <;> simp at hn
  | succ n ih =>
    intro l v hn h
    rw [KdN] at h
    rw [Kd]
    refine ⟨h.1, h.2.1, fun hne => ?_⟩
    obtain ⟨g, off, c, h1, h2, _, h3⟩ := h.2.2 hne
    refine ⟨g, off, c, h1, h2, fun i hi => ?_⟩
    obtain ⟨h4, k0, k1, k2, k3, k4, e, k5, h5⟩ := h3 i hi
    have := Rx.ks_lt hi
    exact ⟨h4, k0, k1, k2, k3, k4, e, k5, ih _ _ (by omega) h5⟩
theorem cell_same {w w' : World} {g j : Nat} {v : Value} (h : w.cell? ⟨g, j, none⟩ = some v) (hh : w'.heap[g]? = w.heap[g]?) : w'.cell? ⟨g, j, none⟩ = some v := by
  unfold World.cell? at h ⊢
  rw [hh]; exact h
theorem KdN.move {N N' : Nat → Prop} {w w' : World} (hs : w.heap.size ≤ w'.heap.size) (hh : ∀ k, N k → k < w.heap.size → w'.heap[k]? = w.heap[k]? ∧ N' k) : ∀ (n : Nat) (l : List Rx) (v : Value), SizeOf.sizeOf l ≤ n → KdN N w l v → KdN N' w' l v := by
  intro n
  induction n with
  | zero => intro l v hn h; cases l <;> simp at hn
  | succ n ih =>
    intro l v hn h
    rw [KdN] at h ⊢
    refine ⟨h.1, h.2.1, fun hne => ?_⟩
    obtain ⟨g, off, c, h1, h2, hN, h3⟩ := h.2.2 hne
    obtain ⟨hb, hn'⟩ := hh g hN h2
    refine ⟨g, off, c, h1, Nat.lt_of_lt_of_le h2 hs, hn', fun i hi => ?_⟩
    obtain ⟨h4, k0, k1, k2, k3, k4, e, k5, h5⟩ := h3 i hi
    have := Rx.ks_lt hi
    exact ⟨h4, cell_same k0 hb, cell_same k1 hb, cell_same k2 hb, cell_same k3 hb, cell_same k4 hb, e, cell_same k5 hb, ih _ _ (by omega) h5⟩
/-- an expression as a value, its blocks in N -/
def RexN (N : Nat → Prop) (w : World) (v : Value) (r : Rx) : Prop := (∃ e, v = rexV r e ∧ KdN N w r.ks e) ∧ Fit r
theorem RexN.rexV {N : Nat → Prop} {w : World} {v : Value} {r : Rx} (h : RexN N w v r) : RexV w v r := by
  obtain ⟨⟨e, h1, h2⟩, h3⟩ := h
  exact ⟨⟨e, h1, KdN.kd _ _ _ (Nat.le_refl _) h2⟩, h3⟩
theorem RexN.move {N N' : Nat → Prop} {w w' : World} {v : Value} {r : Rx} (h : RexN N w v r) (hs : w.heap.size ≤ w'.heap.size) (hh : ∀ k, N k → k < w.heap.size → w'.heap[k]? = w.heap[k]? ∧ N' k) : RexN N' w' v r := by
  obtain ⟨⟨e, h1, h2⟩, h3⟩ := h
  exact ⟨⟨e, h1, KdN.move hs hh _ _ _ (Nat.le_refl _) h2⟩, h3⟩
theorem RexN.grown {N N' : Nat → Prop} {w w' : World} {row : Option Nat} {v : Value} {r : Rx} (h : RexN N w v r) (g : w.grownBy w' row) (hh : ∀ k, N k → k < w.heap.size → some k ≠ row ∧ N' k) : RexN N' w' v r := h.move g.size fun k hk hl => ⟨g.block k hl (hh k hk hl).1, (hh k hk hl).2⟩
theorem RexN.mono {N N' : Nat → Prop} {w : World} {v : Value} {r : Rx} (h : RexN N w v r) (hh : ∀ k, N k → N' k) : RexN N' w v r := h.move (Nat.le_refl _) fun k hk _ => ⟨rfl, hh k hk⟩
/-- the form of an expression as a value -/
def FormV (v : Value) : Prop := ∃ (k : Int) (s : Se) (o : Option Addr) (n c : Nat), v = .agg #[.int .i64 k, .int .u64 s.a, .int .u64 s.b, .int .u64 s.c, .int .u64 s.d, .slice o n c]
theorem RexN.formV {N : Nat → Prop} {w : World} {v : Value} {r : Rx} (h : RexN N w v r) : FormV v := by
  obtain ⟨⟨e, h1, h2⟩, h3⟩ := h
  obtain ⟨o, c, rfl, _⟩ := h2.form
  exact ⟨r.k, r.s, o, _, c, h1⟩
/-- a node without kids -/
theorem rexN_leaf (N : Nat → Prop) (w : World) (k : Int) (s : Se) (hk : 1 ≤ k ∧ k ≤ 8) (hs : FitS s) : RexN N w (.agg #[.int .i64 k, .int .u64 s.a, .int .u64 s.b, .int .u64 s.c, .int .u64 s.d, .slice none 0 0]) (.mk k s []) :=
  ⟨⟨.slice none 0 0, rfl, KdN.nil N w⟩, ⟨⟨by show _ ≤ k; omega, by show k ≤ _; omega⟩, hs⟩⟩
def cellsX (k : Int) (s : Se) (v : Value) : List Value := [.int .i64 k, .int .u64 s.a, .int .u64 s.b, .int .u64 s.c, .int .u64 s.d, v]
/-- a node with one kid -/
theorem rexN_one {N : Nat → Prop} {w : World} {g : Nat} {fr : Nat × Nat} {t : TypeId} {x : Rx} {k k0 : Int} {s : Se} {e : Value} (hx : RexN N w (.agg #[.int .i64 k0, .int .u64 s.a, .int .u64 s.b, .int .u64 s.c, .int .u64 s.d, e]) x) (hN : N g) (hh : w.heap[g]? = some (.cells (cellsX k0 s e).toArray t fr)) (hk : 1 ≤ k ∧ k ≤ 8) :
    RexN N w (.agg #[.int .i64 k, .int .u64 0, .int .u64 0, .int .u64 0, .int .u64 0, .slice (some ⟨g, 0, none⟩) 1 1]) (.mk k noSet [x]) := by
  obtain ⟨⟨e', h1, h2⟩, h3⟩ := hx
  unfold Go.Proofs.Ytjecopdbcaojcaa.rexV at h1
  simp only [Value.agg.injEq, Array.mk.injEq, List.cons.injEq, Value.int.injEq, and_true, true_and] at h1
  obtain ⟨q0, q1, q2, q3, q4, q5⟩ := h1
  subst q5
  refine ⟨⟨.slice (some ⟨g, 0, none⟩) 1 1, rfl, ?_⟩, ⟨⟨by show _ ≤ k; omega, by show k ≤ _; omega⟩, by simp [noSet, Rx.s]⟩⟩
  have hl := (Array.getElem?_eq_some_iff.1 hh).1
  have hc : ∀ j, w.cell? ⟨g, j, none⟩ = (cellsX k0 s e).toArray[j]? := fun j => Go.Lib.cell_of_heap hh j
  show KdN N w [x] _
  rw [KdN]
  refine ⟨⟨_, 1, rfl, Nat.le_refl _⟩, by simp, fun _ => ⟨g, 0, 1, rfl, hl, hN, fun i hi => ?_⟩⟩
  obtain rfl : i = 0 := by simp at hi; omega
  simp only [List.getElem_cons_zero, Nat.zero_mul, Nat.add_zero, Nat.zero_add, hc]
  exact ⟨h3, by rw [← q0]; rfl, by rw [← q1]; rfl, by rw [← q2]; rfl, by rw [← q3]; rfl, by rw [← q4]; rfl, e, rfl, h2⟩
/-- a node with two kids -/
theorem rexN_two {N : Nat → Prop} {w : World} {g : Nat} {fr : Nat × Nat} {t : TypeId} {x y : Rx} {k k0 k1 : Int} {s s' : Se} {e e1 : Value} (hx : RexN N w (.agg #[.int .i64 k0, .int .u64 s.a, .int .u64 s.b, .int .u64 s.c, .int .u64 s.d, e]) x) (hy : RexN N w (.agg #[.int .i64 k1, .int .u64 s'.a, .int .u64 s'.b, .int .u64 s'.c, .int .u64 s'.d, e1]) y) (hN : N g) (hh : w.heap[g]? = some (.cells (cellsX k0 s e ++ cellsX k1 s' e1).toArray t fr)) (hk : 1 ≤ k ∧ k ≤ 8) :
    RexN N w (.agg #[.int .i64 k, .int .u64 0, .int .u64 0, .int .u64 0, .int .u64 0, .slice (some ⟨g, 0, none⟩) 2 2]) (.mk k noSet [x, y]) := by
  obtain ⟨⟨e', h1, h2⟩, h3⟩ := hx
  obtain ⟨⟨e1', h1', h2'⟩, h3'⟩ := hy
  unfold Go.Proofs.Ytjecopdbcaojcaa.rexV at h1 h1'
  simp only [Value.agg.injEq, Array.mk.injEq, List.cons.injEq, Value.int.injEq, and_true, true_and] at h1 h1'
  obtain ⟨q0, q1, q2, q3, q4, q5⟩ := h1
  obtain ⟨p0, p1, p2, p3, p4, p5⟩ := h1'
  subst q5 p5
  refine ⟨⟨.slice (some ⟨g, 0, none⟩) 2 2, rfl, ?_⟩, ⟨⟨by show _ ≤ k; omega, by show k ≤ _; omega⟩, by simp [noSet, Rx.s]⟩⟩
  have hl := (Array.getElem?_eq_some_iff.1 hh).1
  have hc : ∀ j, w.cell? ⟨g, j, none⟩ = (cellsX k0 s e ++ cellsX k1 s' e1).toArray[j]? := fun j => Go.Lib.cell_of_heap hh j
  show KdN N w [x, y] _
  rw [KdN]
  refine ⟨⟨_, 2, rfl, Nat.le_refl _⟩, by simp, fun _ => ⟨g, 0, 2, rfl, hl, hN, fun i hi => ?_⟩⟩
  have : i = 0 ∨ i = 1 := by simp at hi; omega
  rcases this with rfl | rfl
  · simp only [List.getElem_cons_zero, Nat.zero_mul, Nat.add_zero, Nat.zero_add, hc]
    exact ⟨h3, by rw [← q0]; rfl, by rw [← q1]; rfl, by rw [← q2]; rfl, by rw [← q3]; rfl, by rw [← q4]; rfl, e, rfl, h2⟩
  · simp only [List.getElem_cons_succ, List.getElem_cons_zero, Nat.one_mul, Nat.zero_add, hc]
    exact ⟨h3', by rw [← p0]; rfl, by rw [← p1]; rfl, by rw [← p2]; rfl, by rw [← p3]; rfl, by rw [← p4]; rfl, e1, rfl, h2'⟩
/-- a variable that holds an expression -/
def RX (w : World) (base gb : Nat) (k : Int) (s : Se) (e : Value) : Prop := w.ownsRow base 27 6 (.slice (some ⟨gb, 0, none⟩) 1 1) 1 (cellsX k s e)
section
variable {w w' : World} {base gb : Nat} {k : Int} {s : Se} {e : Value}
theorem RX.cells (h : RX w base gb k s e) : w.cell? ⟨gb, 0, none⟩ = some (.int .i64 k) ∧ w.cell? ⟨gb, 1, none⟩ = some (.int .u64 s.a) ∧ w.cell? ⟨gb, 2, none⟩ = some (.int .u64 s.b) ∧ w.cell? ⟨gb, 3, none⟩ = some (.int .u64 s.c) ∧ w.cell? ⟨gb, 4, none⟩ = some (.int .u64 s.d) ∧ w.cell? ⟨gb, 5, none⟩ = some e :=
  ⟨World.ownsRow.cellAt h 0 (by omega), World.ownsRow.cellAt h 1 (by omega), World.ownsRow.cellAt h 2 (by omega), World.ownsRow.cellAt h 3 (by omega), World.ownsRow.cellAt h 4 (by omega), World.ownsRow.cellAt h 5 (by omega)⟩
theorem RX.frozen (h : RX w base gb k s e) : w.frozen? ⟨gb, 0, none⟩ = false ∧ w.frozen? ⟨gb, 1, none⟩ = false ∧ w.frozen? ⟨gb, 2, none⟩ = false ∧ w.frozen? ⟨gb, 3, none⟩ = false ∧ w.frozen? ⟨gb, 4, none⟩ = false ∧ w.frozen? ⟨gb, 5, none⟩ = false :=
  ⟨World.ownsRow.frozenAt h 0, World.ownsRow.frozenAt h 1, World.ownsRow.frozenAt h 2, World.ownsRow.frozenAt h 3, World.ownsRow.frozenAt h 4, World.ownsRow.frozenAt h 5⟩
theorem RX.lt (h : RX w base gb k s e) : base ≤ gb ∧ gb < w.heap.size := World.ownsRow.lt h gb rfl
theorem RX.below (h : RX w base gb k s e) (b : Below w.heap.size w w') : RX w' base gb k s e := own_below h b
theorem RX.kept (h : RX w base gb k s e) {row : Option Nat} (g : w.grownBy w' row) (hne : row ≠ some gb) : RX w' base gb k s e := World.ownsRow.kept h g (.inr (fun e => hne (by rw [← e]; rfl)))
theorem RX.new (W : World) (hB : base ≤ W.heap.size) (k : Int) (s : Se) (e : Value) : RX (W.alloc (.cells #[.int .i64 k, .int .u64 s.a, .int .u64 s.b, .int .u64 s.c, .int .u64 s.d, e] 27)) base W.heap.size k s e :=
  World.ownsRow_lit (e := 27) (size := 6) (base := base) W #[.int .i64 k, .int .u64 s.a, .int .u64 s.b, .int .u64 s.c, .int .u64 s.d, e] 1 hB (by unfold maxLen; omega) rfl
end
/-- the world behind a store -/
def put6 (w : World) (gb : Nat) (k s1 s2 s3 s4 : Int) (e : Value) : World := (((((w.setCell ⟨gb, 0, none⟩ (.int .i64 k)).setCell ⟨gb, 1, none⟩ (.int .u64 s1)).setCell ⟨gb, 2, none⟩ (.int .u64 s2)).setCell ⟨gb, 3, none⟩ (.int .u64 s3)).setCell ⟨gb, 4, none⟩ (.int .u64 s4)).setCell ⟨gb, 5, none⟩ e
theorem RX.put {w : World} {base gb : Nat} {k : Int} {s : Se} {e : Value} (h : RX w base gb k s e) (k' s1 s2 s3 s4 : Int) (e' : Value) : RX (put6 w gb k' s1 s2 s3 s4 e') base gb k' ⟨s1, s2, s3, s4⟩ e' ∧ w.grownBy (put6 w gb k' s1 s2 s3 s4 e') (some gb) := by
  obtain ⟨v0, m0⟩ := World.ownsRow.stored h 0 (.int .i64 k')
  obtain ⟨v1, m1⟩ := v0.stored 1 (.int .u64 s1)
  obtain ⟨v2, m2⟩ := v1.stored 2 (.int .u64 s2)
  obtain ⟨v3, m3⟩ := v2.stored 3 (.int .u64 s3)
  obtain ⟨v4, m4⟩ := v3.stored 4 (.int .u64 s4)
  obtain ⟨v5, m5⟩ := v4.stored 5 e'
  exact ⟨v5, ((((m0.trans m1).trans m2).trans m3).trans m4).trans m5⟩
def Rs.at_ : Rs → Nat
  | .ok _ a => a
  | .err _ a => a
/-- what came of reading -/
def RsP (N : Nat → Prop) (w : World) (r : Rs) (rv : Value) (z : Int) : Prop :=
  match r with
  | .ok x _ => z = 0 ∧ RexN N w rv x.rx
  | .err e _ => z = e ∧ e ≠ 0 ∧ FormV rv
theorem RsP.form {N : Nat → Prop} {w : World} {r : Rs} {rv : Value} {z : Int} (h : RsP N w r rv z) : FormV rv := by
  cases r with
  | ok x a => exact h.2.formV
  | err e a => exact h.2.2
theorem RsP.move {N N' : Nat → Prop} {w w' : World} {r : Rs} {rv : Value} {z : Int} (h : RsP N w r rv z) (hs : w.heap.size ≤ w'.heap.size) (hh : ∀ k, N k → k < w.heap.size → w'.heap[k]? = w.heap[k]? ∧ N' k) : RsP N' w' r rv z := by
  cases r with
  | ok x a => exact ⟨h.1, h.2.move hs hh⟩
  | err e a => exact h
theorem RsP.grown {N N' : Nat → Prop} {w w' : World} {row : Option Nat} {r : Rs} {rv : Value} {z : Int} (h : RsP N w r rv z) (g : w.grownBy w' row) (hh : ∀ k, N k → k < w.heap.size → some k ≠ row ∧ N' k) : RsP N' w' r rv z := h.move g.size fun k hk hl => ⟨g.block k hl (hh k hk hl).1, (hh k hk hl).2⟩
/-- the end of a function that answers an expression and a number: what is stored in the variable of its result -/
theorem fin_rex {w w9 : World} {B g : Nat} {s : ByteArray} {b op : Nat} {r : Rs} {k0 : Int} {sx : Se} {e0 : Value} {k s1 s2 s3 s4 : Int} {o : Option Addr} {n c : Nat} {z : Int}
    (RB : RX w9 w.heap.size w.heap.size k0 sx e0) (G : w.grownBy w9 (some g)) (R : Rd w9 B g s b op) (hg : g < w.heap.size) (V : RsP (fun q => w.heap.size < q) w9 r (.agg #[.int .i64 k, .int .u64 s1, .int .u64 s2, .int .u64 s3, .int .u64 s4, .slice o n c]) z) :
    (loadVar 27 ⟨w.heap.size, 0, none⟩).run Try.prog (put6 w9 w.heap.size k s1 s2 s3 s4 (.slice o n c)) = .ok (.agg #[.int .i64 k, .int .u64 s1, .int .u64 s2, .int .u64 s3, .int .u64 s4, .slice o n c]) (put6 w9 w.heap.size k s1 s2 s3 s4 (.slice o n c)) ∧
    w.grownBy (put6 w9 w.heap.size k s1 s2 s3 s4 (.slice o n c)) (some g) ∧ Rd (put6 w9 w.heap.size k s1 s2 s3 s4 (.slice o n c)) B g s b op ∧ RsP (fun q => w.heap.size ≤ q) (put6 w9 w.heap.size k s1 s2 s3 s4 (.slice o n c)) r (.agg #[.int .i64 k, .int .u64 s1, .int .u64 s2, .int .u64 s3, .int .u64 s4, .slice o n c]) z := by
  obtain ⟨p1, p2⟩ := RB.put k s1 s2 s3 s4 (.slice o n c)
  obtain ⟨fr, hh⟩ := own_one p1
  refine ⟨load_rex rfl hh, World.grownBy.andThen G p2 (fun j hj => by cases hj; exact .inl (Nat.le_refl _)), World.ownsRow.kept R p2 (.inr (by simp [Value.ownBlock]; omega)), V.grown p2 fun q hq _ => ⟨fun e => ?_, Nat.le_of_lt hq⟩⟩
  cases e
  exact absurd hq (Nat.lt_irrefl _)
end Go.Proofs.Ytjecopdbcaojcaa
