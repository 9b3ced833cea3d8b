/- Expressions made by the laws' own hands: a letter, two, a star. -/
import Derived.Test.YtmgealcolofomaaDoorJe
import Derived.Test.YtmgealcolofomaaDoorHk
import Derived.Test.YtmgealcolofomaaDoorJa
import Derived.WalkKit
import Derived.ProofKit
import Derived.Laws.Rows
import Derived.Laws.ResultCell
namespace Go.Proofs.YtmgealcolofomaaDoor
open Go.RowKit Kb Pop
set_option linter.unusedVariables false
set_option maxRecDepth 20000

/-- a slice of expressions, all of whose blocks are in N -/
def KdN (N : Nat → Prop) (w : World) (l : List Rx) (v : Value) : Prop :=
  (∃ o c, v = .slice o l.length c ∧ l.length ≤ c) ∧ l.length ≤ 140737488355328 ∧
  (l ≠ [] → ∃ g off c, v = .slice (some ⟨g, off, none⟩) l.length c ∧ g < w.heap.size ∧ N g ∧ ∀ (i : Nat) (h : i < l.length), Fit l[i] ∧
    w.cell? ⟨g, off + i * 6, none⟩ = some (.int .i64 l[i].k) ∧ w.cell? ⟨g, off + i * 6 + 1, none⟩ = some (.int .u64 l[i].s.a) ∧ w.cell? ⟨g, off + i * 6 + 2, none⟩ = some (.int .u64 l[i].s.b) ∧
    w.cell? ⟨g, off + i * 6 + 3, none⟩ = some (.int .u64 l[i].s.c) ∧ w.cell? ⟨g, off + i * 6 + 4, none⟩ = some (.int .u64 l[i].s.d) ∧ ∃ e, w.cell? ⟨g, off + i * 6 + 5, none⟩ = some e ∧ KdN N w l[i].ks e)
termination_by SizeOf.sizeOf l
decreasing_by exact Rx.ks_lt h
theorem KdN.form {N : Nat → Prop} {w : World} {l : List Rx} {v : Value} (h : KdN N w l v) : ∃ o c, v = .slice o l.length c ∧ l.length ≤ c := by rw [KdN] at h; exact h.1
theorem KdN.nil (N : Nat → Prop) (w : World) : KdN N w [] (.slice none 0 0) := by
  rw [KdN]; exact ⟨⟨none, 0, rfl, Nat.le_refl _⟩, by show 0 ≤ _; omega, fun h => absurd rfl h⟩
theorem KdN.kd {N : Nat → Prop} {w : World} : ∀ (n : Nat) (l : List Rx) (v : Value), SizeOf.sizeOf l ≤ n → KdN N w l v → Kd w l v := by
  intro n
  induction n with
  | zero => intro l v hn h; cases l <;> simp at hn
  | succ n ih =>
    intro l v hn h
    rw [KdN] at h
    rw [Kd]
    refine ⟨h.1, h.2.1, fun hne => ?_⟩
    obtain ⟨g, off, c, h1, h2, _, h3⟩ := h.2.2 hne
    refine ⟨g, off, c, h1, h2, fun i hi => ?_⟩
    obtain ⟨h4, k0, k1, k2, k3, k4, e, k5, h5⟩ := h3 i hi
    have := Rx.ks_lt hi
    exact ⟨h4, k0, k1, k2, k3, k4, e, k5, ih _ _ (by omega) h5⟩
theorem cell_same {w w' : World} {g j : Nat} {v : Value} (h : w.cell? ⟨g, j, none⟩ = some v) (hh : w'.heap[g]? = w.heap[g]?) : w'.cell? ⟨g, j, none⟩ = some v := by
  unfold World.cell? at h ⊢
  rw [hh]; exact h
theorem KdN.move {N N' : Nat → Prop} {w w' : World} (hs : w.heap.size ≤ w'.heap.size) (hh : ∀ k, N k → k < w.heap.size → w'.heap[k]? = w.heap[k]? ∧ N' k) : ∀ (n : Nat) (l : List Rx) (v : Value), SizeOf.sizeOf l ≤ n → KdN N w l v → KdN N' w' l v := by
  intro n
  induction n with
  | zero => intro l v hn h; cases l <;> simp at hn
  | succ n ih =>
    intro l v hn h
    rw [KdN] at h ⊢
    refine ⟨h.1, h.2.1, fun hne => ?_⟩
    obtain ⟨g, off, c, h1, h2, hN, h3⟩ := h.2.2 hne
    obtain ⟨hb, hn'⟩ := hh g hN h2
    refine ⟨g, off, c, h1, Nat.lt_of_lt_of_le h2 hs, hn', fun i hi => ?_⟩
    obtain ⟨h4, k0, k1, k2, k3, k4, e, k5, h5⟩ := h3 i hi
    have := Rx.ks_lt hi
    exact ⟨h4, cell_same k0 hb, cell_same k1 hb, cell_same k2 hb, cell_same k3 hb, cell_same k4 hb, e, cell_same k5 hb, ih _ _ (by omega) h5⟩
/-- an expression as a value, its blocks in N -/
def RexN (N : Nat → Prop) (w : World) (v : Value) (r : Rx) : Prop := (∃ e, v = rexV r e ∧ KdN N w r.ks e) ∧ Fit r
theorem RexN.rexV {N : Nat → Prop} {w : World} {v : Value} {r : Rx} (h : RexN N w v r) : RexV w v r := by
  obtain ⟨⟨e, h1, h2⟩, h3⟩ := h
  exact ⟨⟨e, h1, KdN.kd _ _ _ (Nat.le_refl _) h2⟩, h3⟩
theorem RexN.move {N N' : Nat → Prop} {w w' : World} {v : Value} {r : Rx} (h : RexN N w v r) (hs : w.heap.size ≤ w'.heap.size) (hh : ∀ k, N k → k < w.heap.size → w'.heap[k]? = w.heap[k]? ∧ N' k) : RexN N' w' v r := by
  obtain ⟨⟨e, h1, h2⟩, h3⟩ := h
  exact ⟨⟨e, h1, KdN.move hs hh _ _ _ (Nat.le_refl _) h2⟩, h3⟩
theorem RexN.grown {N N' : Nat → Prop} {w w' : World} {row : Option Nat} {v : Value} {r : Rx} (h : RexN N w v r) (g : w.grownBy w' row) (hh : ∀ k, N k → k < w.heap.size → some k ≠ row ∧ N' k) : RexN N' w' v r := h.move g.size fun k hk hl => ⟨g.block k hl (hh k hk hl).1, (hh k hk hl).2⟩
theorem RexN.mono {N N' : Nat → Prop} {w : World} {v : Value} {r : Rx} (h : RexN N w v r) (hh : ∀ k, N k → N' k) : RexN N' w v r := h.move (Nat.le_refl _) fun k hk _ => ⟨rfl, hh k hk⟩
/-- the form of an expression as a value -/
def FormV (v : Value) : Prop := ∃ (k : Int) (s : Se) (o : Option Addr) (n c : Nat), v = .agg #[.int .i64 k, .int .u64 s.a, .int .u64 s.b, .int .u64 s.c, .int .u64 s.d, .slice o n c]
theorem RexN.formV {N : Nat → Prop} {w : World} {v : Value} {r : Rx} (h : RexN N w v r) : FormV v := by
  obtain ⟨⟨e, h1, h2⟩, h3⟩ := h
  obtain ⟨o, c, rfl, _⟩ := h2.form
  exact ⟨r.k, r.s, o, _, c, h1⟩
/-- a node without kids -/
theorem rexN_leaf (N : Nat → Prop) (w : World) (k : Int) (s : Se) (hk : 1 ≤ k ∧ k ≤ 8) (hs : FitS s) : RexN N w (.agg #[.int .i64 k, .int .u64 s.a, .int .u64 s.b, .int .u64 s.c, .int .u64 s.d, .slice none 0 0]) (.mk k s []) :=
  ⟨⟨.slice none 0 0, rfl, KdN.nil N w⟩, ⟨⟨by show _ ≤ k; omega, by show k ≤ _; omega⟩, hs⟩⟩
def cellsX (k : Int) (s : Se) (v : Value) : List Value := [.int .i64 k, .int .u64 s.a, .int .u64 s.b, .int .u64 s.c, .int .u64 s.d, v]
/-- a node with one kid -/
theorem rexN_one {N : Nat → Prop} {w : World} {g : Nat} {fr : Nat × Nat} {t : TypeId} {x : Rx} {k k0 : Int} {s : Se} {e : Value} (hx : RexN N w (.agg #[.int .i64 k0, .int .u64 s.a, .int .u64 s.b, .int .u64 s.c, .int .u64 s.d, e]) x) (hN : N g) (hh : w.heap[g]? = some (.cells (cellsX k0 s e).toArray t fr)) (hk : 1 ≤ k ∧ k ≤ 8) :
    RexN N w (.agg #[.int .i64 k, .int .u64 0, .int .u64 0, .int .u64 0, .int .u64 0, .slice (some ⟨g, 0, none⟩) 1 1]) (.mk k noSet [x]) := by
  obtain ⟨⟨e', h1, h2⟩, h3⟩ := hx
  unfold Go.Proofs.YtmgealcolofomaaDoor.rexV at h1
  simp only [Value.agg.injEq, Array.mk.injEq, List.cons.injEq, Value.int.injEq, and_true, true_and] at h1
  obtain ⟨q0, q1, q2, q3, q4, q5⟩ := h1
  subst q5
  refine ⟨⟨.slice (some ⟨g, 0, none⟩) 1 1, rfl, ?_⟩, ⟨⟨by show _ ≤ k; omega, by show k ≤ _; omega⟩, by simp [noSet, Rx.s]⟩⟩
  have hl := (Array.getElem?_eq_some_iff.1 hh).1
  have hc : ∀ j, w.cell? ⟨g, j, none⟩ = (cellsX k0 s e).toArray[j]? := fun j => Go.Lib.cell_of_heap hh j
  show KdN N w [x] _
  rw [KdN]
  refine ⟨⟨_, 1, rfl, Nat.le_refl _⟩, by simp, fun _ => ⟨g, 0, 1, rfl, hl, hN, fun i hi => ?_⟩⟩
  obtain rfl : i = 0 := by simp at hi; omega
  simp only [List.getElem_cons_zero, Nat.zero_mul, Nat.add_zero, Nat.zero_add, hc]
  exact ⟨h3, by rw [← q0]; rfl, by rw [← q1]; rfl, by rw [← q2]; rfl, by rw [← q3]; rfl, by rw [← q4]; rfl, e, rfl, h2⟩
/-- a node with two kids -/
theorem rexN_two {N : Nat → Prop} {w : World} {g : Nat} {fr : Nat × Nat} {t : TypeId} {x y : Rx} {k k0 k1 : Int} {s s' : Se} {e e1 : Value} (hx : RexN N w (.agg #[.int .i64 k0, .int .u64 s.a, .int .u64 s.b, .int .u64 s.c, .int .u64 s.d, e]) x) (hy : RexN N w (.agg #[.int .i64 k1, .int .u64 s'.a, .int .u64 s'.b, .int .u64 s'.c, .int .u64 s'.d, e1]) y) (hN : N g) (hh : w.heap[g]? = some (.cells (cellsX k0 s e ++ cellsX k1 s' e1).toArray t fr)) (hk : 1 ≤ k ∧ k ≤ 8) :
    RexN N w (.agg #[.int .i64 k, .int .u64 0, .int .u64 0, .int .u64 0, .int .u64 0, .slice (some ⟨g, 0, none⟩) 2 2]) (.mk k noSet [x, y]) := by
  obtain ⟨⟨e', h1, h2⟩, h3⟩ := hx
  obtain ⟨⟨e1', h1', h2'⟩, h3'⟩ := hy
  unfold Go.Proofs.YtmgealcolofomaaDoor.rexV at h1 h1'
  simp only [Value.agg.injEq, Array.mk.injEq, List.cons.injEq, Value.int.injEq, and_true, true_and] at h1 h1'
  obtain ⟨q0, q1, q2, q3, q4, q5⟩ := h1
  obtain ⟨p0, p1, p2, p3, p4, p5⟩ := h1'
  subst q5 p5
  refine ⟨⟨.slice (some ⟨g, 0, none⟩) 2 2, rfl, ?_⟩, ⟨⟨by show _ ≤ k; omega, by show k ≤ _; omega⟩, by simp [noSet, Rx.s]⟩⟩
  have hl := (Array.getElem?_eq_some_iff.1 hh).1
  have hc : ∀ j, w.cell? ⟨g, j, none⟩ = (cellsX k0 s e ++ cellsX k1 s' e1).toArray[j]? := fun j => Go.Lib.cell_of_heap hh j
  show KdN N w [x, y] _
  rw [KdN]
  refine ⟨⟨_, 2, rfl, Nat.le_refl _⟩, by simp, fun _ => ⟨g, 0, 2, rfl, hl, hN, fun i hi => ?_⟩⟩
  have : i = 0 ∨ i = 1 := by simp at hi; omega
  rcases this with rfl | rfl
  · simp only [List.getElem_cons_zero, Nat.zero_mul, Nat.add_zero, Nat.zero_add, hc]
    exact ⟨h3, by rw [← q0]; rfl, by rw [← q1]; rfl, by rw [← q2]; rfl, by rw [← q3]; rfl, by rw [← q4]; rfl, e, rfl, h2⟩
  · simp only [List.getElem_cons_succ, List.getElem_cons_zero, Nat.one_mul, Nat.zero_add, hc]
    exact ⟨h3', by rw [← p0]; rfl, by rw [← p1]; rfl, by rw [← p2]; rfl, by rw [← p3]; rfl, by rw [← p4]; rfl, e1, rfl, h2'⟩
/-- a variable that holds an expression -/
def RX (w : World) (base gb : Nat) (k : Int) (s : Se) (e : Value) : Prop := w.ownsRow base 38 6 (.slice (some ⟨gb, 0, none⟩) 1 1) 1 (cellsX k s e)
section
variable {w w' : World} {base gb : Nat} {k : Int} {s : Se} {e : Value}
theorem RX.cells (h : RX w base gb k s e) : w.cell? ⟨gb, 0, none⟩ = some (.int .i64 k) ∧ w.cell? ⟨gb, 1, none⟩ = some (.int .u64 s.a) ∧ w.cell? ⟨gb, 2, none⟩ = some (.int .u64 s.b) ∧ w.cell? ⟨gb, 3, none⟩ = some (.int .u64 s.c) ∧ w.cell? ⟨gb, 4, none⟩ = some (.int .u64 s.d) ∧ w.cell? ⟨gb, 5, none⟩ = some e :=
  ⟨World.ownsRow.cellAt h 0 (by omega), World.ownsRow.cellAt h 1 (by omega), World.ownsRow.cellAt h 2 (by omega), World.ownsRow.cellAt h 3 (by omega), World.ownsRow.cellAt h 4 (by omega), World.ownsRow.cellAt h 5 (by omega)⟩
theorem RX.frozen (h : RX w base gb k s e) : w.frozen? ⟨gb, 0, none⟩ = false ∧ w.frozen? ⟨gb, 1, none⟩ = false ∧ w.frozen? ⟨gb, 2, none⟩ = false ∧ w.frozen? ⟨gb, 3, none⟩ = false ∧ w.frozen? ⟨gb, 4, none⟩ = false ∧ w.frozen? ⟨gb, 5, none⟩ = false :=
  ⟨World.ownsRow.frozenAt h 0, World.ownsRow.frozenAt h 1, World.ownsRow.frozenAt h 2, World.ownsRow.frozenAt h 3, World.ownsRow.frozenAt h 4, World.ownsRow.frozenAt h 5⟩
theorem RX.lt (h : RX w base gb k s e) : base ≤ gb ∧ gb < w.heap.size := World.ownsRow.lt h gb rfl
theorem RX.below (h : RX w base gb k s e) (b : Below w.heap.size w w') : RX w' base gb k s e := own_below h b
theorem RX.kept (h : RX w base gb k s e) {row : Option Nat} (g : w.grownBy w' row) (hne : row ≠ some gb) : RX w' base gb k s e := World.ownsRow.kept h g (.inr (fun e => hne (by rw [← e]; rfl)))
theorem RX.new (W : World) (hB : base ≤ W.heap.size) (k : Int) (s : Se) (e : Value) : RX (W.alloc (.cells #[.int .i64 k, .int .u64 s.a, .int .u64 s.b, .int .u64 s.c, .int .u64 s.d, e] 38)) base W.heap.size k s e :=
  World.ownsRow_lit (e := 38) (size := 6) (base := base) W #[.int .i64 k, .int .u64 s.a, .int .u64 s.b, .int .u64 s.c, .int .u64 s.d, e] 1 hB (by unfold maxLen; omega) rfl
end
/-- the world behind a store -/
def put6 (w : World) (gb : Nat) (k s1 s2 s3 s4 : Int) (e : Value) : World := (((((w.setCell ⟨gb, 0, none⟩ (.int .i64 k)).setCell ⟨gb, 1, none⟩ (.int .u64 s1)).setCell ⟨gb, 2, none⟩ (.int .u64 s2)).setCell ⟨gb, 3, none⟩ (.int .u64 s3)).setCell ⟨gb, 4, none⟩ (.int .u64 s4)).setCell ⟨gb, 5, none⟩ e
theorem RX.put {w : World} {base gb : Nat} {k : Int} {s : Se} {e : Value} (h : RX w base gb k s e) (k' s1 s2 s3 s4 : Int) (e' : Value) : RX (put6 w gb k' s1 s2 s3 s4 e') base gb k' ⟨s1, s2, s3, s4⟩ e' ∧ w.grownBy (put6 w gb k' s1 s2 s3 s4 e') (some gb) := by
  obtain ⟨v0, m0⟩ := World.ownsRow.stored h 0 (.int .i64 k')
  obtain ⟨v1, m1⟩ := v0.stored 1 (.int .u64 s1)
  obtain ⟨v2, m2⟩ := v1.stored 2 (.int .u64 s2)
  obtain ⟨v3, m3⟩ := v2.stored 3 (.int .u64 s3)
  obtain ⟨v4, m4⟩ := v3.stored 4 (.int .u64 s4)
  obtain ⟨v5, m5⟩ := v4.stored 5 e'
  exact ⟨v5, ((((m0.trans m1).trans m2).trans m3).trans m4).trans m5⟩
set_option maxHeartbeats 400000 in
theorem where_l (caps : Array Value) (p : Nat → Bool) (w : World) (hC : ∀ (b : Nat) (W : World), b < 256 → Below w.heap.size w W → Calls Tryd.prog 39 (#[.int .i64 b] ++ caps) W fun e W' => e = .returned (.bool (p b)) ∧ Below W.heap.size W W') :
    Calls Tryd.prog 38 #[.func (.func 39) #[] caps] w fun e w' => ∃ s, e = .returned (setV s) ∧ FitS s ∧ (∀ b, b < 256 → bit s b = p b) ∧ Below w.heap.size w w' := by
  have HC := hide hC
  clear hC
  go_enter Tryd.func38, Tryd.ntmps38
  go_wp2_with fail
  go_loopw [4] (fun x wr => ∃ (b : Nat) (s : Se), x = .int .i64 b ∧ b ≤ 256 ∧ Below w.heap.size w wr ∧ wr.ownsRow w.heap.size 35 4 (.slice (some ⟨w.heap.size + 1, 0, none⟩) 1 1) 1 (cellsW s) ∧ wr.ownsRow w.heap.size 35 4 (.slice (some ⟨w.heap.size, 0, none⟩) 1 1) 1 (cellsW ⟨0, 0, 0, 0⟩) ∧ FitS s ∧ ∀ j, j < 256 → bit s j = (decide (j < b) && p j)) (fun x _ => 256 - (intOf x).toNat)
  case atStart =>
    refine ⟨0, ⟨0, 0, 0, 0⟩, rfl, Nat.zero_le _, ((Below.refl _ _).alloc (Nat.le_refl _) _).alloc (by simp) _, set_new w, set_box w, by unfold FitS; decide, ?_⟩
    intro j hj
    have : wordS ⟨0, 0, 0, 0⟩ (j / 64) = 0 := by
      have h4 : j / 64 < 4 := by omega
      match j / 64, h4 with
      | 0, _ => rfl
      | 1, _ => rfl
      | 2, _ => rfl
      | 3, _ => rfl
    unfold bit
    rw [this]; simp
  case round =>
    obtain ⟨b, s, rfl, hb, hbel, hrow, hbox, hfit, hall⟩ := hrel
    have BOX := hide hbox
    have B := hide hbel
    have ROW := hide hrow
    have FIT := hide hfit
    have ALL := hide hall
    clear hbel hrow hfit hall hbox
    by_cases hlt : b < 256
    · have h4 : b / 64 < 4 := by omega
      have hC := (unhide HC) b wr hlt (unhide B)
      have HB := hide hC
      clear hC
      go_wp2_with fail
      refine (unhide HB).mono ?_
      rintro e w3 ⟨rfl, b3⟩
      have B3 := hide (bel_trans (unhide B) b3)
      have ROW3 := hide (own_below (unhide ROW) b3)
      have BOX3 := hide (own_below (unhide BOX) b3)
      clear b3 HB ROW BOX
      cases hp : p b
      · have HP := hide hp
        clear hp
        go_wp2_with fail
        refine ⟨⟨b + 1, s, by go_num, by omega, unhide B3, unhide ROW3, unhide BOX3, unhide FIT, ?_⟩, by simp [intOf]; omega⟩
        intro j hj
        rw [(unhide ALL) j hj]
        by_cases hjb : j = b
        · subst hjb; rw [unhide HP]; simp
        · congr 1; rw [decide_eq_decide]; omega
      · have HP := hide hp
        clear hp
        have hcell := (unhide ROW3).cellAt (b / 64) (by omega)
        rw [cellsW_at s _ h4] at hcell
        have hfz := (unhide ROW3).frozenAt (b / 64)
        have hfw := wordS_fit (unhide FIT) (b / 64) h4
        obtain ⟨x, hx⟩ : ∃ x, wordS s (b / 64) = x := ⟨_, rfl⟩
        rw [hx] at hcell hfw
        have HX := hide hx
        clear hx
        have hq4 : 0 ≤ (b : Int) / 64 ∧ (b : Int) / 64 < 4 := by omega
        go_wp2_with fail
        go_region
        rw [or_pow hfw (show b % 64 < 64 by omega)]
        have HF2 := hide (or_fit hfw (show b % 64 < 64 by omega))
        obtain ⟨y, hy⟩ : ∃ y : Nat, (x.toNat ||| 2 ^ (b % 64)) = y := ⟨_, rfl⟩
        rw [hy] at HF2 ⊢
        have HY := hide hy
        clear hy hcell hfz
        go_wp2_with fail
        obtain ⟨sR, gR⟩ := (unhide ROW3).stored (b / 64) (.int .u64 (y : Int))
        rw [cellsW_set s _ h4] at sR
        refine ⟨⟨b + 1, setW s (b / 64) (y : Int), by go_num, by omega, ((unhide B3).grown gR (unhide B3).size (fun q hq => by cases hq; omega)).drew, sR.drew, ((unhide BOX3).kept gR (.inr (by simp [Value.ownBlock]))).drew, fitS_set (unhide FIT) _ h4 (unhide HF2), ?_⟩, by simp [intOf]; omega⟩
        intro j hj
        have := bit_or (s := s) hlt hj
        rw [unhide HX, unhide HY] at this
        rw [this, (unhide ALL) j hj]
        by_cases hjb : j = b
        · subst hjb; rw [unhide HP]; simp
        · rw [decide_eq_false hjb, Bool.or_false]; congr 1; rw [decide_eq_decide]; omega
    · obtain rfl : b = 256 := by omega
      have c0 := (unhide ROW).cellAt 0 (by omega)
      have c1 := (unhide ROW).cellAt 1 (by omega)
      have c2 := (unhide ROW).cellAt 2 (by omega)
      have c3 := (unhide ROW).cellAt 3 (by omega)
      have HA : Hid (∀ j, j < 256 → bit s j = p j) := hide (fun j hj => by rw [(unhide ALL) j hj, decide_eq_true hj, Bool.true_and])
      clear ALL HC
      obtain ⟨s1, s2, s3, s4⟩ := s
      have r0 := (unhide BOX).cellAt 0 (by omega)
      have r1 := (unhide BOX).cellAt 1 (by omega)
      have r2 := (unhide BOX).cellAt 2 (by omega)
      have r3 := (unhide BOX).cellAt 3 (by omega)
      have f0 := (unhide BOX).frozenAt 0
      have f1 := (unhide BOX).frozenAt 1
      have f2 := (unhide BOX).frozenAt 2
      have f3 := (unhide BOX).frozenAt 3
      simp only [cellsW] at c0 c1 c2 c3 r0 r1 r2 r3
      go_wp2_with fail
      obtain ⟨q1, g1⟩ := (unhide BOX).stored 0 (.int .u64 s1)
      obtain ⟨q2, g2⟩ := q1.stored 1 (.int .u64 s2)
      obtain ⟨q3, g3⟩ := q2.stored 2 (.int .u64 s3)
      obtain ⟨q4, g4⟩ := q3.stored 3 (.int .u64 s4)
      have B9 := hide ((((unhide B).grown g1 (unhide B).size (fun q hq => by cases hq; exact Nat.le_refl _)).grown g2 (by simp; exact (unhide B).size) (fun q hq => by cases hq; exact Nat.le_refl _)).grown g3 (by simp; exact (unhide B).size) (fun q hq => by cases hq; exact Nat.le_refl _)).grown g4 (by simp; exact (unhide B).size) (fun q hq => by cases hq; exact Nat.le_refl _)
      clear g1 g2 g3 g4 q1 q2 q3
      obtain ⟨fr, hh⟩ := own_one q4
      refine bodyPost_ret_by (v := setV ⟨s1, s2, s3, s4⟩) ?_ rfl ⟨_, rfl, unhide FIT, unhide HA, unhide B9⟩
      exact results_cell_row (ty := 35) rfl _ _ w.heap.size _ #[.int .u64 s1, .int .u64 s2, .int .u64 s3, .int .u64 s4] fr _ rfl hh Tryd.underlying35 rfl (by kernel_rfl)

theorem letter1_any (c b : Nat) (g : Nat) (W : World) (hc : W.cell? ⟨g, 0, none⟩ = some (.int .i64 b)) :
    Calls Tryd.prog 39 (#[.int .i64 c] ++ #[.pointer (some ⟨g, 0, none⟩)]) W fun e W' => e = .returned (.bool (decide (c = b))) ∧ Below W.heap.size W W' := by
  have hd : decide (c = b) = ((c : Int) == (b : Int)) := by
    by_cases h : c = b
    · rw [decide_eq_true h, h]; simp
    · rw [decide_eq_false h]; exact (beq_eq_false_iff_ne.2 (by omega)).symm
  have HD := hide hd
  clear hd
  go_enter Tryd.func39, Tryd.ntmps39
  go_wp2_with fail
  go_ret
  exact ⟨ret_bool (unhide HD).symm, Below.refl _ _⟩
set_option maxHeartbeats 1000000 in
theorem letter_any (b : Nat) (hb : b < 256) (w : World) :
    Calls Tryd.prog 13 #[.int .i64 b] w fun e w' => ∃ s, e = .returned (.agg #[.int .i64 3, .int .u64 s.a, .int .u64 s.b, .int .u64 s.c, .int .u64 s.d, .slice none 0 0]) ∧ FitS s ∧ (∀ j, j < 256 → bit s j = decide (j = b)) ∧ Below w.heap.size w w' := by
  have b0 := (Below.refl w.heap.size w).alloc (Nat.le_refl _) (.cells #[.int .i64 b] 3)
  have hz0 : (w.alloc (.cells #[.int .i64 b] 3)).heap.size = w.heap.size + 1 := by simp
  have c0 : (w.alloc (.cells #[.int .i64 b] 3)).cell? ⟨w.heap.size, 0, none⟩ = some (.int .i64 b) := by rw [World.cell?_alloc_new]; rfl
  obtain ⟨W0, hW0⟩ : ∃ W0, w.alloc (.cells #[.int .i64 b] 3) = W0 := ⟨_, rfl⟩
  rw [hW0] at b0 hz0 c0
  have b1 := (Below.refl W0.heap.size W0).alloc (Nat.le_refl _) (.cells #[.int .i64 0, .int .u64 0, .int .u64 0, .int .u64 0, .int .u64 0, .slice none 0 0] 38)
  have X1 := hide (RX.new (base := w.heap.size) W0 b0.size 0 ⟨0, 0, 0, 0⟩ (.slice none 0 0))
  dsimp only at X1
  have B1 := hide (bel_trans b0 b1)
  have c1 := cell_below c0 (by omega) b1
  obtain ⟨W1, hW1⟩ : ∃ W1, W0.alloc (.cells #[.int .i64 0, .int .u64 0, .int .u64 0, .int .u64 0, .int .u64 0, .slice none 0 0] 38) = W1 := ⟨_, rfl⟩
  rw [hW1] at X1 B1 c1
  rw [hz0] at X1
  have hl1 := (unhide X1).lt
  have HWH := hide (where_l #[.pointer (some ⟨w.heap.size, 0, none⟩)] (fun j => decide (j = b)) W1 (fun c W hc hB => letter1_any c b w.heap.size W (cell_below c1 (by omega) hB)))
  clear b0 b1 c0 c1
  go_enter Tryd.func13, Tryd.ntmps13
  go_wp2_with fail
  clear hW0 hW1
  refine (unhide HWH).mono ?_
  rintro e w2 ⟨⟨s1, s2, s3, s4⟩, rfl, hfit, hbits, b2⟩
  have B2 := hide (bel_trans (unhide B1) b2)
  have X2 := hide ((unhide X1).below b2)
  have HF := hide hfit
  have HBT := hide hbits
  clear b2 hfit hbits B1 X1 hl1 HWH
  obtain ⟨y0, y1, y2, y3, y4, y5⟩ := (unhide X2).cells
  obtain ⟨h0, h1, h2, h3, h4, h5⟩ := (unhide X2).frozen
  dsimp only at y1 y2 y3 y4
  have hl2 := (unhide X2).lt
  obtain ⟨fr, hh⟩ := own_one ((unhide X2).put 3 s1 s2 s3 s4 (.slice none 0 0)).1
  have p2 := (unhide B2).grown ((unhide X2).put 3 s1 s2 s3 s4 (.slice none 0 0)).2 (unhide B2).size (fun q hq => by have := Option.some.inj hq; omega)
  have P1 := hide hh
  have P2 := hide p2
  clear hh p2
  unfold setV
  dsimp only
  go_wp2_with fail
  refine bodyPost_ret_by (v := .agg #[.int .i64 3, .int .u64 s1, .int .u64 s2, .int .u64 s3, .int .u64 s4, .slice none 0 0]) ?_ rfl ⟨⟨s1, s2, s3, s4⟩, rfl, unhide HF, unhide HBT, unhide P2⟩
  exact results_cell_row (ty := 38) rfl _ _ (w.heap.size + 1) _ #[.int .i64 3, .int .u64 s1, .int .u64 s2, .int .u64 s3, .int .u64 s4, .slice none 0 0] fr _ rfl (unhide P1) Tryd.underlying38 rfl (by kernel_rfl)
abbrev TT : Nat → Prop := fun _ => True
theorem RexN.bel {w w' : World} {v : Value} {r : Rx} (h : RexN TT w v r) (b : Below w.heap.size w w') : RexN TT w' v r := h.move b.size fun j _ hl => ⟨b.block j hl, trivial⟩
set_option maxHeartbeats 1000000 in
theorem star_any (k s1 s2 s3 s4 : Int) (o : Option Addr) (n c : Nat) (x : Rx) (w : World) (hx : RexN TT w (.agg #[.int .i64 k, .int .u64 s1, .int .u64 s2, .int .u64 s3, .int .u64 s4, .slice o n c]) x) :
    Calls Tryd.prog 12 #[.agg #[.int .i64 k, .int .u64 s1, .int .u64 s2, .int .u64 s3, .int .u64 s4, .slice o n c]] w fun e w' => ∃ g, e = .returned (.agg #[.int .i64 6, .int .u64 0, .int .u64 0, .int .u64 0, .int .u64 0, .slice (some ⟨g, 0, none⟩) 1 1]) ∧ RexN TT w' (.agg #[.int .i64 6, .int .u64 0, .int .u64 0, .int .u64 0, .int .u64 0, .slice (some ⟨g, 0, none⟩) 1 1]) (.mk 6 noSet [x]) ∧ Below w.heap.size w w' := by
  have HX := hide hx
  clear hx
  have z1 : (w.alloc (.cells #[.int .i64 k, .int .u64 s1, .int .u64 s2, .int .u64 s3, .int .u64 s4, .slice o n c] 38)).heap.size = w.heap.size + 1 := by simp
  have z2 : ((w.alloc (.cells #[.int .i64 k, .int .u64 s1, .int .u64 s2, .int .u64 s3, .int .u64 s4, .slice o n c] 38)).alloc (.cells #[.int .i64 6, .int .u64 0, .int .u64 0, .int .u64 0, .int .u64 0, .slice (some ⟨w.heap.size + 1 + 1, 0, none⟩) 1 1] 38)).heap.size = w.heap.size + 1 + 1 := by simp
  have b3 : Below w.heap.size w (((w.alloc (.cells #[.int .i64 k, .int .u64 s1, .int .u64 s2, .int .u64 s3, .int .u64 s4, .slice o n c] 38)).alloc (.cells #[.int .i64 6, .int .u64 0, .int .u64 0, .int .u64 0, .int .u64 0, .slice (some ⟨w.heap.size + 1 + 1, 0, none⟩) 1 1] 38)).alloc (.cells #[.int .i64 k, .int .u64 s1, .int .u64 s2, .int .u64 s3, .int .u64 s4, .slice o n c] 38)) := (((Below.refl _ w).alloc (Nat.le_refl _) _).alloc (by simp) _).alloc (by simp; omega) _
  have hK := heap_alloc_new ((w.alloc (.cells #[.int .i64 k, .int .u64 s1, .int .u64 s2, .int .u64 s3, .int .u64 s4, .slice o n c] 38)).alloc (.cells #[.int .i64 6, .int .u64 0, .int .u64 0, .int .u64 0, .int .u64 0, .slice (some ⟨w.heap.size + 1 + 1, 0, none⟩) 1 1] 38)) (.cells #[.int .i64 k, .int .u64 s1, .int .u64 s2, .int .u64 s3, .int .u64 s4, .slice o n c] 38)
  rw [z2] at hK
  have hR : (((w.alloc (.cells #[.int .i64 k, .int .u64 s1, .int .u64 s2, .int .u64 s3, .int .u64 s4, .slice o n c] 38)).alloc (.cells #[.int .i64 6, .int .u64 0, .int .u64 0, .int .u64 0, .int .u64 0, .slice (some ⟨w.heap.size + 1 + 1, 0, none⟩) 1 1] 38)).alloc (.cells #[.int .i64 k, .int .u64 s1, .int .u64 s2, .int .u64 s3, .int .u64 s4, .slice o n c] 38)).heap[w.heap.size + 1]? = some (.cells #[.int .i64 6, .int .u64 0, .int .u64 0, .int .u64 0, .int .u64 0, .slice (some ⟨w.heap.size + 1 + 1, 0, none⟩) 1 1] 38) := by
    rw [((Below.refl ((w.alloc (.cells #[.int .i64 k, .int .u64 s1, .int .u64 s2, .int .u64 s3, .int .u64 s4, .slice o n c] 38)).alloc (.cells #[.int .i64 6, .int .u64 0, .int .u64 0, .int .u64 0, .int .u64 0, .slice (some ⟨w.heap.size + 1 + 1, 0, none⟩) 1 1] 38)).heap.size ((w.alloc (.cells #[.int .i64 k, .int .u64 s1, .int .u64 s2, .int .u64 s3, .int .u64 s4, .slice o n c] 38)).alloc (.cells #[.int .i64 6, .int .u64 0, .int .u64 0, .int .u64 0, .int .u64 0, .slice (some ⟨w.heap.size + 1 + 1, 0, none⟩) 1 1] 38))).alloc (Nat.le_refl _) (.cells #[.int .i64 k, .int .u64 s1, .int .u64 s2, .int .u64 s3, .int .u64 s4, .slice o n c] 38)).block (w.heap.size + 1) (by rw [z2]; omega)]
    have := heap_alloc_new (w.alloc (.cells #[.int .i64 k, .int .u64 s1, .int .u64 s2, .int .u64 s3, .int .u64 s4, .slice o n c] 38)) (.cells #[.int .i64 6, .int .u64 0, .int .u64 0, .int .u64 0, .int .u64 0, .slice (some ⟨w.heap.size + 1 + 1, 0, none⟩) 1 1] 38)
    rwa [z1] at this
  have HR := hide hR
  have HK := hide (rexN_one (s := ⟨s1, s2, s3, s4⟩) (k := 6) ((unhide HX).bel b3) trivial hK (by omega))
  have B3 := hide b3
  clear z1 z2 b3 hK hR
  go_enter Tryd.func12, Tryd.ntmps12
  go_wp2_with fail
  refine bodyPost_ret_by (v := .agg #[.int .i64 6, .int .u64 0, .int .u64 0, .int .u64 0, .int .u64 0, .slice (some ⟨w.heap.size + 1 + 1, 0, none⟩) 1 1]) ?_ rfl ⟨_, rfl, unhide HK, unhide B3⟩
  exact results_cell_row (ty := 38) rfl _ _ (w.heap.size + 1) _ #[.int .i64 6, .int .u64 0, .int .u64 0, .int .u64 0, .int .u64 0, .slice (some ⟨w.heap.size + 1 + 1, 0, none⟩) 1 1] _ _ rfl (unhide HR) Tryd.underlying38 rfl (by kernel_rfl)
end Go.Proofs.YtmgealcolofomaaDoor
