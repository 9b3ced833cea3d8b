/- Instructions: plainly, and rows of them in memory. -/
import Derived.Test.YtmgealcolofomaaDoorHk
import Derived.Maps.AppendAt
import Derived.Deep.RegionLaw
import Derived.Laws.AppendOwnNone
import Derived.BigQuiet
import Derived.Deep.QuietTactic
namespace Go.Proofs.YtmgealcolofomaaDoor
open Go.RowKit Kb
set_option linter.unusedVariables false
set_option maxRecDepth 20000

/-- an instruction -/
structure In where
  k : Int
  a : Int
  b : Int
  s : Se
deriving DecidableEq
def In.cells (x : In) : List Value := [.int .i64 x.k, .int .i64 x.a, .int .i64 x.b, .int .u64 x.s.a, .int .u64 x.s.b, .int .u64 x.s.c, .int .u64 x.s.d]
def cellsJ (M : List In) : List Value := M.flatMap In.cells
theorem cellsJ_append (a b : List In) : cellsJ (a ++ b) = cellsJ a ++ cellsJ b := by simp [cellsJ]
theorem cellsJ_cons (x : In) (r : List In) : cellsJ (x :: r) = .int .i64 x.k :: .int .i64 x.a :: .int .i64 x.b :: .int .u64 x.s.a :: .int .u64 x.s.b :: .int .u64 x.s.c :: .int .u64 x.s.d :: cellsJ r := by simp [cellsJ, In.cells]
theorem cellsJ_length (M : List In) : (cellsJ M).length = M.length * 7 := by
  induction M with
  | nil => rfl
  | cons x r ih => rw [cellsJ_cons]; simp only [List.length_cons, ih]; omega
theorem cellsJ_one (M : List In) : ∀ u ∈ cellsJ M, u.oneCell' = true := by
  induction M with
  | nil => simp [cellsJ]
  | cons x r ih =>
    intro u hu
    rw [cellsJ_cons] at hu
    simp only [List.mem_cons] at hu
    rcases hu with rfl | rfl | rfl | rfl | rfl | rfl | rfl | hu
    · rfl
    · rfl
    · rfl
    · rfl
    · rfl
    · rfl
    · rfl
    · exact ih u hu
theorem cellsJ_at {M : List In} {j : Nat} {x : In} (h : M[j]? = some x) : (cellsJ M)[j * 7]? = some (.int .i64 x.k) ∧ (cellsJ M)[j * 7 + 1]? = some (.int .i64 x.a) ∧ (cellsJ M)[j * 7 + 2]? = some (.int .i64 x.b) ∧ (cellsJ M)[j * 7 + 3]? = some (.int .u64 x.s.a) ∧ (cellsJ M)[j * 7 + 4]? = some (.int .u64 x.s.b) ∧ (cellsJ M)[j * 7 + 5]? = some (.int .u64 x.s.c) ∧ (cellsJ M)[j * 7 + 6]? = some (.int .u64 x.s.d) := by
  induction M generalizing j with
  | nil => simp at h
  | cons a r ih =>
    rw [cellsJ_cons]
    cases j with
    | zero => simp at h; subst h; simp
    | succ j =>
      have := ih (j := j) (by simpa using h)
      rw [show (j + 1) * 7 = j * 7 + 1 + 1 + 1 + 1 + 1 + 1 + 1 by omega]
      simpa using this
theorem cellsJ_setA {M : List In} {j : Nat} {x : In} (h : M[j]? = some x) (f : Int) : (cellsJ M).set (j * 7 + 1) (.int .i64 f) = cellsJ (M.set j { x with a := f }) := by
  induction M generalizing j with
  | nil => simp at h
  | cons a r ih =>
    cases j with
    | zero => simp at h; subst h; simp [cellsJ_cons]
    | succ j =>
      rw [List.set_cons_succ, cellsJ_cons, cellsJ_cons, show (j + 1) * 7 + 1 = j * 7 + 1 + 1 + 1 + 1 + 1 + 1 + 1 + 1 by omega]
      simp only [List.set_cons_succ]
      rw [ih (by simpa using h)]
theorem cellsJ_setB {M : List In} {j : Nat} {x : In} (h : M[j]? = some x) (f : Int) : (cellsJ M).set (j * 7 + 2) (.int .i64 f) = cellsJ (M.set j { x with b := f }) := by
  induction M generalizing j with
  | nil => simp at h
  | cons a r ih =>
    cases j with
    | zero => simp at h; subst h; simp [cellsJ_cons]
    | succ j =>
      rw [List.set_cons_succ, cellsJ_cons, cellsJ_cons, show (j + 1) * 7 + 2 = j * 7 + 2 + 1 + 1 + 1 + 1 + 1 + 1 + 1 by omega]
      simp only [List.set_cons_succ]
      rw [ih (by simpa using h)]
theorem infoJ : (Tryd.prog.info? 79).map (fun i => (i.zero, i.size, i.bytes)) = some (some (.agg #[.int .i64 0, .int .i64 0, .int .i64 0, .int .u64 0, .int .u64 0, .int .u64 0, .int .u64 0]), 7, 56) := by kernel_rfl

/-- the code of an expression that begins at a number -/
def cdx : Ex → Nat → List In
  | .none, _ => [⟨1, 0, 0, noSet⟩]
  | .emp, _ => []
  | .byte s, _ => [⟨1, 0, 0, s⟩]
  | .cat a b, n => cdx a n ++ cdx b (n + (cdx a n).length)
  | .alt a b, n => ⟨2, (n : Int) + 1, (n : Int) + 2 + ((cdx a (n + 1)).length : Int), noSet⟩ :: (cdx a (n + 1) ++ ⟨3, (n : Int) + 2 + ((cdx a (n + 1)).length : Int) + ((cdx b (n + 2 + (cdx a (n + 1)).length)).length : Int), 0, noSet⟩ :: cdx b (n + 2 + (cdx a (n + 1)).length))
  | .star a, n => ⟨2, (n : Int) + 1, (n : Int) + 2 + ((cdx a (n + 1)).length : Int), noSet⟩ :: (cdx a (n + 1) ++ [⟨3, n, 0, noSet⟩])
  | .beg, _ => [⟨4, 0, 0, noSet⟩]
  | .en, _ => [⟨5, 0, 0, noSet⟩]
theorem cdx_len (x : Ex) : ∀ n, (cdx x n).length ≤ 2 * x.nodes := by
  induction x with
  | none => intro n; simp [cdx, Ex.nodes]
  | emp => intro n; simp [cdx, Ex.nodes]
  | byte s => intro n; simp [cdx, Ex.nodes]
  | beg => intro n; simp [cdx, Ex.nodes]
  | en => intro n; simp [cdx, Ex.nodes]
  | cat a b ha hb => intro n; have := ha n; have := hb (n + (cdx a n).length); simp only [cdx, Ex.nodes, List.length_append]; omega
  | alt a b ha hb => intro n; have := ha (n + 1); have := hb (n + 2 + (cdx a (n + 1)).length); simp only [cdx, Ex.nodes, List.length_append, List.length_cons]; omega
  | star a ha => intro n; have := ha (n + 1); simp only [cdx, Ex.nodes, List.length_append, List.length_cons, List.length_nil]; omega

/-- what lies below B stays, and all that is not the row v: the row has become v' -/
def Gv (B : Nat) (w w' : World) (v v' : Value) : Prop := Below B w w' ∧ ∀ k, k < w.heap.size → v.ownBlock ≠ some k → (w'.heap[k]? = w.heap[k]? ∧ v'.ownBlock ≠ some k)
theorem Gv.refl (B : Nat) (w : World) (v : Value) : Gv B w w v v := ⟨Below.refl B w, fun _ _ h => ⟨rfl, h⟩⟩
theorem Gv.trans {B : Nat} {a b c : World} {v v1 v2 : Value} (h : Gv B a b v v1) (g : Gv B b c v1 v2) : Gv B a c v v2 := ⟨h.1.trans g.1, fun k hk hne => by
  have h1 := h.2 k hk hne
  have h2 := g.2 k (Nat.lt_of_lt_of_le hk h.1.size) h1.2
  exact ⟨h2.1.trans h1.1, h2.2⟩⟩
theorem ltSome {w : World} {k : Nat} {o : Obj} (h : w.heap[k]? = some o) : k < w.heap.size := (Array.getElem?_eq_some_iff.1 h).1
theorem Gv.of_below {B : Nat} {a b : World} (hB : B ≤ a.heap.size) (v : Value) (g : Below a.heap.size a b) : Gv B a b v v := ⟨g.mono hB, fun k hk hne => ⟨g.block k hk, hne⟩⟩
theorem Gv.grown {B n e size : Nat} {w w' : World} {v v' : Value} {xs : List Value} (h : w.ownsRow B e size v n xs) (g : w.grownBy w' v.ownBlock) (hB : B ≤ w.heap.size) (hat : v'.ownBlock = v.ownBlock ∨ v'.ownBlock = some w.heap.size) : Gv B w w' v v' :=
  ⟨(Below.refl B _).grown g hB (own_lt h), fun k hk hne => ⟨g.block k hk (fun e => hne e.symm), by
    rcases hat with e | e <;> rw [e]
    · exact hne
    · intro e; cases e; omega⟩⟩
theorem Gv.size {B : Nat} {a b : World} {v v' : Value} (h : Gv B a b v v') (hB : B ≤ a.heap.size) : B ≤ b.heap.size := Nat.le_trans hB h.1.size
def OwnJ (B : Nat) (xs : List In) (w : World) (v : Value) : Prop := w.ownsRow B 79 7 v xs.length (cellsJ xs)
/-- a row of instructions of one's own, and blocks that stay beside it -/
structure RowJ (B : Nat) (w0 : World) (v0 : Value) (L : List (Nat × Obj)) (xs : List In) (w : World) (v : Value) : Prop where
  own : OwnJ B xs w v
  gw : Gv B w0 w v0 v
  box : ∀ p ∈ L, w.heap[p.1]? = some p.2 ∧ v.ownBlock ≠ some p.1
  hB : B ≤ w.heap.size
section
variable {B : Nat} {w0 w w' : World} {v0 v v' : Value} {L : List (Nat × Obj)} {xs ys : List In}
theorem RowJ.start (h : OwnJ B xs w v) (hB : B ≤ w.heap.size) : RowJ B w v [] xs w v := ⟨h, Gv.refl B w v, fun p hp => by simp at hp, hB⟩
theorem RowJ.call (h : RowJ B w0 v0 L xs w v) (o : OwnJ B ys w' v') (k : Gv B w w' v v') : RowJ B w0 v0 L ys w' v' :=
  ⟨o, h.gw.trans k, fun p hp => by
    have h1 := h.box p hp
    have h2 := k.2 p.1 (ltSome h1.1) h1.2
    exact ⟨h2.1.trans h1.1, h2.2⟩, k.size h.hB⟩
theorem RowJ.below (h : RowJ B w0 v0 L xs w v) (b : Below w.heap.size w w') : RowJ B w0 v0 L xs w' v := h.call (own_below h.own b) (Gv.of_below h.hB v b)
theorem RowJ.alloc (h : RowJ B w0 v0 L xs w v) (o : Obj) : RowJ B w0 v0 L xs (w.alloc o) v := h.below ((Below.refl _ _).alloc (Nat.le_refl _) o)
theorem RowJ.drew (h : RowJ B w0 v0 L xs w v) : RowJ B w0 v0 L xs w.drew v := h.below ((Below.refl _ _).drew)
/-- a new block is kept in mind -/
theorem RowJ.lay (h : RowJ B w0 v0 L xs w v) (o : Obj) : RowJ B w0 v0 ((w.heap.size, o) :: L) xs (w.alloc o) v :=
  ⟨(h.alloc o).own, (h.alloc o).gw, fun p hp => by
    rcases List.mem_cons.1 hp with rfl | hp
    · exact ⟨heap_alloc_new w o, fun e => by have := (h.own.lt _ e).2; simp at this⟩
    · exact (h.alloc o).box p hp, (h.alloc o).hB⟩
theorem RowJ.cell (h : RowJ B w0 v0 L xs w v) {g : Nat} {cur : Array Value} {t : TypeId} {fr : Nat × Nat} (hm : (g, Obj.cells cur t fr) ∈ L) (j : Nat) : w.cell? ⟨g, j, none⟩ = cur[j]? := Go.Lib.cell_of_heap (h.box _ hm).1 j
theorem RowJ.sub (h : RowJ B w0 v0 L xs w v) : RowJ B w0 v0 [] xs w v := ⟨h.own, h.gw, fun p hp => by simp at hp, h.hB⟩
theorem RowJ.forms (h : RowJ B w0 v0 L xs w v) : ∃ o c, v = .slice o xs.length c := own_forms h.own
/-- its cells -/
theorem OwnJ.at_ (h : OwnJ B xs w v) {j : Nat} {x : In} (hj : xs[j]? = some x) : ∃ g c, v = .slice (some ⟨g, 0, none⟩) xs.length c ∧ xs.length ≤ c ∧ g < w.heap.size ∧
    w.cell? ⟨g, j * 7, none⟩ = some (.int .i64 x.k) ∧ w.cell? ⟨g, j * 7 + 1, none⟩ = some (.int .i64 x.a) ∧ w.cell? ⟨g, j * 7 + 2, none⟩ = some (.int .i64 x.b) ∧ w.cell? ⟨g, j * 7 + 3, none⟩ = some (.int .u64 x.s.a) ∧ w.cell? ⟨g, j * 7 + 4, none⟩ = some (.int .u64 x.s.b) ∧ w.cell? ⟨g, j * 7 + 5, none⟩ = some (.int .u64 x.s.c) ∧ w.cell? ⟨g, j * 7 + 6, none⟩ = some (.int .u64 x.s.d) := by
  have hjl : j < xs.length := (List.getElem?_eq_some_iff.1 hj).1
  obtain ⟨g, c, rfl, hc⟩ := own_form h (by omega)
  obtain ⟨k0, k1, k2, k3, k4, k5, k6⟩ := cellsJ_at hj
  exact ⟨g, c, rfl, hc, (h.lt g rfl).2, (h.cellAt _ (by omega)).trans k0, (h.cellAt _ (by omega)).trans k1, (h.cellAt _ (by omega)).trans k2, (h.cellAt _ (by omega)).trans k3, (h.cellAt _ (by omega)).trans k4, (h.cellAt _ (by omega)).trans k5, (h.cellAt _ (by omega)).trans k6⟩
end
theorem setA_row {B : Nat} {w0 w : World} {v0 : Value} {L : List (Nat × Obj)} {xs : List In} {g n c j : Nat} {x : In} (h : RowJ B w0 v0 L xs w (.slice (some ⟨g, 0, none⟩) n c)) (hj : xs[j]? = some x) (hn : xs.length = n) (f : Int) : RowJ B w0 v0 L (xs.set j { x with a := f }) (w.setCell ⟨g, j * 7 + 1, none⟩ (.int .i64 f)) (.slice (some ⟨g, 0, none⟩) n c) := by
  subst hn
  obtain ⟨s, gr⟩ := World.ownsRow.stored h.own (j * 7 + 1) (.int .i64 f)
  rw [cellsJ_setA hj] at s
  exact h.call (by unfold OwnJ; rw [List.length_set]; exact s) (Gv.grown h.own gr h.hB (.inl rfl))
theorem setB_row {B : Nat} {w0 w : World} {v0 : Value} {L : List (Nat × Obj)} {xs : List In} {g n c j : Nat} {x : In} (h : RowJ B w0 v0 L xs w (.slice (some ⟨g, 0, none⟩) n c)) (hj : xs[j]? = some x) (hn : xs.length = n) (f : Int) : RowJ B w0 v0 L (xs.set j { x with b := f }) (w.setCell ⟨g, j * 7 + 2, none⟩ (.int .i64 f)) (.slice (some ⟨g, 0, none⟩) n c) := by
  subst hn
  obtain ⟨s, gr⟩ := World.ownsRow.stored h.own (j * 7 + 2) (.int .i64 f)
  rw [cellsJ_setB hj] at s
  exact h.call (by unfold OwnJ; rw [List.length_set]; exact s) (Gv.grown h.own gr h.hB (.inl rfl))
theorem frozen_row {B : Nat} {w : World} {xs : List In} {g c : Nat} (h : OwnJ B xs w (.slice (some ⟨g, 0, none⟩) xs.length c)) (j : Nat) : w.frozen? ⟨g, j, none⟩ = false := World.ownsRow.frozenAt h j
/-- append of instructions that lie somewhere -/
theorem app_in {ops : Array Oper} {rest : List Oper} {o : Oper} {a : Act} {w : World} {Q : Exit → Act → World → Prop} (hgd : o.guard = none) (sl x : Operand)
    (ho : o.op = .call { callee := .builtin .append, args := #[sl, x], argTypes := #[39, 39] }) {B : Nat} {w0 : World} {v0 : Value} {L : List (Nat × Obj)} {xs : List In} {v : Value} (hs : a.eval sl = v) (R : RowJ B w0 v0 L xs w v)
    (ys : List In) (ad : Addr) (c : Nat) (hx : a.eval x = .slice (some ad) ys.length c) (hy : ∀ j u, (cellsJ ys)[j]? = some u → w.cell? (ad.add j) = some u) (hn : xs.length + ys.length ≤ 1000000)
    (h : ∀ v' w', RowJ B w0 v0 L (xs ++ ys) w' v' → wpList Tryd.prog ops Q rest (a.put o.dst v') w') : wpList Tryd.prog ops Q (o :: rest) a w := by
  obtain ⟨i0, hi, hz0, hz1, hz2⟩ := info_parts infoJ
  refine wpList_append_own_at w hgd sl x 39 ho B 79 i0 _ 7 56 Tryd.underlying39 hi hz0 hz1 hz2 rfl (by decide) v xs.length (cellsJ xs) hs R.own ad ys.length c (cellsJ ys) hx (cellsJ_length ys) hy (cellsJ_one ys) (by unfold maxLen; omega) (by omega) R.hB ?_
  intro v' w' h2 h3 _ hat
  exact h v' w' (R.call (by unfold OwnJ; rw [cellsJ_append, List.length_append]; exact h2) (Gv.grown R.own h3 R.hB hat))
theorem news_one {w : World} {g : Nat} {x : In} {t : TypeId} {fr : Nat × Nat} (h : w.heap[g]? = some (.cells #[.int .i64 x.k, .int .i64 x.a, .int .i64 x.b, .int .u64 x.s.a, .int .u64 x.s.b, .int .u64 x.s.c, .int .u64 x.s.d] t fr)) : ∀ j u, (cellsJ [x])[j]? = some u → w.cell? ((⟨g, 0, none⟩ : Addr).add j) = some u := by
  intro j u hu
  rw [Addr.add_lit, Nat.zero_add, Go.Lib.cell_of_heap h]
  rw [cellsJ_cons] at hu
  simpa [cellsJ] using hu
theorem news_row {B : Nat} {w : World} {ys : List In} {g c : Nat} (h : OwnJ B ys w (.slice (some ⟨g, 0, none⟩) ys.length c)) : ∀ j u, (cellsJ ys)[j]? = some u → w.cell? ((⟨g, 0, none⟩ : Addr).add j) = some u := World.ownsRow.cells h (g := g) rfl
end Go.Proofs.YtmgealcolofomaaDoor
