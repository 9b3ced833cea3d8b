/- The machine in memory: a block of 407 cells, two rows of ways; the list of instructions. -/
import Derived.Test.YtmgealcolofomaaDoorEc
import Derived.Maps.AppendAt
namespace Go.Proofs.YtmgealcolofomaaDoor
open Go.RowKit Kb
set_option linter.unusedVariables false
set_option maxRecDepth 20000
/-- a slice that holds these instructions -/
structure Insts (w : World) (v : Value) (p : List In) : Prop where
  made ::
  form : ∃ o c, v = .slice o p.length c ∧ p.length ≤ c
  fit : ∀ x ∈ p, FitS x.s
  at_ : p ≠ [] → ∃ g off c, v = .slice (some ⟨g, off, none⟩) p.length c ∧ g < w.heap.size ∧ ∀ j x, p[j]? = some x →
    w.cell? ⟨g, off + j * 7, none⟩ = some (.int .i64 x.k) ∧ w.cell? ⟨g, off + j * 7 + 1, none⟩ = some (.int .i64 x.a) ∧ w.cell? ⟨g, off + j * 7 + 2, none⟩ = some (.int .i64 x.b) ∧ w.cell? ⟨g, off + j * 7 + 3, none⟩ = some (.int .u64 x.s.a) ∧ w.cell? ⟨g, off + j * 7 + 4, none⟩ = some (.int .u64 x.s.b) ∧ w.cell? ⟨g, off + j * 7 + 5, none⟩ = some (.int .u64 x.s.c) ∧ w.cell? ⟨g, off + j * 7 + 6, none⟩ = some (.int .u64 x.s.d)
theorem Insts.below {w w' : World} {v : Value} {p : List In} (h : Insts w v p) (b : Below w.heap.size w w') : Insts w' v p := by
  refine ⟨h.form, h.fit, fun hne => ?_⟩
  obtain ⟨g, off, c, h1, h2, h3⟩ := h.at_ hne
  refine ⟨g, off, c, h1, Nat.lt_of_lt_of_le h2 b.size, fun j x hj => ?_⟩
  obtain ⟨a0, a1, a2, a3, a4, a5, a6⟩ := h3 j x hj
  exact ⟨cell_below a0 h2 b, cell_below a1 h2 b, cell_below a2 h2 b, cell_below a3 h2 b, cell_below a4 h2 b, cell_below a5 h2 b, cell_below a6 h2 b⟩
theorem own_apart9 {w : World} {B B' e e' s s' n n' : Nat} {v v' : Value} {xs ys : List Value} (h : w.ownsRow B e s v n xs) (h' : w.ownsRow B' e' s' v' n' ys) (he : e ≠ e') : v.ownBlock = none ∨ v.ownBlock ≠ v'.ownBlock := by
  rcases h.2 with ⟨rfl, _⟩ | ⟨g, cap, cur, rfl, _, hgb, _⟩
  · exact .inl rfl
  · right
    intro e1
    rcases h'.2 with ⟨rfl, _⟩ | ⟨g', cap', cur', rfl, _, hgb', _⟩
    · simp [Value.ownBlock] at e1
    · have : g = g' := by simpa [Value.ownBlock] using e1
      subst this
      have := Option.some.inj (hgb.symm.trans hgb')
      injection this with a b c
      exact he b
/-- ways as cells -/
def cellsWy (l : List (Nat × Nat)) : List Value := l.flatMap fun e => [.int .i64 e.1, .int .i64 e.2]
theorem cellsWy_append (a b : List (Nat × Nat)) : cellsWy (a ++ b) = cellsWy a ++ cellsWy b := by simp [cellsWy]
theorem cellsWy_cons (a : Nat × Nat) (r : List (Nat × Nat)) : cellsWy (a :: r) = .int .i64 a.1 :: .int .i64 a.2 :: cellsWy r := by simp [cellsWy]
theorem cellsWy_at {l : List (Nat × Nat)} {j : Nat} {e : Nat × Nat} (h : l[j]? = some e) : (cellsWy l)[j * 2]? = some (.int .i64 e.1) ∧ (cellsWy l)[j * 2 + 1]? = some (.int .i64 e.2) := by
  induction l generalizing j with
  | nil => simp at h
  | cons a r ih =>
    rw [cellsWy_cons]
    cases j with
    | zero => simp at h; subst h; simp
    | succ j =>
      have := ih (j := j) (by simpa using h)
      rw [show (j + 1) * 2 = j * 2 + 1 + 1 by omega]
      simpa using this
theorem infoWy : (Tryd.prog.info? 117).map (fun i => (i.zero, i.size, i.bytes)) = some (some (.agg #[.int .i64 0, .int .i64 0]), 2, 16) := by kernel_rfl
def mCells (pv : Value) (s : ByteArray) (seen : List Int) (nv xv : Value) (F T : Int) (b : Bool) : List Value :=
  pv :: .string s :: (seen.map (Value.int .i64) ++ [nv, xv, .int .i64 F, .int .i64 T, .bool b])
def fF (q : Option (Nat × Nat)) : Int := ((q.getD (0, 0)).1 : Int)
def fT (q : Option (Nat × Nat)) : Int := ((q.getD (0, 0)).2 : Int)
/-- the machine at block N; nl: the ways of this place -/
structure MX (W0 w : World) (N : Nat) (pv : Value) (s : ByteArray) (st : Pm.St) (nv : Value) (nl : List (Nat × Nat)) (xv : Value) : Prop where
  made ::
  bel : Below W0.heap.size W0 w
  own : w.ownsRow W0.heap.size 92 407 (.slice (some ⟨N, 0, none⟩) 1 1) 1 (mCells pv s st.seen nv xv (fF st.found) (fT st.found) st.found.isSome)
  len : st.seen.length = 400
  now : w.ownsRow W0.heap.size 117 2 nv nl.length (cellsWy nl)
  next : w.ownsRow W0.heap.size 117 2 xv st.next.length (cellsWy st.next)
  apart : nv.ownBlock = none ∨ nv.ownBlock ≠ xv.ownBlock
/-- what a call leaves as it was: all blocks but the machine's and the next ways' -/
structure Kp (N : Nat) (w : World) (xv : Value) (w' : World) (xv' : Value) : Prop where
  made ::
  os : w'.os = w.os
  output : w'.output = w.output
  size : w.heap.size ≤ w'.heap.size
  heap : ∀ k, k < w.heap.size → k ≠ N → xv.ownBlock ≠ some k → w'.heap[k]? = w.heap[k]?
  blk : xv'.ownBlock = xv.ownBlock ∨ ∃ q, xv'.ownBlock = some q ∧ w.heap.size ≤ q
theorem Kp.refl (N : Nat) (w : World) (xv : Value) : Kp N w xv w xv := ⟨rfl, rfl, Nat.le_refl _, fun _ _ _ _ => rfl, .inl rfl⟩
theorem Kp.trans {N : Nat} {w w' w'' : World} {xv xv' xv'' : Value} (h : Kp N w xv w' xv') (h' : Kp N w' xv' w'' xv'') : Kp N w xv w'' xv'' := by
  refine ⟨h'.os.trans h.os, h'.output.trans h.output, Nat.le_trans h.size h'.size, fun k hk hN hx => ?_, ?_⟩
  · refine (h'.heap k (Nat.lt_of_lt_of_le hk h.size) hN ?_).trans (h.heap k hk hN hx)
    rcases h.blk with e | ⟨q, e, hq⟩
    · rw [e]; exact hx
    · rw [e]; intro e2; have := Option.some.inj e2; omega
  · rcases h'.blk with e | ⟨q, e, hq⟩
    · rcases h.blk with e1 | ⟨q, e1, hq⟩
      · exact .inl (e.trans e1)
      · exact .inr ⟨q, e.trans e1, hq⟩
    · exact .inr ⟨q, e, Nat.le_trans h.size hq⟩
theorem Kp.below {N : Nat} {w w' : World} {xv : Value} (b : Below w.heap.size w w') : Kp N w xv w' xv := ⟨b.os, b.output, b.size, fun k hk _ _ => b.block k hk, .inl rfl⟩
/-- a cell of another block -/
theorem Kp.cell {N : Nat} {w w' : World} {xv xv' v : Value} (h : Kp N w xv w' xv') {g j : Nat} (hg : g < w.heap.size) (hN : g ≠ N) (hx : xv.ownBlock ≠ some g) (hc : w.cell? ⟨g, j, none⟩ = some v) : w'.cell? ⟨g, j, none⟩ = some v := by
  have e : w'.heap[(⟨g, j, none⟩ : Addr).block]? = w.heap[(⟨g, j, none⟩ : Addr).block]? := h.heap g hg hN hx
  exact (World.cell?_of_block e).trans hc
section
variable {W0 w w' : World} {N : Nat} {pv nv xv : Value} {s : ByteArray} {st : Pm.St} {nl : List (Nat × Nat)}
theorem MX.lt (h : MX W0 w N pv s st nv nl xv) : W0.heap.size ≤ N ∧ N < w.heap.size := World.ownsRow.lt h.own N rfl
theorem MX.typ : (92 : Nat) ≠ 117 := by decide
/-- neither row of ways lies in the machine's block -/
theorem MX.nN (h : MX W0 w N pv s st nv nl xv) : nv.ownBlock ≠ some N ∧ xv.ownBlock ≠ some N := by
  constructor
  · rcases own_apart9 h.now h.own (fun e => MX.typ e.symm) with e | e
    · rw [e]; simp
    · exact e
  · rcases own_apart9 h.next h.own (fun e => MX.typ e.symm) with e | e
    · rw [e]; simp
    · exact e
theorem MX.below (h : MX W0 w N pv s st nv nl xv) (b : Below w.heap.size w w') : MX W0 w' N pv s st nv nl xv :=
  ⟨bel_trans h.bel b, own_below h.own b, h.len, own_below h.now b, own_below h.next b, h.apart⟩
theorem MX.fields (h : MX W0 w N pv s st nv nl xv) : w.cell? ⟨N, 0, none⟩ = some pv ∧ w.cell? ⟨N, 1, none⟩ = some (.string s) ∧ w.cell? ⟨N, 402, none⟩ = some nv ∧ w.cell? ⟨N, 403, none⟩ = some xv ∧ w.cell? ⟨N, 404, none⟩ = some (.int .i64 (fF st.found)) ∧ w.cell? ⟨N, 405, none⟩ = some (.int .i64 (fT st.found)) ∧ w.cell? ⟨N, 406, none⟩ = some (.bool st.found.isSome) := by
  have hl : (st.seen.map (Value.int .i64)).length = 400 := by rw [List.length_map, h.len]
  have tail : ∀ i, i < 5 → w.cell? ⟨N, 402 + i, none⟩ = [nv, xv, .int .i64 (fF st.found), .int .i64 (fT st.found), .bool st.found.isSome][i]? := fun i hi => by
    rw [World.ownsRow.cellAt h.own (402 + i) (by omega), mCells, show 402 + i = (400 + i) + 1 + 1 by omega, List.getElem?_cons_succ, List.getElem?_cons_succ, List.getElem?_append_right (by omega), hl, show 400 + i - 400 = i by omega]
  exact ⟨World.ownsRow.cellAt h.own 0 (by omega), World.ownsRow.cellAt h.own 1 (by omega), tail 0 (by omega), tail 1 (by omega), tail 2 (by omega), tail 3 (by omega), tail 4 (by omega)⟩
theorem MX.seenAt (h : MX W0 w N pv s st nv nl xv) {k : Nat} {v : Int} (hk : st.seen[k]? = some v) : w.cell? ⟨N, 2 + k, none⟩ = some (.int .i64 v) := by
  have hkl := (List.getElem?_eq_some_iff.1 hk).1
  rw [World.ownsRow.cellAt h.own (2 + k) (by have := h.len; omega), mCells, show 2 + k = k + 1 + 1 by omega, List.getElem?_cons_succ, List.getElem?_cons_succ, List.getElem?_append_left (by rw [List.length_map]; exact hkl), List.getElem?_map, hk]
  rfl
theorem MX.froz (h : MX W0 w N pv s st nv nl xv) (j : Nat) : w.frozen? ⟨N, j, none⟩ = false := World.ownsRow.frozenAt h.own j
theorem mCells_seen (pv : Value) (s : ByteArray) (seen : List Int) (nv xv : Value) (F T : Int) (b : Bool) {k : Nat} (hk : k < seen.length) (v : Int) :
    (mCells pv s seen nv xv F T b).set (2 + k) (.int .i64 v) = mCells pv s (seen.set k v) nv xv F T b := by
  unfold mCells
  rw [show 2 + k = k + 1 + 1 by omega, List.set_cons_succ, List.set_cons_succ, List.set_append_left _ _ (by rw [List.length_map]; exact hk), List.map_set]
theorem mCells_tail (pv : Value) (s : ByteArray) (seen : List Int) (hl : seen.length = 400) (l : List Value) (i : Nat) (v : Value) :
    (pv :: .string s :: (seen.map (Value.int .i64) ++ l)).set (402 + i) v = pv :: .string s :: (seen.map (Value.int .i64) ++ l.set i v) := by
  rw [show 402 + i = (400 + i) + 1 + 1 by omega, List.set_cons_succ, List.set_cons_succ, List.set_append_right _ _ (by rw [List.length_map]; omega), List.length_map, hl, show 400 + i - 400 = i by omega]
/-- an instruction is marked -/
theorem MX.mark (h : MX W0 w N pv s st nv nl xv) {k : Nat} (hk : k < 400) (v : Int) :
    MX W0 (w.setCell ⟨N, 2 + k, none⟩ (.int .i64 v)) N pv s { st with seen := st.seen.set k v } nv nl xv ∧ Kp N w xv (w.setCell ⟨N, 2 + k, none⟩ (.int .i64 v)) xv := by
  obtain ⟨v0, m0⟩ := World.ownsRow.stored h.own (2 + k) (.int .i64 v)
  rw [mCells_seen _ _ _ _ _ _ _ _ (by rw [h.len]; exact hk)] at v0
  have hN := h.lt
  refine ⟨⟨h.bel.grown m0 (Nat.le_trans h.bel.size (Nat.le_refl _)) (fun q hq => by have := Option.some.inj hq; omega), v0, by simpa using h.len, World.ownsRow.kept h.now m0 (.inr h.nN.1), World.ownsRow.kept h.next m0 (.inr h.nN.2), h.apart⟩, ⟨m0.os, m0.output, m0.size, fun j hj hjN _ => m0.block j hj (fun e => hjN (Option.some.inj e)), .inl rfl⟩⟩
/-- the span found -/
theorem MX.find (h : MX W0 w N pv s st nv nl xv) (f t : Nat) :
    MX W0 (((w.setCell ⟨N, 404, none⟩ (.int .i64 f)).setCell ⟨N, 405, none⟩ (.int .i64 t)).setCell ⟨N, 406, none⟩ (.bool true)) N pv s { st with found := some (f, t) } nv nl xv ∧ Kp N w xv (((w.setCell ⟨N, 404, none⟩ (.int .i64 f)).setCell ⟨N, 405, none⟩ (.int .i64 t)).setCell ⟨N, 406, none⟩ (.bool true)) xv := by
  obtain ⟨v0, m0⟩ := World.ownsRow.stored h.own 404 (.int .i64 f)
  obtain ⟨v1, m1⟩ := v0.stored 405 (.int .i64 t)
  obtain ⟨v2, m2⟩ := v1.stored 406 (.bool true)
  have m := (m0.trans m1).trans m2
  unfold mCells at v2
  rw [show (404 : Nat) = 402 + 2 from rfl, show (405 : Nat) = 402 + 3 from rfl, show (406 : Nat) = 402 + 4 from rfl, mCells_tail _ _ _ h.len, mCells_tail _ _ _ h.len, mCells_tail _ _ _ h.len] at v2
  have hN := h.lt
  refine ⟨⟨h.bel.grown m (Nat.le_trans h.bel.size (Nat.le_refl _)) (fun q hq => by have := Option.some.inj hq; omega), v2, h.len, World.ownsRow.kept h.now m (.inr h.nN.1), World.ownsRow.kept h.next m (.inr h.nN.2), h.apart⟩, ⟨m.os, m.output, m.size, fun j hj hjN _ => m.block j hj (fun e => hjN (Option.some.inj e)), .inl rfl⟩⟩
/-- a way is laid behind the next ones: the row has grown, and the machine's cell is written -/
theorem MX.way (h : MX W0 w N pv s st nv nl xv) {w1 : World} {xv' : Value} {e : Nat × Nat} (ho : w1.ownsRow W0.heap.size 117 2 xv' (st.next.length + 1) (cellsWy st.next ++ [.int .i64 e.1, .int .i64 e.2])) (hg : w.grownBy w1 xv.ownBlock)
    (hat : xv'.ownBlock = xv.ownBlock ∨ xv'.ownBlock = some w.heap.size) :
    MX W0 (w1.setCell ⟨N, 403, none⟩ xv') N pv s { st with next := st.next ++ [e] } nv nl xv' ∧ Kp N w xv (w1.setCell ⟨N, 403, none⟩ xv') xv' := by
  have hN := h.lt
  have own1 := World.ownsRow.kept h.own hg (.inr (fun e => h.nN.2 (by rw [← e]; rfl)))
  obtain ⟨v0, m0⟩ := World.ownsRow.stored own1 403 xv'
  unfold mCells at v0
  rw [show (403 : Nat) = 402 + 1 from rfl, mCells_tail _ _ _ h.len] at v0
  have hxN : xv'.ownBlock ≠ some N := by
    rcases own_apart9 ho own1 (fun e => MX.typ e.symm) with e | e
    · rw [e]; simp
    · exact e
  have now1 := World.ownsRow.kept h.now hg h.apart
  have hbx : ∀ q, xv.ownBlock = some q → W0.heap.size ≤ q := fun q hq => (h.next.lt q hq).1
  refine ⟨⟨(h.bel.grown hg (Nat.le_trans h.bel.size (Nat.le_refl _)) hbx).grown m0 (Nat.le_trans h.bel.size hg.size) (fun q hq => by have := Option.some.inj hq; omega), v0, h.len, World.ownsRow.kept now1 m0 (.inr h.nN.1), ?_, ?_⟩, ⟨m0.os.trans hg.os, m0.output.trans hg.output, Nat.le_trans hg.size m0.size, fun j hj hjN hx => (m0.block j (Nat.lt_of_lt_of_le hj hg.size) (fun e => hjN (Option.some.inj e))).trans (hg.block j hj (fun e => hx e.symm)), ?_⟩⟩
  · rw [show (st.next ++ [e]).length = st.next.length + 1 by simp, cellsWy_append]
    exact World.ownsRow.kept ho m0 (.inr hxN)
  · rcases h.apart with e1 | e1
    · exact .inl e1
    · rcases hat with e2 | e2
      · right; rw [e2]; exact e1
      · right; rw [e2]
        intro e3
        have := (h.now.lt _ e3).2
        omega
  · rcases hat with e2 | e2
    · exact .inl e2
    · exact .inr ⟨_, e2, Nat.le_refl _⟩
end
namespace Pm
/-- no more ways than marks -/
theorem fol_len {p : List In} {s : L8} (g : Good p) : ∀ (u i f a : Nat) (st : St), p.length ≤ st.seen.length → i < p.length → (fol p s u i f a st).seen.length = st.seen.length ∧ (fol p s u i f a st).next.length + un p (fol p s u i f a st) a ≤ st.next.length + un p st a ∧ un p (fol p s u i f a st) a ≤ un p st a := by
  intro u
  induction u with
  | zero => intro i f a st _ _; exact ⟨rfl, Nat.le_refl _, Nat.le_refl _⟩
  | succ u ih =>
    intro i f a st hl hi
    rw [fol]
    by_cases hm : st.seen[i]? = some ((a : Int) + 1)
    · rw [if_pos hm]; exact ⟨rfl, Nat.le_refl _, Nat.le_refl _⟩
    · rw [if_neg hm]
      have hun := un_mark hi hl hm
      obtain ⟨x, hx⟩ : ∃ x, p[i]? = some x := ⟨p[i], List.getElem?_eq_getElem hi⟩
      have hk := g.kind i x hx
      rw [hx]
      dsimp only
      have base : ∀ (st1 : St), st1.seen = st.seen.set i ((a : Int) + 1) → st1.next = st.next → st1.seen.length = st.seen.length ∧ st1.next.length + un p st1 a ≤ st.next.length + un p st a ∧ un p st1 a ≤ un p st a ∧ p.length ≤ st1.seen.length := by
        intro st1 h1 h2
        have e : un p st1 a = un p { st with seen := st.seen.set i ((a : Int) + 1) } a := by unfold un; rw [h1]
        refine ⟨by rw [h1]; simp, by rw [h2, e]; omega, by rw [e]; omega, by rw [h1]; simpa using hl⟩
      have sub : ∀ (k : Nat) (st1 : St), k < p.length → st1.seen.length = st.seen.length ∧ st1.next.length + un p st1 a ≤ st.next.length + un p st a ∧ un p st1 a ≤ un p st a ∧ p.length ≤ st1.seen.length → (fol p s u k f a st1).seen.length = st.seen.length ∧ (fol p s u k f a st1).next.length + un p (fol p s u k f a st1) a ≤ st.next.length + un p st a ∧ un p (fol p s u k f a st1) a ≤ un p st a ∧ p.length ≤ (fol p s u k f a st1).seen.length := by
        intro k st1 hk h
        obtain ⟨h1, h2, h3⟩ := ih k f a st1 h.2.2.2 hk
        exact ⟨by rw [h1, h.1], by omega, by omega, by rw [h1]; exact h.2.2.2⟩
      have b0 := base { st with seen := st.seen.set i ((a : Int) + 1) } rfl rfl
      by_cases h1 : x.k = 1
      · rw [if_pos h1]
        split
        · refine ⟨b0.1, ?_⟩
          have e : un p ({ seen := st.seen.set i ((a : Int) + 1), next := st.next ++ [(i + 1, f)], found := st.found } : St) a = un p { st with seen := st.seen.set i ((a : Int) + 1) } a := rfl
          rw [e]; refine ⟨?_, by omega⟩; simp; omega
        · exact ⟨b0.1, b0.2.1, b0.2.2.1⟩
      rw [if_neg h1]
      by_cases h2 : x.k = 2
      · rw [if_pos h2]
        have s1 := sub x.a.toNat _ (by omega) b0
        have s2 := sub x.b.toNat _ (by omega) s1
        exact ⟨s2.1, s2.2.1, s2.2.2.1⟩
      rw [if_neg h2]
      by_cases h3 : x.k = 3
      · rw [if_pos h3]
        have s1 := sub x.a.toNat _ (by omega) b0
        exact ⟨s1.1, s1.2.1, s1.2.2.1⟩
      rw [if_neg h3]
      by_cases h4 : x.k = 4
      · rw [if_pos h4]
        split
        · have s1 := sub (i + 1) _ (by omega) b0
          exact ⟨s1.1, s1.2.1, s1.2.2.1⟩
        · exact ⟨b0.1, b0.2.1, b0.2.2.1⟩
      rw [if_neg h4]
      by_cases h5 : x.k = 5
      · rw [if_pos h5]
        split
        · have s1 := sub (i + 1) _ (by omega) b0
          exact ⟨s1.1, s1.2.1, s1.2.2.1⟩
        · exact ⟨b0.1, b0.2.1, b0.2.2.1⟩
      rw [if_neg h5]
      split
      · exact ⟨b0.1, b0.2.1, b0.2.2.1⟩
      · exact ⟨b0.1, b0.2.1, b0.2.2.1⟩
end Pm
end Go.Proofs.YtmgealcolofomaaDoor
