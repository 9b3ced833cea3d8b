/- The tree as it grows: plainly, and rows of nodes. -/
import Derived.Test.YtmmjcbfffcnfiaaFn
namespace Go.Proofs.Ytmmjcbfffcnfiaa
open Go.Shelf Go.RowKit Go.Lib Kb Ph
set_option linter.unusedVariables false
set_option maxRecDepth 20000

def mkN (x : St) : Nd := ⟨x.2, x.1, 0, []⟩
/-- the last child of node n with byte c among the first i nodes -/
def kidL (T : List Nd) : Nat → Int → Int → Nat
  | 0, _, _ => 0
  | i + 1, n, c => if i ≠ 0 ∧ n = (nd T i).up ∧ c = (nd T i).c then i else kidL T i n c
theorem kidL_lt (T : List Nd) (i : Nat) (n c : Int) : kidL T i n c = 0 ∨ kidL T i n c < i := by
  induction i with
  | zero => exact .inl rfl
  | succ i ih => unfold kidL; split <;> omega
theorem kidL_ext {T T' : List Nd} {i : Nat} (h : ∀ j, j < i → nd T j = nd T' j) (n c : Int) : kidL T i n c = kidL T' i n c := by
  induction i with
  | zero => rfl
  | succ i ih => unfold kidL; rw [h i (by omega), ih (fun j hj => h j (by omega))]
theorem nd_left {T U : List Nd} {j : Nat} (h : j < T.length) : nd (T ++ U) j = nd T j := by simp [nd, List.getD, List.getElem?_append_left h]
theorem nd_new (T : List Nd) (x : Nd) : nd (T ++ [x]) T.length = x := by simp [nd, List.getD]
def KidL (T : List Nd) (n c : Int) : Nat := kidL T T.length n c
theorem KidL_snoc (T : List Nd) (x : Nd) (hT : T ≠ []) (n c : Int) : (if n = x.up ∧ c = x.c then T.length else KidL T n c) = KidL (T ++ [x]) n c := by
  have h0 : T.length ≠ 0 := fun e => hT (List.length_eq_zero_iff.1 e)
  unfold KidL
  rw [List.length_append, List.length_singleton, kidL, nd_new, kidL_ext (fun j hj => nd_left hj)]
  by_cases h : n = x.up ∧ c = x.c
  · rw [if_pos h, if_pos ⟨h0, h⟩]
  · rw [if_neg h, if_neg (fun g => h g.2)]
/-- where the first k words stand behind their byte at depth d -/
def upd (ws : List ByteArray) (T : List Nd) (at_ : List Nat) (d : Nat) : Nat → List Nat
  | 0 => at_
  | k + 1 => if d < (ws.getD k ByteArray.empty).size then (upd ws T at_ d k).set k (KidL T (((upd ws T at_ d k).getD k 0 : Nat) : Int) (((ws.getD k ByteArray.empty).data.toList.getD d 0).toNat : Int)) else upd ws T at_ d k
theorem upd_len (ws : List ByteArray) (T : List Nd) (at_ : List Nat) (d k : Nat) : (upd ws T at_ d k).length = at_.length := by
  induction k with
  | zero => rfl
  | succ k ih => rw [upd]; split
                 · rw [List.length_set, ih]
                 · exact ih
theorem upd_lt (ws : List ByteArray) (T : List Nd) (at_ : List Nat) (d k : Nat) (hT : 0 < T.length) (h : ∀ a ∈ at_, a < T.length) : ∀ a ∈ upd ws T at_ d k, a < T.length := by
  induction k with
  | zero => exact h
  | succ k ih =>
    rw [upd]; split
    · intro a ha
      rcases List.mem_or_eq_of_mem_set ha with ha | ha
      · exact ih a ha
      · subst ha; have := kidL_lt T T.length (((upd ws T at_ d k).getD k 0 : Nat) : Int) (((ws.getD k ByteArray.empty).data.toList.getD d 0).toNat : Int); unfold KidL; omega
    · exact ih
inductive Gr (ws : List ByteArray) : Nat → List Nd → List Nat → Prop
  | zero : Gr ws 0 [⟨0, 0, 0, []⟩] (List.replicate ws.length 0)
  | step {d : Nat} {T : List Nd} {at_ : List Nat} {S : List St} : Gr ws d T at_ → StepsOf ws at_ d S → Gr ws (d + 1) (T ++ S.map mkN) (upd ws (T ++ S.map mkN) at_ d ws.length)

/-- a node as it lies in memory -/
structure Mn where
  c : Int
  up : Int
  fail : Int
  e : Value
instance : Inhabited Mn := ⟨⟨0, 0, 0, .slice none 0 0⟩⟩
def nilM (x : Nd) : Mn := ⟨x.c, x.up, x.fail, .slice none 0 0⟩
def Mn.cells (x : Mn) : List Value := [.int .u8 x.c, .int .i64 x.up, .int .i64 x.fail, x.e]
def cellsM (M : List Mn) : List Value := M.flatMap Mn.cells
theorem cellsM_append (a b : List Mn) : cellsM (a ++ b) = cellsM a ++ cellsM b := by simp [cellsM]
theorem cellsM_cons (x : Mn) (r : List Mn) : cellsM (x :: r) = .int .u8 x.c :: .int .i64 x.up :: .int .i64 x.fail :: x.e :: cellsM r := by simp [cellsM, Mn.cells]
theorem cellsM_length (M : List Mn) : (cellsM M).length = M.length * 4 := by
  induction M with
  | nil => rfl
  | cons x r ih => rw [cellsM_cons]; simp only [List.length_cons, ih]; omega
theorem cellsM_at {M : List Mn} {j : Nat} {x : Mn} (h : M[j]? = some x) : (cellsM M)[j * 4]? = some (.int .u8 x.c) ∧ (cellsM M)[j * 4 + 1]? = some (.int .i64 x.up) ∧ (cellsM M)[j * 4 + 2]? = some (.int .i64 x.fail) ∧ (cellsM M)[j * 4 + 3]? = some x.e := by
  induction M generalizing j with
  | nil => simp at h
  | cons a r ih =>
    rw [cellsM_cons]
    cases j with
    | zero => simp at h; subst h; simp
    | succ j =>
      have := ih (j := j) (by simpa using h)
      rw [show (j + 1) * 4 = j * 4 + 1 + 1 + 1 + 1 by omega]
      simpa using this
theorem cellsM_setE {M : List Mn} {j : Nat} {x : Mn} (h : M[j]? = some x) (e : Value) : (cellsM M).set (j * 4 + 3) e = cellsM (M.set j { x with e := e }) := by
  induction M generalizing j with
  | nil => simp at h
  | cons a r ih =>
    cases j with
    | zero => simp at h; subst h; simp [cellsM_cons]
    | succ j =>
      rw [List.set_cons_succ, cellsM_cons, cellsM_cons, show (j + 1) * 4 + 3 = j * 4 + 3 + 1 + 1 + 1 + 1 by omega, List.set_cons_succ, List.set_cons_succ, List.set_cons_succ, List.set_cons_succ, ih (by simpa using h)]
theorem cellsM_setF {M : List Mn} {j : Nat} {x : Mn} (h : M[j]? = some x) (f : Int) : (cellsM M).set (j * 4 + 2) (.int .i64 f) = cellsM (M.set j { x with fail := f }) := by
  induction M generalizing j with
  | nil => simp at h
  | cons a r ih =>
    cases j with
    | zero => simp at h; subst h; simp [cellsM_cons]
    | succ j =>
      rw [List.set_cons_succ, cellsM_cons, cellsM_cons, show (j + 1) * 4 + 2 = j * 4 + 2 + 1 + 1 + 1 + 1 by omega, List.set_cons_succ, List.set_cons_succ, List.set_cons_succ, List.set_cons_succ, ih (by simpa using h)]
theorem own_node {w : World} {B g n cap : Nat} {M : List Mn} (h : w.ownsRow B 57 4 (.slice (some ⟨g, 0, none⟩) n cap) n (cellsM M)) {j : Nat} {x : Mn} (hj : M[j]? = some x) :
    w.cell? ⟨g, j * 4, none⟩ = some (.int .u8 x.c) ∧ w.cell? ⟨g, j * 4 + 1, none⟩ = some (.int .i64 x.up) ∧ w.cell? ⟨g, j * 4 + 2, none⟩ = some (.int .i64 x.fail) ∧ w.cell? ⟨g, j * 4 + 3, none⟩ = some x.e := by
  have hjl : j < M.length := (List.getElem?_eq_some_iff.1 hj).1
  have hl : M.length = n := by have := h.1; rw [cellsM_length] at this; omega
  obtain ⟨k0, k1, k2, k3⟩ := cellsM_at hj
  exact ⟨(h.cellAt _ (by omega)).trans k0, (h.cellAt _ (by omega)).trans k1, (h.cellAt _ (by omega)).trans k2, (h.cellAt _ (by omega)).trans k3⟩
theorem infoN : (Try.prog.info? 57).map (fun i => (i.zero, i.size, i.bytes)) = some (some (.agg #[.int .u8 0, .int .i64 0, .int .i64 0, .slice none 0 0]), 4, 48) := by kernel_rfl
theorem cell_4_new (w : World) (a b c d : Value) (t : TypeId) : ∀ j u, [a, b, c, d][j]? = some u → (w.alloc (.cells #[a, b, c, d] t)).cell? ((⟨w.heap.size, 0, none⟩ : Addr).add j) = some u := by
  intro j u h
  rw [show ((⟨w.heap.size, 0, none⟩ : Addr).add j) = ⟨w.heap.size, j, none⟩ by simp only [Addr.add]; split <;> simp_all, World.cell?_alloc_new w _ _ j]
  match j, h with
  | 0, h => simpa using h
  | 1, h => simpa using h
  | 2, h => simpa using h
  | 3, h => simpa using h
/-- rows of unlike elements lie apart -/
theorem own_apart {w : World} {B B' n n' size size' : Nat} {e e' : TypeId} {v v' : Value} {xs xs' : List Value} (h : w.ownsRow B e size v n xs) (h' : w.ownsRow B' e' size' v' n' xs') (hne : e ≠ e') : v.ownBlock = none ∨ v.ownBlock ≠ v'.ownBlock := by
  rcases h.2 with ⟨rfl, _⟩ | ⟨g, cap, cur, rfl, _, hg, _⟩
  · exact .inl rfl
  · right
    rcases h'.2 with ⟨rfl, _⟩ | ⟨g', cap', cur', rfl, _, hg', _⟩
    · simp [Value.ownBlock]
    · simp only [Value.ownBlock]
      intro e1
      have e1 : g = g' := by simpa using e1
      rw [e1, hg'] at hg
      exact hne (by simp at hg; exact hg.2.symm)
theorem kids_apart {w : World} {B n size K m : Nat} {e : TypeId} {v : Value} {xs : List Value} {f : Int → Int → Nat} (h : w.ownsRow B e size v n xs) (hk : Kids w K m f) : some K ≠ v.ownBlock := by
  obtain ⟨D, ⟨es, clock, h1, _⟩, _⟩ := hk
  rcases h.2 with ⟨rfl, _⟩ | ⟨g, cap, cur, rfl, _, hg, _⟩
  · simp [Value.ownBlock]
  · simp only [Value.ownBlock]
    intro e1
    have e1 : K = g := by simpa using e1
    rw [e1, hg] at h1
    simp at h1
theorem Kids.kept {w w' : World} {B n : Nat} {f : Int → Int → Nat} {row : Option Nat} (h : Kids w B n f) (hg : w.grownBy w' row) (hne : some B ≠ row) : Kids w' B n f := by
  obtain ⟨D, h1, h2⟩ := h; exact ⟨D, h1.kept hg hne, h2⟩
end Go.Proofs.Ytmmjcbfffcnfiaa
