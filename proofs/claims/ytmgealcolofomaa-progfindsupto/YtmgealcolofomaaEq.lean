/- Walks: the document's Runs: the row of the next place's marks. -/
import Derived.Test.YtmgealcolofomaaEp
namespace Go.Proofs.Ytmgealcolofomaa
open Go.RowKit Kb
set_option linter.unusedVariables false
set_option maxRecDepth 20000
open Sp
/-- a row of marks of one's own -/
structure RW (W : World) (nb : Nat) (nx : List Bool) : Prop where
  made ::
  lt : nb < W.heap.size
  cell : ∀ k b, nx[k]? = some b → W.cell? ⟨nb, k, none⟩ = some (.bool b)
  froz : ∀ k, W.frozen? ⟨nb, k, none⟩ = false
theorem RW.below {W W' : World} {nb : Nat} {nx : List Bool} (x : RW W nb nx) (b : Below W.heap.size W W') : RW W' nb nx := by
  have c : ∀ k, W'.cell? ⟨nb, k, none⟩ = W.cell? ⟨nb, k, none⟩ := fun k => World.cell?_of_block (a := ⟨nb, k, none⟩) (b.block nb x.lt)
  have f : ∀ k, W'.frozen? ⟨nb, k, none⟩ = W.frozen? ⟨nb, k, none⟩ := fun k => World.frozen?_of_block (a := ⟨nb, k, none⟩) (b.block nb x.lt)
  exact ⟨Nat.lt_of_lt_of_le x.lt b.size, fun k q hk => by rw [c]; exact x.cell k q hk, fun k => by rw [f]; exact x.froz k⟩
theorem RW.other {W : World} {nb g k : Nat} {nx : List Bool} {v : Value} (x : RW W nb nx) (hg : g ≠ nb) : RW (W.setCell ⟨g, k, none⟩ v) nb nx :=
  ⟨by simpa using x.lt, fun j q hk => by rw [World.cell?_setCell_other _ _ _ _ (by intro e; have := congrArg Addr.block e; simp only at this; omega)]; exact x.cell j q hk, fun j => by rw [World.frozen?_setCell]; exact x.froz j⟩
theorem RW.set {W : World} {nb : Nat} {nx : List Bool} (x : RW W nb nx) {t : Nat} (ht : t < nx.length) : RW (W.setCell ⟨nb, t, none⟩ (.bool true)) nb (nx.set t true) := by
  refine ⟨by simpa using x.lt, fun k b hk => ?_, fun k => by rw [World.frozen?_setCell]; exact x.froz k⟩
  have hg := x.cell t nx[t] (List.getElem?_eq_getElem ht)
  rw [List.getElem?_set] at hk
  split at hk
  · rename_i e; subst e
    (try rw [if_pos ht] at hk)
    cases hk
    exact World.cell?_setCell_same' _ _ _ (by rw [hg]; rfl)
  · rename_i e
    rw [World.cell?_setCell_other _ _ _ _ (by intro e2; have h2 := congrArg Addr.off e2; simp only at h2; exact e h2)]
    exact x.cell k b hk
theorem RW.new (W : World) (n : Nat) (t : TypeId) : RW (W.alloc (.cells (madeCells #[.bool false] n) t)) W.heap.size (List.replicate n false) := by
  refine ⟨by simp, fun k b hk => ?_, fun k => World.frozen?_alloc_new _ _ _ _⟩
  obtain ⟨hl, e⟩ := List.getElem?_eq_some_iff.1 hk
  rw [List.length_replicate] at hl
  rw [List.getElem_replicate] at e
  subst e
  rw [World.cell?_alloc_new]
  exact made_one (.bool false) n k hl
/-- a cell of a row beside is set -/
theorem QX.beside {w W : World} {g h n gm gh hb : Nat} {T : Nat → Nat → Bool} {m : Bool} {hs : List Bool} (x : QX w W g h n T gm gh hb m hs) {q k : Nat} {v : Value} (hq : h + n < q) (n1 : q ≠ gm) (n2 : q ≠ gh) (n3 : q ≠ hb) : QX w (W.setCell ⟨q, k, none⟩ v) g h n T gm gh hb m hs := by
  have := x.lo; have := x.tb.gh
  exact ⟨x.tb.other hq, x.hx.other n1 n2 n3, x.bel.setCell (p := ⟨q, k, none⟩) (by show w.heap.size ≤ q; omega) _, x.lo, x.l1, x.l2, x.l3, by simpa using x.s1, by simpa using x.s2, by simpa using x.s3⟩
/-- here = next -/
theorem QX.swap {w W : World} {g h n gm gh hb nb : Nat} {T : Nat → Nat → Bool} {m : Bool} {hs nx : List Bool} (x : QX w W g h n T gm gh hb m hs) (r : RW W nb nx) (hq : h + n < nb) (n1 : nb ≠ gm) (n2 : nb ≠ gh) :
    QX w (W.setCell ⟨gh, 0, none⟩ (.slice (some ⟨nb, 0, none⟩) nx.length nx.length)) g h n T gm gh nb m nx := by
  have := x.lo; have := x.tb.gh; have := x.l2
  have r2 := r.other (g := gh) (k := 0) (v := .slice (some ⟨nb, 0, none⟩) nx.length nx.length) (by omega)
  have hn1 := x.hx.n1
  refine ⟨x.tb.other x.l2, ⟨?_, by rw [World.frozen?_setCell]; exact x.hx.fm, World.cell?_setCell_same' _ _ _ (by rw [x.hx.here]; rfl), by rw [World.frozen?_setCell]; exact x.hx.fh, r2.cell, r2.froz, x.hx.n1, by omega, by omega⟩, x.bel.setCell (p := ⟨gh, 0, none⟩) (by show w.heap.size ≤ gh; omega) _, x.lo, x.l1, x.l2, hq, by simpa using x.s1, by simpa using x.s2, by simpa using r.lt⟩
  rw [World.cell?_setCell_other _ _ _ _ (by intro e; have := congrArg Addr.block e; simp only at this; omega)]
  exact x.hx.more
end Go.Proofs.Ytmgealcolofomaa
