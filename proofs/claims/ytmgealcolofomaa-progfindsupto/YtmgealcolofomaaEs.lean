/- Walks: the document's Runs: between the passes there is no box of more. -/
import Derived.Test.YtmgealcolofomaaEq
namespace Go.Proofs.Ytmgealcolofomaa
open Go.RowKit Kb
set_option linter.unusedVariables false
set_option maxRecDepth 20000
open Sp
/-- the table, the box of the marks and the marks -/
structure QY (w W : World) (g h n : Nat) (T : Nat → Nat → Bool) (gh hb : Nat) (hs : List Bool) : Prop where
  made ::
  tb : TB W g h n T
  here : W.cell? ⟨gh, 0, none⟩ = some (.slice (some ⟨hb, 0, none⟩) hs.length hs.length)
  fh : W.frozen? ⟨gh, 0, none⟩ = false
  row : RW W hb hs
  n3 : gh ≠ hb
  bel : Below w.heap.size w W
  lo : w.heap.size ≤ g
  l2 : h + n < gh
  l3 : h + n < hb
  s2 : gh < W.heap.size
theorem QX.toQY {w W : World} {g h n gm gh hb : Nat} {T : Nat → Nat → Bool} {m : Bool} {hs : List Bool} (x : QX w W g h n T gm gh hb m hs) : QY w W g h n T gh hb hs :=
  ⟨x.tb, x.hx.here, x.hx.fh, ⟨x.s3, x.hx.cell, x.hx.froz⟩, x.hx.n3, x.bel, x.lo, x.l2, x.l3, x.s2⟩
theorem QY.below {w W W' : World} {g h n gh hb : Nat} {T : Nat → Nat → Bool} {hs : List Bool} (x : QY w W g h n T gh hb hs) (b : Below W.heap.size W W') : QY w W' g h n T gh hb hs :=
  ⟨x.tb.below b, by rw [World.cell?_of_block (a := ⟨gh, 0, none⟩) (b.block gh x.s2)]; exact x.here, by rw [World.frozen?_of_block (a := ⟨gh, 0, none⟩) (b.block gh x.s2)]; exact x.fh, x.row.below b, x.n3, bel_trans x.bel b, x.lo, x.l2, x.l3, Nat.lt_of_lt_of_le x.s2 b.size⟩
/-- a box for more -/
theorem QY.box {w W : World} {g h n gh hb : Nat} {T : Nat → Nat → Bool} {hs : List Bool} (x : QY w W g h n T gh hb hs) (v : Bool) (t : TypeId) : QX w (W.alloc (.cells #[.bool v] t)) g h n T W.heap.size gh hb v hs := by
  have b : Below W.heap.size W (W.alloc (.cells #[.bool v] t)) := (Below.refl _ W).alloc (Nat.le_refl _) _
  have y := x.below b
  have := x.l2; have := x.s2; have := x.row.lt
  exact ⟨y.tb, ⟨by rw [World.cell?_alloc_new]; rfl, World.frozen?_alloc_new _ _ _ _, y.here, y.fh, y.row.cell, y.row.froz, by omega, by omega, y.n3⟩, y.bel, y.lo, by omega, y.l2, y.l3, by simp, y.s2, y.row.lt⟩
/-- a row and its box are made, its first mark is set -/
theorem QY.new {w W : World} {g h n k : Nat} {T : Nat → Nat → Bool} (t : TB W g h n T) (b : Below w.heap.size w W) (lo : w.heap.size ≤ g) (hk : 0 < k) (t1 t2 : TypeId) :
    QY w (((W.alloc (.cells (madeCells #[.bool false] k) t1)).alloc (.cells #[.slice (some ⟨W.heap.size, 0, none⟩) k k] t2)).setCell ⟨W.heap.size, 0, none⟩ (.bool true)) g h n T (W.heap.size + 1) W.heap.size ((List.replicate k false).set 0 true) := by
  have hlt := t.lt
  have b1 : Below W.heap.size W (W.alloc (.cells (madeCells #[.bool false] k) t1)) := (Below.refl _ W).alloc (Nat.le_refl _) _
  have r1 := RW.new W k t1
  obtain ⟨W1, hW1⟩ : ∃ W1, W.alloc (.cells (madeCells #[.bool false] k) t1) = W1 := ⟨_, rfl⟩
  have hs1 : W1.heap.size = W.heap.size + 1 := by rw [← hW1]; simp
  rw [hW1] at b1 r1 ⊢
  have b2 : Below W1.heap.size W1 (W1.alloc (.cells #[.slice (some ⟨W.heap.size, 0, none⟩) k k] t2)) := (Below.refl _ W1).alloc (Nat.le_refl _) _
  have r2 := r1.below b2
  have c2 : (W1.alloc (.cells #[.slice (some ⟨W.heap.size, 0, none⟩) k k] t2)).cell? ⟨W1.heap.size, 0, none⟩ = some (.slice (some ⟨W.heap.size, 0, none⟩) k k) := by rw [World.cell?_alloc_new]; rfl
  have f2 : (W1.alloc (.cells #[.slice (some ⟨W.heap.size, 0, none⟩) k k] t2)).frozen? ⟨W1.heap.size, 0, none⟩ = false := World.frozen?_alloc_new _ _ _ _
  have tb2 := (t.below b1).below b2
  have bb := bel_trans (bel_trans b b1) b2
  have hs2 : W1.heap.size < (W1.alloc (.cells #[.slice (some ⟨W.heap.size, 0, none⟩) k k] t2)).heap.size := by simp
  obtain ⟨W2, hW2⟩ : ∃ W2, W1.alloc (.cells #[.slice (some ⟨W.heap.size, 0, none⟩) k k] t2) = W2 := ⟨_, rfl⟩
  rw [hW2] at r2 c2 f2 tb2 bb hs2 ⊢
  rw [hs1] at c2 f2 hs2
  have hb := b.size
  refine ⟨tb2.other (by omega), ?_, by rw [World.frozen?_setCell]; exact f2, r2.set (by simpa using hk), by omega, bb.setCell (p := ⟨W.heap.size, 0, none⟩) (by show w.heap.size ≤ W.heap.size; omega) _, lo, by omega, by omega, by simpa using hs2⟩
  rw [World.cell?_setCell_other _ _ _ _ (by intro e; have := congrArg Addr.block e; simp only at this; omega), c2]
  simp
end Go.Proofs.Ytmgealcolofomaa
