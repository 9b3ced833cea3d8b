/- Walks: the document's Runs: table and marks in one world. -/
import Derived.Test.YtmgealcolofomaaEo
import Derived.Test.YtmgealcolofomaaZua
namespace Go.Proofs.Ytmgealcolofomaa
open Go.RowKit Kb
set_option linter.unusedVariables false
set_option maxRecDepth 20000
open Sp
theorem HX.below {W W' : World} {gm gh hb : Nat} {m : Bool} {hs : List Bool} (x : HX W gm gh hb m hs) (l1 : gm < W.heap.size) (l2 : gh < W.heap.size) (l3 : hb < W.heap.size) (b : Below W.heap.size W W') : HX W' gm gh hb m hs := by
  have c : ∀ g k, g < W.heap.size → W'.cell? ⟨g, k, none⟩ = W.cell? ⟨g, k, none⟩ := fun g k hg => World.cell?_of_block (a := ⟨g, k, none⟩) (b.block g hg)
  have f : ∀ g k, g < W.heap.size → W'.frozen? ⟨g, k, none⟩ = W.frozen? ⟨g, k, none⟩ := fun g k hg => World.frozen?_of_block (a := ⟨g, k, none⟩) (b.block g hg)
  exact ⟨by rw [c _ _ l1]; exact x.more, by rw [f _ _ l1]; exact x.fm, by rw [c _ _ l2]; exact x.here, by rw [f _ _ l2]; exact x.fh, fun k q hk => by rw [c _ _ l3]; exact x.cell k q hk, fun k => by rw [f _ _ l3]; exact x.froz k, x.n1, x.n2, x.n3⟩
theorem HX.other {W : World} {gm gh hb : Nat} {m : Bool} {hs : List Bool} (x : HX W gm gh hb m hs) {g k : Nat} {v : Value} (n1 : g ≠ gm) (n2 : g ≠ gh) (n3 : g ≠ hb) : HX (W.setCell ⟨g, k, none⟩ v) gm gh hb m hs := by
  have o : ∀ q j, g ≠ q → (W.setCell ⟨g, k, none⟩ v).cell? ⟨q, j, none⟩ = W.cell? ⟨q, j, none⟩ := fun q j hq =>
    World.cell?_setCell_other _ _ _ _ (by intro e; have := congrArg Addr.block e; simp only at this; omega)
  exact ⟨by rw [o _ _ n1]; exact x.more, by rw [World.frozen?_setCell]; exact x.fm, by rw [o _ _ n2]; exact x.here, by rw [World.frozen?_setCell]; exact x.fh, fun j q hk => by rw [o _ _ n3]; exact x.cell j q hk, fun j => by rw [World.frozen?_setCell]; exact x.froz j, x.n1, x.n2, x.n3⟩
theorem Sp.TB.other {W : World} {g h n : Nat} {T : Nat → Nat → Bool} (t : TB W g h n T) {q k : Nat} {v : Value} (hq : h + n < q) : TB (W.setCell ⟨q, k, none⟩ v) g h n T := by
  have o : ∀ a j, q ≠ a → (W.setCell ⟨q, k, none⟩ v).cell? ⟨a, j, none⟩ = W.cell? ⟨a, j, none⟩ := fun a j ha =>
    World.cell?_setCell_other _ _ _ _ (by intro e; have := congrArg Addr.block e; simp only at this; omega)
  have := t.gh
  exact ⟨t.gh, by simpa using t.lt, fun i hi => by rw [o _ _ (by omega)]; exact t.top i hi, fun i j hi hj => by rw [o _ _ (by omega)]; exact t.cell i j hi hj, fun i j hi => by rw [World.frozen?_setCell]; exact t.froz i j hi⟩
/-- the table, the marks and their boxes in one world -/
structure QX (w W : World) (g h n : Nat) (T : Nat → Nat → Bool) (gm gh hb : Nat) (m : Bool) (hs : List Bool) : Prop where
  made ::
  tb : TB W g h n T
  hx : HX W gm gh hb m hs
  bel : Below w.heap.size w W
  lo : w.heap.size ≤ g
  l1 : h + n < gm
  l2 : h + n < gh
  l3 : h + n < hb
  s1 : gm < W.heap.size
  s2 : gh < W.heap.size
  s3 : hb < W.heap.size
theorem QX.setM {w W : World} {g h n gm gh hb : Nat} {T : Nat → Nat → Bool} {m : Bool} {hs : List Bool} (x : QX w W g h n T gm gh hb m hs) (v : Bool) : QX w (W.setCell ⟨gm, 0, none⟩ (.bool v)) g h n T gm gh hb v hs := by
  have := x.lo; have := x.l1; have := x.tb.gh
  exact ⟨x.tb.other x.l1, x.hx.setM v, x.bel.setCell (p := ⟨gm, 0, none⟩) (by show w.heap.size ≤ gm; omega) _, x.lo, x.l1, x.l2, x.l3, by simpa using x.s1, by simpa using x.s2, by simpa using x.s3⟩
theorem QX.setH {w W : World} {g h n gm gh hb : Nat} {T : Nat → Nat → Bool} {m : Bool} {hs : List Bool} (x : QX w W g h n T gm gh hb m hs) {t : Nat} (ht : t < hs.length) : QX w (W.setCell ⟨hb, t, none⟩ (.bool true)) g h n T gm gh hb m (hs.set t true) := by
  have := x.lo; have := x.l3; have := x.tb.gh
  exact ⟨x.tb.other x.l3, x.hx.setH ht, x.bel.setCell (p := ⟨hb, t, none⟩) (by show w.heap.size ≤ hb; omega) _, x.lo, x.l1, x.l2, x.l3, by simpa using x.s1, by simpa using x.s2, by simpa using x.s3⟩
theorem QX.put {w W : World} {g h n gm gh hb : Nat} {T : Nat → Nat → Bool} {m : Bool} {hs : List Bool} (x : QX w W g h n T gm gh hb m hs) {i j : Nat} (hi : i ≤ n) (hj : j ≤ n) (v : Bool) : QX w (W.setCell ⟨h + i, j, none⟩ (.bool v)) g h n (fun a b => if a = i ∧ b = j then v else T a b) gm gh hb m hs := by
  have := x.lo; have := x.l1; have := x.l2; have := x.l3; have := x.tb.gh
  exact ⟨x.tb.put hi hj v, x.hx.other (by omega) (by omega) (by omega), x.bel.setCell (p := ⟨h + i, j, none⟩) (by show w.heap.size ≤ h + i; omega) _, x.lo, x.l1, x.l2, x.l3, by simpa using x.s1, by simpa using x.s2, by simpa using x.s3⟩
theorem QX.below {w W W' : World} {g h n gm gh hb : Nat} {T : Nat → Nat → Bool} {m : Bool} {hs : List Bool} (x : QX w W g h n T gm gh hb m hs) (b : Below W.heap.size W W') : QX w W' g h n T gm gh hb m hs :=
  ⟨x.tb.below b, x.hx.below x.s1 x.s2 x.s3 b, bel_trans x.bel b, x.lo, x.l1, x.l2, x.l3, Nat.lt_of_lt_of_le x.s1 b.size, Nat.lt_of_lt_of_le x.s2 b.size, Nat.lt_of_lt_of_le x.s3 b.size⟩
theorem QX.drew {w W : World} {g h n gm gh hb : Nat} {T : Nat → Nat → Bool} {m : Bool} {hs : List Bool} (x : QX w W g h n T gm gh hb m hs) : QX w W.drew g h n T gm gh hb m hs := x.below (Below.refl _ _).drew
/-- what Runs$1 leaves -/
theorem QX.mark {w W : World} {g h n gm gh hb : Nat} {T : Nat → Nat → Bool} {m : Bool} {hs : List Bool} (x : QX w W g h n T gm gh hb m hs) {t : Nat} (ht : t < hs.length) (v : Bool) : QX w ((W.setCell ⟨gm, 0, none⟩ (.bool v)).setCell ⟨hb, t, none⟩ (.bool true)) g h n T gm gh hb v (hs.set t true) := (x.setM v).setH ht
/-- a new box for more -/
theorem QX.box {w W : World} {g h n gm gh hb : Nat} {T : Nat → Nat → Bool} {m : Bool} {hs : List Bool} (x : QX w W g h n T gm gh hb m hs) (v : Bool) (t : TypeId) : QX w (W.alloc (.cells #[.bool v] t)) g h n T W.heap.size gh hb v hs := by
  have b : Below W.heap.size W (W.alloc (.cells #[.bool v] t)) := (Below.refl _ W).alloc (Nat.le_refl _) _
  have y := x.below b
  have := x.l1; have := x.s1; have := x.s2; have := x.s3
  exact ⟨y.tb, ⟨by rw [World.cell?_alloc_new]; rfl, World.frozen?_alloc_new _ _ _ _, y.hx.here, y.hx.fh, y.hx.cell, y.hx.froz, by omega, by omega, y.hx.n3⟩, y.bel, y.lo, by omega, y.l2, y.l3, by simp, y.s2, y.s3⟩
end Go.Proofs.Ytmgealcolofomaa
