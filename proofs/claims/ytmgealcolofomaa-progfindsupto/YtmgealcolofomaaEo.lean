/- Walks: the marks of the document's Runs in memory; the closure that marks one. -/
import Derived.Test.YtmgealcolofomaaEm
import Derived.Test.YtmgealcolofomaaEn
namespace Go.Proofs.Ytmgealcolofomaa
open Go.RowKit Kb
set_option linter.unusedVariables false
set_option maxRecDepth 20000
/-- the boxes of more (gm) and here (gh), and the row of marks (hb) -/
structure HX (W : World) (gm gh hb : Nat) (m : Bool) (h : List Bool) : Prop where
  made ::
  more : W.cell? ⟨gm, 0, none⟩ = some (.bool m)
  fm : W.frozen? ⟨gm, 0, none⟩ = false
  here : W.cell? ⟨gh, 0, none⟩ = some (.slice (some ⟨hb, 0, none⟩) h.length h.length)
  fh : W.frozen? ⟨gh, 0, none⟩ = false
  cell : ∀ k b, h[k]? = some b → W.cell? ⟨hb, k, none⟩ = some (.bool b)
  froz : ∀ k, W.frozen? ⟨hb, k, none⟩ = false
  n1 : gm ≠ gh
  n2 : gm ≠ hb
  n3 : gh ≠ hb
theorem HX.setM {W : World} {gm gh hb : Nat} {m : Bool} {h : List Bool} (x : HX W gm gh hb m h) (v : Bool) : HX (W.setCell ⟨gm, 0, none⟩ (.bool v)) gm gh hb v h := by
  have o : ∀ g k, gm ≠ g → (W.setCell ⟨gm, 0, none⟩ (.bool v)).cell? ⟨g, k, none⟩ = W.cell? ⟨g, k, none⟩ := fun g k hg =>
    World.cell?_setCell_other _ _ _ _ (by intro e; have := congrArg Addr.block e; simp only at this; omega)
  refine ⟨World.cell?_setCell_same' _ _ _ (by rw [x.more]; rfl), by rw [World.frozen?_setCell]; exact x.fm, by rw [o _ _ x.n1]; exact x.here, by rw [World.frozen?_setCell]; exact x.fh, fun k b hk => by rw [o _ _ x.n2]; exact x.cell k b hk, fun k => by rw [World.frozen?_setCell]; exact x.froz k, x.n1, x.n2, x.n3⟩
theorem HX.setH {W : World} {gm gh hb : Nat} {m : Bool} {h : List Bool} (x : HX W gm gh hb m h) {t : Nat} (ht : t < h.length) : HX (W.setCell ⟨hb, t, none⟩ (.bool true)) gm gh hb m (h.set t true) := by
  have o : ∀ g k, (hb ≠ g ∨ t ≠ k) → (W.setCell ⟨hb, t, none⟩ (.bool true)).cell? ⟨g, k, none⟩ = W.cell? ⟨g, k, none⟩ := fun g k hg =>
    World.cell?_setCell_other _ _ _ _ (by intro e; have h1 := congrArg Addr.block e; have h2 := congrArg Addr.off e; simp only at h1 h2; omega)
  have hg := x.cell t h[t] (List.getElem?_eq_getElem ht)
  refine ⟨by rw [o _ _ (.inl x.n2.symm)]; exact x.more, by rw [World.frozen?_setCell]; exact x.fm, by rw [o _ _ (.inl x.n3.symm), List.length_set]; exact x.here, by rw [World.frozen?_setCell]; exact x.fh, fun k b hk => ?_, fun k => by rw [World.frozen?_setCell]; exact x.froz k, x.n1, x.n2, x.n3⟩
  rw [List.getElem?_set] at hk
  split at hk
  · rename_i e; subst e
    (try rw [if_pos ht] at hk)
    cases hk
    exact World.cell?_setCell_same' _ _ _ (by rw [hg]; rfl)
  · rename_i e
    rw [o _ _ (.inr e)]
    exact x.cell k b hk
/-- one is marked -/
theorem runs1_any (W : World) (gm gh hb : Nat) (m b : Bool) (h : List Bool) (t : Nat) (x : HX W gm gh hb m h) (hb' : h[t]? = some b) :
    Calls Try.prog 15 (#[.int .i64 t] ++ #[.pointer (some ⟨gm, 0, none⟩), .pointer (some ⟨gh, 0, none⟩)]) W fun e W' => (∃ v, e = .returned v) ∧ HX W' gm gh hb (m || !b) (h.set t true) ∧ W' = (W.setCell ⟨gm, 0, none⟩ (.bool (m || !b))).setCell ⟨hb, t, none⟩ (.bool true) := by
  have ht := (List.getElem?_eq_some_iff.1 hb').1
  have htI : (t : Int) < h.length := by omega
  have X1 := x.setM (m || !b)
  have X2 := hide (X1.setH ht)
  have c1 := x.more
  have c2 := x.here
  have c3 := x.cell t b hb'
  have f1 := x.fm
  have d2 := X1.here
  have d3 := X1.cell t b hb'
  have e3 := X1.froz t
  have f3 := x.froz t
  obtain ⟨n, hn⟩ : ∃ n, h.length = n := ⟨_, rfl⟩
  rw [hn] at c2 d2 htI
  clear X1 x hb' ht hn
  cases m <;> cases b <;>
  · simp only [Bool.not_true, Bool.not_false, Bool.or_true, Bool.or_false] at X2 d2 d3 e3 ⊢
    go_enter Try.func15, Try.ntmps15
    go_wp2_with fail
    go_end0
    exact ⟨⟨_, rfl⟩, unhide X2, rfl⟩
end Go.Proofs.Ytmgealcolofomaa
