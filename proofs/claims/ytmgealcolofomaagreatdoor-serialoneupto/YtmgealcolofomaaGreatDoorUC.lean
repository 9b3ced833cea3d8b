/- Walks: a reader is fed (the program's Feed). -/
import Derived.Test.YtmgealcolofomaaGreatDoorUB
import Derived.Laws.AppendOwnNone
/- Walks: wide bounds. -/
namespace Go.Proofs.YtmgealcolofomaaGreatDoor
open Go.RowKit Kb
set_option linter.unusedVariables false
set_option maxRecDepth 20000
theorem results_c1 {fn : Func} {p : Tmp} {ty : TypeId} (h : fn.results = #[.cell p ty]) (tmps : Array Value) (w : World) (g : Nat) (z : Value)
    (hp : tmps.getD p undef = .pointer (some ⟨g, 0, none⟩)) (hl : (loadVar ty ⟨g, 0, none⟩).run Tryz.prog w = .ok z w) :
    (results fn tmps).run Tryz.prog w = .ok z w := by
  have hp' : tmps[p]?.getD undef = .pointer (some ⟨g, 0, none⟩) := by simpa using hp
  simp [results, h, hp', asAddr, hl]
def B3 (w : World) (base g : Nat) (x y z : Int) : Prop := w.ownsRow base 34 3 (.slice (some ⟨g, 0, none⟩) 1 1) 1 (cells3 x y z)
section
variable {w w' : World} {base g : Nat} {x y z : Int}
theorem B3.cells (h : B3 w base g x y z) : w.cell? ⟨g, 0, none⟩ = some (.int .i64 x) ∧ w.cell? ⟨g, 1, none⟩ = some (.int .i64 y) ∧ w.cell? ⟨g, 2, none⟩ = some (.int .i64 z) :=
  ⟨World.ownsRow.cellAt h 0 (by omega), World.ownsRow.cellAt h 1 (by omega), World.ownsRow.cellAt h 2 (by omega)⟩
theorem B3.frozen (h : B3 w base g x y z) : w.frozen? ⟨g, 0, none⟩ = false ∧ w.frozen? ⟨g, 1, none⟩ = false ∧ w.frozen? ⟨g, 2, none⟩ = false :=
  ⟨World.ownsRow.frozenAt h 0, World.ownsRow.frozenAt h 1, World.ownsRow.frozenAt h 2⟩
theorem B3.new (W : World) (hB : base ≤ W.heap.size) (x y z : Int) : B3 (W.alloc (.cells #[.int .i64 x, .int .i64 y, .int .i64 z] 34)) base W.heap.size x y z :=
  World.ownsRow_lit (e := 34) (size := 3) (base := base) W #[.int .i64 x, .int .i64 y, .int .i64 z] 1 hB (by unfold maxLen; omega) rfl
end
theorem B3.put {w : World} {base g : Nat} {x y z : Int} (h : B3 w base g x y z) (x' y' z' : Int) :
    (loadVar 34 ⟨g, 0, none⟩).run Tryz.prog (((w.setCell ⟨g, 0, none⟩ (.int .i64 x')).setCell ⟨g, 1, none⟩ (.int .i64 y')).setCell ⟨g, 2, none⟩ (.int .i64 z')) = .ok (bndV x' y' z') (((w.setCell ⟨g, 0, none⟩ (.int .i64 x')).setCell ⟨g, 1, none⟩ (.int .i64 y')).setCell ⟨g, 2, none⟩ (.int .i64 z'))
    ∧ w.grownBy (((w.setCell ⟨g, 0, none⟩ (.int .i64 x')).setCell ⟨g, 1, none⟩ (.int .i64 y')).setCell ⟨g, 2, none⟩ (.int .i64 z')) (some g) := by
  obtain ⟨v0, m0⟩ := World.ownsRow.stored h 0 (.int .i64 x')
  obtain ⟨v1, m1⟩ := v0.stored 1 (.int .i64 y')
  obtain ⟨v2, m2⟩ := v1.stored 2 (.int .i64 z')
  refine ⟨?_, (m0.trans m1).trans m2⟩
  obtain ⟨fr, hh⟩ := own_one' v2
  exact run_loadVar_row _ g 34 34 #[.int .i64 x', .int .i64 y', .int .i64 z'] fr _ hh Tryz.underlying34 rfl (by kernel_rfl)
theorem wide_any (w : World) : Calls Tryz.prog 8 #[] w fun e w' => e = .returned (bndV 4096 4096 40) ∧ Below w.heap.size w w' := by
  have X0 := hide (B3.new (base := w.heap.size) w (Nat.le_refl _) 0 0 0)
  have b0 := hide ((Below.refl w.heap.size w).alloc (Nat.le_refl _) (.cells #[.int .i64 0, .int .i64 0, .int .i64 0] 34))
  obtain ⟨W0, hW0⟩ : ∃ W, w.alloc (.cells #[.int .i64 0, .int .i64 0, .int .i64 0] 34) = W := ⟨_, rfl⟩
  rw [hW0] at X0 b0
  obtain ⟨y0, y1, y2⟩ := (unhide X0).cells
  obtain ⟨f0, f1, f2⟩ := (unhide X0).frozen
  obtain ⟨l, g⟩ := (unhide X0).put 4096 4096 40
  have L := hide l
  have HB := hide ((unhide b0).grown g (unhide b0).size (fun q hq => by have := Option.some.inj hq; omega))
  clear l g
  go_enter Tryz.func8, Tryz.ntmps8
  go_wp2_with fail
  (try simp only [Exit.inBlock, Exit.then])
  refine bodyPost_ret_by (v := bndV 4096 4096 40) ?_ rfl ⟨rfl, unhide HB⟩
  refine results_c1 (p := 0) (ty := 34) ?_ _ _ w.heap.size _ ?_ (unhide L) <;> rfl
end Go.Proofs.YtmgealcolofomaaGreatDoor

/- Rows of requests; are two rows of requests the same? -/
namespace Go.Proofs.YtmgealcolofomaaGreatDoor
open Go.RowKit Kb
set_option linter.unusedVariables false
set_option maxRecDepth 20000
open Mh (Fl)

theorem own_apart {w : World} {B B' e e' s s' n n' : Nat} {v v' : Value} {xs ys : List Value} (h : w.ownsRow B e s v n xs) (h' : w.ownsRow B' e' s' v' n' ys) (he : e ≠ e') : v.ownBlock = none ∨ v.ownBlock ≠ v'.ownBlock := by
  rcases h.2 with ⟨rfl, _⟩ | ⟨g, cap, cur, rfl, _, hgb, _⟩
  · exact .inl rfl
  · right
    intro e1
    rcases h'.2 with ⟨rfl, _⟩ | ⟨g', cap', cur', rfl, _, hgb', _⟩
    · simp [Value.ownBlock] at e1
    · have : g = g' := by simpa [Value.ownBlock] using e1
      subst this
      have := Option.some.inj (hgb.symm.trans hgb')
      injection this with a b c
      exact he b
theorem cell_four_new (w : World) (x y z u : Value) (t : TypeId) : ∀ j v, [x, y, z, u][j]? = some v → (w.alloc (.cells #[x, y, z, u] t)).cell? ((⟨w.heap.size, 0, none⟩ : Addr).add j) = some v := by
  intro j v hj
  match j, hj with
  | 0, hj => simp at hj; subst hj; simp [Addr.add]
  | 1, hj => simp at hj; subst hj; simp [Addr.add]
  | 2, hj => simp at hj; subst hj; simp [Addr.add]
  | 3, hj => simp at hj; subst hj; simp [Addr.add]
  | (j + 4), hj => simp at hj
/-- a request, and its fields' slice -/
abbrev RV := On.Rq × Value
def qCells (p : RV) : List Value := [.string (mk p.1.1), .string (mk p.1.2.1), p.2, .string (mk p.1.2.2.2)]
def cellsQ (l : List RV) : List Value := l.flatMap qCells
theorem cellsQ_append (a b : List RV) : cellsQ (a ++ b) = cellsQ a ++ cellsQ b := by simp [cellsQ]
theorem cellsQ_cons (a : RV) (r : List RV) : cellsQ (a :: r) = .string (mk a.1.1) :: .string (mk a.1.2.1) :: a.2 :: .string (mk a.1.2.2.2) :: cellsQ r := by simp [cellsQ, qCells]
theorem cellsQ_at {l : List RV} {j : Nat} {p : RV} (h : l[j]? = some p) : (cellsQ l)[j * 4]? = some (.string (mk p.1.1)) ∧ (cellsQ l)[j * 4 + 1]? = some (.string (mk p.1.2.1)) ∧ (cellsQ l)[j * 4 + 2]? = some p.2 ∧ (cellsQ l)[j * 4 + 3]? = some (.string (mk p.1.2.2.2)) := by
  induction l generalizing j with
  | nil => simp at h
  | cons a r ih =>
    rw [cellsQ_cons]
    cases j with
    | zero => simp at h; subst h; simp
    | succ j =>
      have := ih (j := j) (by simpa using h)
      rw [show (j + 1) * 4 = j * 4 + 1 + 1 + 1 + 1 by omega]
      simpa using this
theorem infoQ : (Tryz.prog.info? 26).map (fun i => (i.zero, i.size, i.bytes)) = some (some (.agg #[.string ByteArray.empty, .string ByteArray.empty, .slice none 0 0, .string ByteArray.empty]), 4, 72) := by kernel_rfl
theorem typesQ : (39 : Nat) ≠ 26 := by decide
/-- a slice that holds these requests, each with its fields in a row of its own -/
structure Reqs (w : World) (B : Nat) (V : Value) (l : List RV) : Prop where
  made ::
  own : w.ownsRow B 26 4 V l.length (cellsQ l)
  rows : ∀ p ∈ l, w.ownsRow B 39 2 p.2 p.1.2.2.1.length (cellsF p.1.2.2.1) ∧ p.1.2.2.1.length ≤ 4398046511104
theorem Reqs.nil (w : World) (B : Nat) : Reqs w B (.slice none 0 0) [] := ⟨World.ownsRow_nil _ _ _ _, by simp⟩
theorem Reqs.below {w w' : World} {B : Nat} {V : Value} {l : List RV} (h : Reqs w B V l) (b : Below w.heap.size w w') : Reqs w' B V l :=
  ⟨own_below h.own b, fun p hp => ⟨own_below (h.rows p hp).1 b, (h.rows p hp).2⟩⟩
theorem Reqs.mono {w : World} {B B' : Nat} {V : Value} {l : List RV} (h : Reqs w B V l) (b : B' ≤ B) : Reqs w B' V l :=
  ⟨own_mono2 h.own b, fun p hp => ⟨own_mono2 (h.rows p hp).1 b, (h.rows p hp).2⟩⟩
/-- one more behind -/
theorem Reqs.push {w w' : World} {B : Nat} {V V' : Value} {l m : List RV} (h : Reqs w B V l) (hm : ∀ p ∈ m, w.ownsRow B 39 2 p.2 p.1.2.2.1.length (cellsF p.1.2.2.1) ∧ p.1.2.2.1.length ≤ 4398046511104)
    (ho : w'.ownsRow B 26 4 V' (l.length + m.length) (cellsQ l ++ cellsQ m)) (hg : w.grownBy w' V.ownBlock) : Reqs w' B V' (l ++ m) := by
  refine ⟨by rw [List.length_append, cellsQ_append]; exact ho, fun p hp => ?_⟩
  have : w.ownsRow B 39 2 p.2 p.1.2.2.1.length (cellsF p.1.2.2.1) ∧ p.1.2.2.1.length ≤ 4398046511104 := by
    rcases List.mem_append.1 hp with hp | hp
    · exact h.rows p hp
    · exact hm p hp
  exact ⟨this.1.kept hg (own_apart this.1 h.own typesQ), this.2⟩
theorem Reqs.oneCells {w : World} {B : Nat} {V : Value} {l : List RV} (h : Reqs w B V l) : ∀ u ∈ cellsQ l, u.oneCell' = true := by
  intro u hu
  obtain ⟨p, hp, hu⟩ := List.mem_flatMap.1 hu
  obtain ⟨o, c, hv⟩ := own_forms (h.rows p hp).1
  unfold qCells at hu
  rw [hv] at hu
  simp only [List.mem_cons, List.mem_nil_iff, or_false] at hu
  rcases hu with rfl | rfl | rfl | rfl <;> rfl
theorem Reqs.at_ {w : World} {B : Nat} {V : Value} {l : List RV} (h : Reqs w B V l) {j : Nat} {p : RV} (hj : l[j]? = some p) :
    ∃ g c, V = .slice (some ⟨g, 0, none⟩) l.length c ∧ g < w.heap.size ∧ w.cell? ⟨g, j * 4, none⟩ = some (.string (mk p.1.1)) ∧ w.cell? ⟨g, j * 4 + 1, none⟩ = some (.string (mk p.1.2.1)) ∧ w.cell? ⟨g, j * 4 + 2, none⟩ = some p.2 ∧ w.cell? ⟨g, j * 4 + 3, none⟩ = some (.string (mk p.1.2.2.2)) ∧ Flds w p.2 p.1.2.2.1 := by
  have hj2 : j < l.length := (List.getElem?_eq_some_iff.1 hj).1
  obtain ⟨g, c, hv, hc⟩ := own_form h.own (by omega)
  subst hv
  have hlt : g < w.heap.size := (h.own.lt g rfl).2
  obtain ⟨a0, a1, a2, a3⟩ := cellsQ_at hj
  have hr := h.rows p (List.mem_of_getElem? hj)
  refine ⟨g, c, rfl, hlt, ?_, ?_, ?_, ?_, Flds.own hr.1 hr.2⟩
  · rw [h.own.cellAt (j * 4) (by omega)]; exact a0
  · rw [h.own.cellAt (j * 4 + 1) (by omega)]; exact a1
  · rw [h.own.cellAt (j * 4 + 2) (by omega)]; exact a2
  · rw [h.own.cellAt (j * 4 + 3) (by omega)]; exact a3
end Go.Proofs.YtmgealcolofomaaGreatDoor

/- Walks: all requests at the front of bytes (the program's). -/
namespace Go.Proofs.YtmgealcolofomaaGreatDoor
open Go.RowKit Kb
set_option linter.unusedVariables false
set_option maxRecDepth 20000
open Mh (Fl)
end Go.Proofs.YtmgealcolofomaaGreatDoor

namespace Go.Proofs.YtmgealcolofomaaGreatDoor
open Go.RowKit Kb
set_option linter.unusedVariables false
set_option maxRecDepth 20000
open Mh (Fl)
section
variable {w w' : World} {base g : Nat} {a : ByteArray} {x : Int}
end
def putR (w : World) (g : Nat) (a : ByteArray) (x : Int) : World := (w.setCell ⟨g, 0, none⟩ (.string a)).setCell ⟨g, 1, none⟩ (.int .i64 x)
theorem Reqs.kept {w w' : World} {B : Nat} {V : Value} {l : List RV} {row : Option Nat} (h : Reqs w B V l) (g : w.grownBy w' row) (hne : ∀ q, row = some q → q < B) : Reqs w' B V l :=
  ⟨h.own.kept g (by
    by_cases e : V.ownBlock = row
    · cases hr : row with
      | none => rw [hr] at e; exact .inl e
      | some q => have h1 := hne q hr; rw [hr] at e; have h2 := (h.own.lt q e).1; omega
    · exact .inr e),
   fun p hp => ⟨(h.rows p hp).1.kept g (by
    by_cases e : p.2.ownBlock = row
    · cases hr : row with
      | none => rw [hr] at e; exact .inl e
      | some q => have h1 := hne q hr; rw [hr] at e; have h2 := ((h.rows p hp).1.lt q e).1; omega
    · exact .inr e), (h.rows p hp).2⟩⟩
namespace On
def chkF (hd bd ar : Int) (rest over s : Int) : Int := if bnd hd bd ar ≠ 0 then bnd hd bd ar else if 65536 < rest ∨ 8192 < s then 2 else if over ≠ 0 then 8 else 0
theorem feed_chk (hd bd ar : Int) (rest : L8) (over : Int) (s : L8) : feed hd bd ar rest over s = if chkF hd bd ar rest.length over s.length ≠ 0 then ((rest, over), [], chkF hd bd ar rest.length over s.length) else if (all hd.toNat bd (rest ++ s)).2.2 = 7 then (((all hd.toNat bd (rest ++ s)).2.1, 0), (all hd.toNat bd (rest ++ s)).1, 0)
    else (([], (all hd.toNat bd (rest ++ s)).2.2), (all hd.toNat bd (rest ++ s)).1, (all hd.toNat bd (rest ++ s)).2.2) := by
  unfold feed chkF
  by_cases h1 : bnd hd bd ar ≠ 0
  · rw [if_pos h1, if_pos h1, if_pos h1]
  · rw [if_neg h1, if_neg h1]
    by_cases h2 : 65536 < rest.length ∨ 8192 < s.length
    · have h2' : (65536 : Int) < rest.length ∨ (8192 : Int) < s.length := by omega
      rw [if_pos h2, if_pos h2', if_pos (show (2 : Int) ≠ 0 by decide)]
    · have h2' : ¬ ((65536 : Int) < rest.length ∨ (8192 : Int) < s.length) := by omega
      rw [if_neg h2, if_neg h2']
      by_cases h3 : over ≠ 0
      · rw [if_pos h3, if_pos h3, if_pos (show (8 : Int) ≠ 0 by decide)]
      · rw [if_neg h3, if_neg h3, if_neg (show ¬ (0 : Int) ≠ 0 by decide)]
theorem chkF_ok {hd bd ar rest over s : Int} (h : chkF hd bd ar rest over s = 0) : bnd hd bd ar = 0 ∧ rest ≤ 65536 ∧ s ≤ 8192 ∧ over = 0 := by
  unfold chkF at h
  split at h
  · rename_i h1; exact absurd h h1
  · rename_i h1
    split at h
    · cases h
    · rename_i h2
      split at h
      · cases h
      · rename_i h3
        exact ⟨by simpa using h1, by omega, by omega, by simpa using h3⟩
end On
end Go.Proofs.YtmgealcolofomaaGreatDoor
