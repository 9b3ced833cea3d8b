/- Walks: a request at the front (the program's One). -/
import Derived.Test.YtmgealcolofomaaDoorTx
import Derived.Test.YtmgealcolofomaaDoorTy
import Derived.Test.YtmgealcolofomaaDoorMj
import Derived.Test.YtmgealcolofomaaDoorMm
import Derived.Test.YtmgealcolofomaaDoorUA
import Derived.Test.YtmgealcolofomaaDoorMk
import Derived.Deep.RegionWith
import Derived.BigRegion
/- A variable that holds a request; results of several kinds. -/
namespace Go.Proofs.YtmgealcolofomaaDoor
open Go.RowKit Kb
set_option linter.unusedVariables false
set_option maxRecDepth 20000
open Mh (Fl)

theorem results_cctt {fn : Func} {p p' u u' : Tmp} {ty ty' : TypeId} (h : fn.results = #[.cell p ty, .cell p' ty', .tmp u, .tmp u']) (tmps : Array Value) (w : World) (g g' : Nat) (v v' : Value)
    (hp : tmps.getD p undef = .pointer (some ⟨g, 0, none⟩)) (hl : (loadVar ty ⟨g, 0, none⟩).run Tryd.prog w = .ok v w)
    (hq : tmps.getD p' undef = .pointer (some ⟨g', 0, none⟩)) (hl' : (loadVar ty' ⟨g', 0, none⟩).run Tryd.prog w = .ok v' w) (x : Value) (hx : tmps.getD u undef = x) (y : Value) (hy : tmps.getD u' undef = y) :
    (results fn tmps).run Tryd.prog w = .ok (.tuple #[v, v', x, y]) w := by
  have hp' : tmps[p]?.getD undef = .pointer (some ⟨g, 0, none⟩) := by simpa using hp
  have hq' : tmps[p']?.getD undef = .pointer (some ⟨g', 0, none⟩) := by simpa using hq
  have hx' : tmps[u]?.getD undef = x := by simpa using hx
  have hy' : tmps[u']?.getD undef = y := by simpa using hy
  simp [results, h, hp', hq', hx', hy', asAddr, hl, hl', Sem.run_bind, Result.andThen]
theorem results_ctt9 {fn : Func} {p u u' : Tmp} {ty : TypeId} (h : fn.results = #[.cell p ty, .tmp u, .tmp u']) (tmps : Array Value) (w : World) (g : Nat) (v : Value)
    (hp : tmps.getD p undef = .pointer (some ⟨g, 0, none⟩)) (hl : (loadVar ty ⟨g, 0, none⟩).run Tryd.prog w = .ok v w) (x : Value) (hx : tmps.getD u undef = x) (y : Value) (hy : tmps.getD u' undef = y) :
    (results fn tmps).run Tryd.prog w = .ok (.tuple #[v, x, y]) w := by
  have hp' : tmps[p]?.getD undef = .pointer (some ⟨g, 0, none⟩) := by simpa using hp
  have hx' : tmps[u]?.getD undef = x := by simpa using hx
  have hy' : tmps[u']?.getD undef = y := by simpa using hy
  simp [results, h, hp', hx', hy', asAddr, hl]
/-- a request's value -/
def reqV (m t : List UInt8) (v : Value) (b : List UInt8) : Value := .agg #[.string (mk m), .string (mk t), v, .string (mk b)]
def QX (w : World) (base g : Nat) (a b : ByteArray) (v : Value) (d : ByteArray) : Prop := w.ownsRow base 26 4 (.slice (some ⟨g, 0, none⟩) 1 1) 1 [.string a, .string b, v, .string d]
section
variable {w w' : World} {base g : Nat} {a b d : ByteArray} {v : Value}
theorem QX.cells (h : QX w base g a b v d) : w.cell? ⟨g, 0, none⟩ = some (.string a) ∧ w.cell? ⟨g, 1, none⟩ = some (.string b) ∧ w.cell? ⟨g, 2, none⟩ = some v ∧ w.cell? ⟨g, 3, none⟩ = some (.string d) :=
  ⟨World.ownsRow.cellAt h 0 (by omega), World.ownsRow.cellAt h 1 (by omega), World.ownsRow.cellAt h 2 (by omega), World.ownsRow.cellAt h 3 (by omega)⟩
theorem QX.frozen (h : QX w base g a b v d) : w.frozen? ⟨g, 0, none⟩ = false ∧ w.frozen? ⟨g, 1, none⟩ = false ∧ w.frozen? ⟨g, 2, none⟩ = false ∧ w.frozen? ⟨g, 3, none⟩ = false :=
  ⟨World.ownsRow.frozenAt h 0, World.ownsRow.frozenAt h 1, World.ownsRow.frozenAt h 2, World.ownsRow.frozenAt h 3⟩
theorem QX.lt (h : QX w base g a b v d) : base ≤ g ∧ g < w.heap.size := World.ownsRow.lt h g rfl
theorem QX.below (h : QX w base g a b v d) (b' : Below w.heap.size w w') : QX w' base g a b v d := own_below h b'
theorem QX.kept (h : QX w base g a b v d) {row : Option Nat} (k : w.grownBy w' row) (hne : row ≠ some g) : QX w' base g a b v d := World.ownsRow.kept h k (.inr (fun e => hne (by rw [← e]; rfl)))
theorem QX.new (W : World) (hB : base ≤ W.heap.size) (a b : ByteArray) (o : Option Addr) (n c : Nat) (d : ByteArray) : QX (W.alloc (.cells #[.string a, .string b, .slice o n c, .string d] 26)) base W.heap.size a b (.slice o n c) d :=
  World.ownsRow_lit (e := 26) (size := 4) (base := base) W #[.string a, .string b, .slice o n c, .string d] 1 hB (by unfold maxLen; omega) rfl
end
def putQ (w : World) (g : Nat) (a b : ByteArray) (v : Value) (d : ByteArray) : World := (((w.setCell ⟨g, 0, none⟩ (.string a)).setCell ⟨g, 1, none⟩ (.string b)).setCell ⟨g, 2, none⟩ v).setCell ⟨g, 3, none⟩ (.string d)
theorem QX.put {w : World} {base g : Nat} {a b d : ByteArray} {v : Value} (h : QX w base g a b v d) (a' b' : ByteArray) (v' : Value) (d' : ByteArray) : QX (putQ w g a' b' v' d') base g a' b' v' d' ∧ w.grownBy (putQ w g a' b' v' d') (some g) := by
  obtain ⟨v0, m0⟩ := World.ownsRow.stored h 0 (.string a')
  obtain ⟨v1, m1⟩ := v0.stored 1 (.string b')
  obtain ⟨v2, m2⟩ := v1.stored 2 v'
  obtain ⟨v3, m3⟩ := v2.stored 3 (.string d')
  exact ⟨v3, ((m0.trans m1).trans m2).trans m3⟩
theorem QX.load {w : World} {base g : Nat} {a b d : ByteArray} {o : Option Addr} {n c : Nat} (h : QX w base g a b (.slice o n c) d) : (loadVar 26 ⟨g, 0, none⟩).run Tryd.prog w = .ok (.agg #[.string a, .string b, .slice o n c, .string d]) w := by
  obtain ⟨fr, hh⟩ := own_one' h
  exact run_loadVar_row w g 26 26 #[.string a, .string b, .slice o n c, .string d] fr _ hh Tryd.underlying26 rfl (by kernel_rfl)
theorem QX.loaded {w : World} {base g : Nat} {a b d : ByteArray} {v : Value} (h : QX w base g a b v d) (a' b' : ByteArray) (o : Option Addr) (n c : Nat) (d' : ByteArray) : (loadVar 26 ⟨g, 0, none⟩).run Tryd.prog (putQ w g a' b' (.slice o n c) d') = .ok (.agg #[.string a', .string b', .slice o n c, .string d']) (putQ w g a' b' (.slice o n c) d') := (h.put a' b' _ d').1.load
/-- a variable that holds three numbers -/
def cells3 (x y z : Int) : List Value := [.int .i64 x, .int .i64 y, .int .i64 z]
end Go.Proofs.YtmgealcolofomaaDoor

/- Walks: are two requests the same? -/
namespace Go.Proofs.YtmgealcolofomaaDoor
open Go.RowKit Kb
set_option linter.unusedVariables false
set_option maxRecDepth 20000
open Mh (Fl)
theorem eq_tq (a : ByteArray) : (a.toList == a.toList) = true := by simp
end Go.Proofs.YtmgealcolofomaaDoor

/- Walks: bounds, a head's end, a body (the program's); bounds (the document's). -/
namespace Go.Proofs.YtmgealcolofomaaDoor
open Go.RowKit Kb
set_option linter.unusedVariables false
set_option maxRecDepth 20000
open Mh (Fl)

/-- bounds' value -/
def bndV (hd bd ar : Int) : Value := .agg #[.int .i64 hd, .int .i64 bd, .int .i64 ar]
namespace On
/-- how many bytes the head has, or what is wrong -/
def sizeP (hd : Nat) (s : L8) : Int × Int := if endAt hd s = -1 then (0, if hd ≤ s.length then 5 else 7) else (endAt hd s + 4, 0)
end On
end Go.Proofs.YtmgealcolofomaaDoor

/- Walks: a body, a head and its body's size (the program's). -/
namespace Go.Proofs.YtmgealcolofomaaDoor
open Go.RowKit Kb
set_option linter.unusedVariables false
set_option maxRecDepth 20000
open Mh (Fl)

/-- a head's variable and a body's, one behind the other -/
structure HB2 (N : Nat) (w : World) (W : World) : Prop where
  hx : ∃ a b v, HX W N N a b v
  bx : ∃ x y, BX W N (N + 1) x y
  size : w.heap.size = N
  bel : Below N w W
theorem HB2.new (w : World) : HB2 w.heap.size w ((w.alloc (.cells #[.string ⟨#[]⟩, .string ⟨#[]⟩, .slice none 0 0] 24)).alloc (.cells #[.int .i64 0, .int .i64 0] 52)) := by
  have b1 := (Below.refl w.heap.size w).alloc (Nat.le_refl _) (.cells #[.string ⟨#[]⟩, .string ⟨#[]⟩, .slice none 0 0] 24)
  have X := HX.new (base := w.heap.size) w (Nat.le_refl _) ⟨#[]⟩ ⟨#[]⟩ none 0 0
  obtain ⟨W1, hW1⟩ : ∃ W, w.alloc (.cells #[.string ⟨#[]⟩, .string ⟨#[]⟩, .slice none 0 0] 24) = W := ⟨_, rfl⟩
  have hs : W1.heap.size = w.heap.size + 1 := by rw [← hW1]; simp
  rw [hW1] at b1 X ⊢
  have b2 : Below W1.heap.size W1 _ := (Below.refl _ W1).alloc (Nat.le_refl _) (.cells #[.int .i64 0, .int .i64 0] 52)
  have Y := BX.new (base := w.heap.size) W1 (by omega) 0 0
  rw [hs] at Y
  exact ⟨⟨_, _, _, X.below b2⟩, ⟨_, _, Y⟩, rfl, bel_trans b1 b2⟩
theorem HB2.below {N : Nat} {w W W' : World} (h : HB2 N w W) (b : Below W.heap.size W W') : HB2 N w W' := by
  obtain ⟨⟨a, b', v, hx⟩, ⟨x, y, hy⟩, hs, hb⟩ := h
  exact ⟨⟨a, b', v, hx.below b⟩, ⟨x, y, hy.below b⟩, hs, by rw [← hs] at hb ⊢; exact bel_trans hb b⟩
theorem HB2.frozen {N : Nat} {w W : World} (h : HB2 N w W) : (W.frozen? ⟨N, 0, none⟩ = false ∧ W.frozen? ⟨N, 1, none⟩ = false ∧ W.frozen? ⟨N, 2, none⟩ = false) ∧ W.frozen? ⟨N + 1, 0, none⟩ = false ∧ W.frozen? ⟨N + 1, 1, none⟩ = false := by
  obtain ⟨⟨a, b', v, hx⟩, ⟨x, y, hy⟩, hs, hb⟩ := h
  exact ⟨hx.frozen, hy.frozen⟩
theorem HB2.cells {N : Nat} {w W : World} (h : HB2 N w W) : ∃ (a b : ByteArray) (v : Value) (x y : Int), (W.cell? ⟨N, 0, none⟩ = some (.string a) ∧ W.cell? ⟨N, 1, none⟩ = some (.string b) ∧ W.cell? ⟨N, 2, none⟩ = some v) ∧ W.cell? ⟨N + 1, 0, none⟩ = some (.int .i64 x) ∧ W.cell? ⟨N + 1, 1, none⟩ = some (.int .i64 y) := by
  obtain ⟨⟨a, b', v, hx⟩, ⟨x, y, hy⟩, hs, hb⟩ := h
  exact ⟨a, b', v, x, y, hx.cells, hy.cells⟩
theorem HB2.put {N : Nat} {w W : World} (h : HB2 N w W) (a b : ByteArray) (o : Option Addr) (n c : Nat) (x y : Int) :
    (loadVar 24 ⟨N, 0, none⟩).run Tryd.prog (putB (putH W N a b (.slice o n c)) (N + 1) x y) = .ok (.agg #[.string a, .string b, .slice o n c]) (putB (putH W N a b (.slice o n c)) (N + 1) x y)
    ∧ (loadVar 52 ⟨N + 1, 0, none⟩).run Tryd.prog (putB (putH W N a b (.slice o n c)) (N + 1) x y) = .ok (.agg #[.int .i64 x, .int .i64 y]) (putB (putH W N a b (.slice o n c)) (N + 1) x y)
    ∧ Below N w (putB (putH W N a b (.slice o n c)) (N + 1) x y)
    ∧ (∀ (B sz' : Nat) (t : TypeId) (v : Value) (l : List Value) (n' : Nat), N + 2 ≤ B → W.ownsRow B t sz' v n' l → (putB (putH W N a b (.slice o n c)) (N + 1) x y).ownsRow B t sz' v n' l)
    ∧ HB2 N w (putB (putH W N a b (.slice o n c)) (N + 1) x y)
    ∧ (loadVar 24 ⟨N, 0, none⟩).run Tryd.prog (putB (putH W N a b (.slice o n c)) (N + 1) x y).drew = .ok (.agg #[.string a, .string b, .slice o n c]) (putB (putH W N a b (.slice o n c)) (N + 1) x y).drew
    ∧ (loadVar 52 ⟨N + 1, 0, none⟩).run Tryd.prog (putB (putH W N a b (.slice o n c)) (N + 1) x y).drew = .ok (.agg #[.int .i64 x, .int .i64 y]) (putB (putH W N a b (.slice o n c)) (N + 1) x y).drew := by
  obtain ⟨⟨a', b', v', hx⟩, ⟨x', y', hy⟩, hs, hb⟩ := h
  obtain ⟨p1, g1⟩ := hx.put a b (.slice o n c) rfl
  have hy1 := hy.kept g1 (by intro e; have := Option.some.inj e; omega)
  obtain ⟨p2, g2⟩ := hy1.put x y
  have p1' := p1.kept g2 (by intro e; have := Option.some.inj e; omega)
  have bl : Below N w (putB (putH W N a b (.slice o n c)) (N + 1) x y) := (hb.grown g1 (by rw [← hs]; exact hb.size) (fun q hq => by have := Option.some.inj hq; omega)).grown g2 (by have h1 := hb.size; have h2 := g1.size; omega) (fun q hq => by have := Option.some.inj hq; omega)
  refine ⟨p1'.load, hy1.loaded x y, bl, ?_, ⟨⟨_, _, _, p1'⟩, ⟨_, _, p2⟩, hs, bl⟩, (p1'.below (Below.refl _ _).drew).load, (p2.below (Below.refl _ _).drew).load⟩
  intro B sz' t v l n' hB ho
  have o1 := ho.kept g1 (.inr (fun e => by have := (ho.lt _ e).1; omega))
  exact o1.kept g2 (.inr (fun e => by have := (o1.lt _ e).1; omega))
namespace On
/-- how a head is told -/
def tellH : Except Int ((L8 × L8 × List Fl) × (Int × Int) × Nat) → (L8 × L8 × List Fl) × (Int × Int) × Int × Int
  | .error e => (([], [], []), (0, 0), 0, e)
  | .ok (h, z, n) => (h, z, n, 0)
end On
end Go.Proofs.YtmgealcolofomaaDoor

namespace Go.Proofs.YtmgealcolofomaaDoor
open Go.RowKit Kb
set_option linter.unusedVariables false
set_option maxRecDepth 20000
open Mh (Fl)
namespace On
/-- how a request is told -/
def tellQ : Except Int (Rq × Nat) → Rq × Int × Int
  | .error e => (([], [], [], []), 0, e)
  | .ok (q, n) => (q, n, 0)
/-- Check first -/
def oneB (hd bd ar : Int) (s : L8) : Except Int (Rq × Nat) := if bnd hd bd ar ≠ 0 then .error (bnd hd bd ar) else one hd.toNat bd s
theorem bnd_ok {hd bd ar : Int} (h : bnd hd bd ar = 0) : (30 ≤ hd ∧ hd ≤ 4096) ∧ (0 ≤ bd ∧ bd ≤ 4096) ∧ 1 ≤ ar ∧ ar ≤ 40 := by
  unfold bnd at h
  split at h
  · assumption
  · cases h
theorem one_len {hd : Nat} {bd : Int} {s : L8} {a b t : L8} {fs : List Fl} {n z : Int} (h : tellQ (one hd bd s) = ((a, b, fs, t), n, z)) : fs.length ≤ 4398046511104 := by
  rcases ho : one hd bd s with e | ⟨q, k⟩
  · rw [ho] at h
    dsimp only [tellQ] at h
    injection h with e1 e2; injection e1 with e1 e3; injection e3 with e3 e4; injection e4 with e4 e5
    rw [← e4]; decide
  · rw [ho] at h
    dsimp only [tellQ] at h
    injection h with e1 e2
    unfold one at ho
    rcases hp : headP hd s with e | ⟨⟨a', b', fs'⟩, z', m⟩
    · rw [hp] at ho; cases ho
    · rw [hp] at ho
      obtain ⟨i, _, _, _, _, hpa, _⟩ := headP_ok hp
      have hck := (Mh.check_ok (Mh.parse_ok hpa).2.2).2.2.2.1
      dsimp only at ho hck
      split at ho
      · cases ho
      · cases ho
        injection e1 with e1 e3; injection e3 with e3 e4; injection e4 with e4 e5
        rw [← e4]; omega
theorem ans_ge (l : L8) : 0 ≤ (Num.ans 10 9 l).1 := by
  unfold Num.ans
  split
  · exact Int.le_refl _
  · split
    · exact Int.le_refl _
    · rename_i n h
      exact (Num.num_bd 10 (by omega) (by omega) l.length _ _ rfl h).1
theorem sz_ge (fs : List Fl) : (Cu.sizeOf fs).1 = 2 → 0 ≤ (Cu.sizeOf fs).2.1 := by
  intro h
  unfold Cu.sizeOf Cu.sizeE at h ⊢
  split at h
  · cases h
  rename_i h1
  rw [if_neg h1]
  split at h
  · rename_i h2
    rw [if_pos h2]
    unfold Cu.lens at h ⊢
    split at h
    · rename_i h3
      rw [if_pos h3]
      split at h
      · cases h
      · rename_i h4
        rw [if_neg h4]
        dsimp only
        exact ans_ge _
    · cases h
  rename_i h2
  rw [if_neg h2]
  split at h
  · rename_i h3
    unfold Cu.cods at h
    split at h <;> cases h
  · cases h
end On
theorem HB2.put2 {N : Nat} {w W : World} (h : HB2 N w W) (a b : ByteArray) (v : Value) (hv : v.oneCell' = true) (x y : Int) :
    HX (putB (putH W N a b v) (N + 1) x y) N N a b v ∧ BX (putB (putH W N a b v) (N + 1) x y) N (N + 1) x y ∧ Below N w (putB (putH W N a b v) (N + 1) x y) := by
  obtain ⟨⟨a', b', v', hx⟩, ⟨x', y', hy⟩, hs, hb⟩ := h
  obtain ⟨p1, g1⟩ := hx.put a b v hv
  have hy1 := hy.kept g1 (by intro e; have := Option.some.inj e; omega)
  obtain ⟨p2, g2⟩ := hy1.put x y
  have p1' := p1.kept g2 (by intro e; have := Option.some.inj e; omega)
  exact ⟨p1', p2, (hb.grown g1 (by rw [← hs]; exact hb.size) (fun q hq => by have := Option.some.inj hq; omega)).grown g2 (by have h1 := hb.size; have h2 := g1.size; omega) (fun q hq => by have := Option.some.inj hq; omega)⟩
/-- bounds in a variable, and a request's variable -/
structure QB (N : Nat) (w : World) (hd bd ar : Int) (W : World) : Prop where
  bx : W.cell? ⟨N, 0, none⟩ = some (.int .i64 hd) ∧ W.cell? ⟨N, 1, none⟩ = some (.int .i64 bd) ∧ W.cell? ⟨N, 2, none⟩ = some (.int .i64 ar)
  qx : ∃ a b v d, QX W N (N + 1) a b v d
  size : w.heap.size = N
  bel : Below N w W
theorem QB.below {N : Nat} {w W W' : World} {hd bd ar : Int} (h : QB N w hd bd ar W) (b : Below W.heap.size W W') : QB N w hd bd ar W' := by
  obtain ⟨⟨h0, h1, h2⟩, ⟨a, b', v, d, hx⟩, hs, hb⟩ := h
  have hl : N < W.heap.size := by have := hx.lt.2; omega
  exact ⟨⟨cell_below h0 hl b, cell_below h1 hl b, cell_below h2 hl b⟩, ⟨a, b', v, d, hx.below b⟩, hs, by rw [← hs] at hb ⊢; exact bel_trans hb b⟩
theorem QB.frozen {N : Nat} {w W : World} {hd bd ar : Int} (h : QB N w hd bd ar W) : W.frozen? ⟨N + 1, 0, none⟩ = false ∧ W.frozen? ⟨N + 1, 1, none⟩ = false ∧ W.frozen? ⟨N + 1, 2, none⟩ = false ∧ W.frozen? ⟨N + 1, 3, none⟩ = false := by
  obtain ⟨_, ⟨a, b', v, d, hx⟩, hs, hb⟩ := h
  exact hx.frozen
theorem QB.cells {N : Nat} {w W : World} {hd bd ar : Int} (h : QB N w hd bd ar W) : ∃ (a b : ByteArray) (v : Value) (d : ByteArray), W.cell? ⟨N + 1, 0, none⟩ = some (.string a) ∧ W.cell? ⟨N + 1, 1, none⟩ = some (.string b) ∧ W.cell? ⟨N + 1, 2, none⟩ = some v ∧ W.cell? ⟨N + 1, 3, none⟩ = some (.string d) := by
  obtain ⟨_, ⟨a, b', v, d, hx⟩, hs, hb⟩ := h
  exact ⟨a, b', v, d, hx.cells⟩
theorem QB.put {N : Nat} {w W : World} {hd bd ar : Int} (h : QB N w hd bd ar W) (a b : ByteArray) (o : Option Addr) (n c : Nat) (d : ByteArray) :
    (loadVar 26 ⟨N + 1, 0, none⟩).run Tryd.prog (putQ W (N + 1) a b (.slice o n c) d) = .ok (.agg #[.string a, .string b, .slice o n c, .string d]) (putQ W (N + 1) a b (.slice o n c) d)
    ∧ Below N w (putQ W (N + 1) a b (.slice o n c) d)
    ∧ (∀ (B sz' : Nat) (t : TypeId) (v : Value) (l : List Value) (n' : Nat), N + 2 ≤ B → W.ownsRow B t sz' v n' l → (putQ W (N + 1) a b (.slice o n c) d).ownsRow B t sz' v n' l) := by
  obtain ⟨_, ⟨a', b', v', d', hx⟩, hs, hb⟩ := h
  obtain ⟨p1, g1⟩ := hx.put a b (.slice o n c) d
  refine ⟨p1.load, hb.grown g1 (by rw [← hs]; exact hb.size) (fun q hq => by have := Option.some.inj hq; omega), ?_⟩
  intro B sz' t v l n' hB ho
  exact ho.kept g1 (.inr (fun e => by have := (ho.lt _ e).1; omega))
end Go.Proofs.YtmgealcolofomaaDoor
