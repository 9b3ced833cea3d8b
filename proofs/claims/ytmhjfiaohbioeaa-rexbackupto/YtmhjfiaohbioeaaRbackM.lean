/- What is printed is read as it was, unless it has an RNone: whatever expression is handed in.
   Conditions: what is handed in is of bulk at most 1048576. -/
import Derived.Test.YtmhjfiaohbioeaaHa
import Derived.Test.YtmhjfiaohbioeaaRows
import Derived.Lib.SmallJoins
import Derived.Deep.Slices
import Derived.Deep.Strs
import Derived.Laws.IdiomArrays
import Derived.OpenShut
import Derived.Carry
import Derived.WideShapes
import Derived.Test.YtmhjfiaohbioeaaQd
import Derived.Test.YtmhjfiaohbioeaaKz
import Derived.WalkKit
import Derived.ProofKit
import Derived.ShutString
import Derived.JoinedCond
import Derived.Test.YtmhjfiaohbioeaaJk
import Derived.Test.YtmhjfiaohbioeaaWrap
/- Regular expressions that came in. -/
namespace Go.Proofs.Ytmhjfiaohbioeaa
open Go.RowKit Kb Go.ChangeShapes Go.WideShapes Go.Joins
set_option linter.unusedVariables false
set_option maxRecDepth 20000

theorem bulk_mem {H : Type} {l : List (DataW H)} {d : DataW H} (h : d ∈ l) : Rows.uptoBulk d ≤ Rows.uptoBulkAll l := by
  induction l with
  | nil => cases h
  | cons a r ih =>
    have e : Rows.uptoBulkAll (a :: r) = Rows.uptoBulk a + Rows.uptoBulkAll r := by simp [Rows.uptoBulkAll]
    rw [e]
    rcases List.mem_cons.1 h with rfl | h
    · omega
    · have := ih h; omega
theorem bulk_len {H : Type} (l : List (DataW H)) : l.length ≤ Rows.uptoBulkAll l := by
  induction l with
  | nil => exact Nat.zero_le _
  | cons a r ih =>
    have e : Rows.uptoBulkAll (a :: r) = Rows.uptoBulk a + Rows.uptoBulkAll r := by simp [Rows.uptoBulkAll]
    have : 1 ≤ Rows.uptoBulk a := by
      cases a <;> try simp [Rows.uptoBulk]
      rename_i x; cases x <;> simp [Rows.uptoBulk]
    rw [e, List.length_cons]; omega
theorem cellsRex : Try.prog.cellsOf 27 = 6 := by kernel_rfl
theorem bounds_u64 {a : Int} (h : (Lit.int .u64 a).wf = true) : 0 ≤ a ∧ a ≤ 18446744073709551615 := by
  have h1 : IntKind.u64.min = 0 := by decide
  have h2 : IntKind.u64.max = 18446744073709551615 := by decide
  simp [Lit.wf, h1, h2] at h; exact h
instance : Inhabited Rx := ⟨.mk 0 ⟨0, 0, 0, 0⟩ []⟩
theorem kd_of {W : World} {a : Addr} {len cap m : Nat} {f : Nat → Rx} (hl : len ≤ cap) (hlen : len ≤ 1048576) (hm : len ≤ m)
    (h : ∀ i, i < m → (∃ e, (W.cell? (a.add (i * 6)) = some (.int .i64 (f i).k) ∧ W.cell? ((a.add (i * 6)).add 1) = some (.int .u64 (f i).s.a) ∧ W.cell? ((a.add (i * 6)).add 2) = some (.int .u64 (f i).s.b) ∧ W.cell? ((a.add (i * 6)).add 3) = some (.int .u64 (f i).s.c) ∧ W.cell? ((a.add (i * 6)).add 4) = some (.int .u64 (f i).s.d) ∧ W.cell? ((a.add (i * 6)).add 5) = some e) ∧ Kd W (f i).ks e) ∧ Fit (f i)) :
    Kd W ((List.range len).map f) (.slice (some a) len cap) := by
  have hlenT : ((List.range len).map f).length = len := by simp
  rw [Kd]
  refine ⟨⟨some a, cap, by rw [hlenT], by rw [hlenT]; exact hl⟩, by rw [hlenT]; omega, fun hne => ?_⟩
  have hlp : 0 < len := by have := List.length_pos_iff.2 hne; rwa [hlenT] at this
  obtain ⟨⟨e, ⟨k0, _⟩, _⟩, _⟩ := h 0 (by omega)
  obtain ⟨b, off, spot⟩ := a
  have hspot : spot = none := by simpa [Addr.add] using World.cell?_spot k0
  subst hspot
  have hb : b < W.heap.size := by have := World.block_lt_of_cell? _ _ k0; simpa [Addr.add] using this
  refine ⟨b, off, cap, by rw [hlenT], hb, fun i hi => ?_⟩
  rw [hlenT] at hi
  obtain ⟨⟨e, ⟨k0, k1, k2, k3, k4, k5⟩, hk⟩, hf⟩ := h i (by omega)
  simp only [add_plain] at k0 k1 k2 k3 k4 k5
  have hx : ((List.range len).map f)[i]'(by rw [hlenT]; exact hi) = f i := by simp
  rw [hx]
  exact ⟨hf, k0, k1, k2, k3, k4, e, k5, hk⟩
set_option maxRecDepth 100000 in
theorem rex_of_cells {H : Type} {enc : TypeId × Value → H} {W : World} (N : Nat) : ∀ {n : Nat} {cs : List Value} {y : DataW H × List MemPlace},
    DataW.trod enc Try.prog W 0 (fun _ => true) true n 27 cs = some y → Rows.uptoBulk y.1 ≤ N → N ≤ 1048576 →
    ∃ r : Rx, ∃ e, cs = [.int .i64 r.k, .int .u64 r.s.a, .int .u64 r.s.b, .int .u64 r.s.c, .int .u64 r.s.d, e] ∧ Fit r ∧ Kd W r.ks e ∧ ∀ q ∈ y.2, q.block < W.heap.size := by
  induction N with
  | zero =>
    intro n cs y hf hk hN
    exfalso
    have : 1 ≤ Rows.uptoBulk y.1 := by
      have := bulk_len [y.1]
      have e : Rows.uptoBulkAll [y.1] = Rows.uptoBulk y.1 := by simp [Rows.uptoBulkAll]
      rw [e] at this; simpa using this
    omega
  | succ N ih =>
    intro n cs y hf hk hN
    obtain ⟨y0, y1, y2, m, hx, hl, t0, t1, t2⟩ := Deep.trod_struct3 Try.underlying27 hf
    rw [cellsRex] at hl
    match cs, hl with
    | [c0, c1, c2, c3, c4, c5], _ =>
      have k3 : Try.prog.cellsOf 3 = 1 := by kernel_rfl
      have ks : Try.prog.cellsOf 24 = 4 := by kernel_rfl
      have ku : Try.prog.cellsOf 22 = 1 := by kernel_rfl
      have ke : Try.prog.cellsOf 25 = 1 := by kernel_rfl
      simp only [k3, ks, ke, List.drop, List.take] at t0 t1 t2
      obtain ⟨a0, e0, rfl, w0⟩ := DataW.trod_int Try.underlying3 t0
      obtain ⟨z0, z1, z2, z3, m2, hz, s0, s1, s2, s3⟩ := trod_array4 Try.underlying24 ku t1
      obtain ⟨b0, f0, rfl, v0⟩ := DataW.trod_int Try.underlying22 s0
      obtain ⟨b1, f1, rfl, v1⟩ := DataW.trod_int Try.underlying22 s1
      obtain ⟨b2, f2, rfl, v2⟩ := DataW.trod_int Try.underlying22 s2
      obtain ⟨b3, f3, rfl, v3⟩ := DataW.trod_int Try.underlying22 s3
      simp at e0 f0 f1 f2 f3
      subst e0 f0 f1 f2 f3 hz hx
      have hb2 : Rows.uptoBulk y2.1 ≤ N := by
        simp only [Rows.uptoBulk, Rows.uptoBulkAll] at hk
        omega
      have hfit : ∀ l, Fit (.mk a0 ⟨b0, b1, b2, b3⟩ l) := fun l => ⟨bounds_i64 w0, bounds_u64 v0, bounds_u64 v1, bounds_u64 v2, bounds_u64 v3⟩
      rcases Deep.open_slice Try.underlying25 t2 with ⟨hcs, h2⟩ | ⟨a, len, cap, mm, n', D, Pl, hcs, _, hl, hm, hmm, h2, hall⟩
      · have e : c5 = .slice none 0 0 := by simpa using hcs
        subst e h2
        exact ⟨.mk a0 ⟨b0, b1, b2, b3⟩ [], _, rfl, hfit _, Kd.nil _, by simp⟩
      · have e : c5 = .slice (some a) len cap := by simpa using hcs
        subst e h2
        simp only [if_true] at hmm
        subst hmm
        rw [cellsRex] at hall
        have hsum : Rows.uptoBulkAll ((List.range len).map D) + Rows.uptoBulkAll ((List.range (mm - len)).map fun j => D (len + j)) + 1 ≤ N := by
          simpa only [Rows.uptoBulk] using hb2
        have hDk : ∀ i, i < mm → Rows.uptoBulk (D i) ≤ N := by
          intro i hi
          by_cases h : i < len
          · have := bulk_mem (l := (List.range len).map D) (d := D i) (List.mem_map.2 ⟨i, List.mem_range.2 h, rfl⟩); omega
          · have := bulk_mem (l := (List.range (mm - len)).map fun j => D (len + j)) (d := D i) (List.mem_map.2 ⟨i - len, List.mem_range.2 (by omega), by rw [show len + (i - len) = i by omega]⟩); omega
        have hlen48 : len ≤ 1048576 := by
          have := bulk_len ((List.range len).map D); rw [List.length_map, List.length_range] at this; omega
        have hnode : ∀ i, i < mm → ∃ x : Rx, ((∃ e, (W.cell? (a.add (i * 6)) = some (.int .i64 x.k) ∧ W.cell? ((a.add (i * 6)).add 1) = some (.int .u64 x.s.a) ∧ W.cell? ((a.add (i * 6)).add 2) = some (.int .u64 x.s.b) ∧ W.cell? ((a.add (i * 6)).add 3) = some (.int .u64 x.s.c) ∧ W.cell? ((a.add (i * 6)).add 4) = some (.int .u64 x.s.d) ∧ W.cell? ((a.add (i * 6)).add 5) = some e) ∧ Kd W x.ks e) ∧ Fit x) ∧ ∀ q ∈ Pl i, q.block < W.heap.size := by
          intro i hi
          obtain ⟨cs', h1, h2⟩ := hall i hi
          obtain ⟨x, e, rfl, hfx, hkx, hbl⟩ := ih h2 (hDk i hi) (by omega)
          obtain ⟨_, _, hc⟩ := World.cells?_some h1
          refine ⟨x, ⟨⟨e, ⟨?_, hc 1 (by omega), hc 2 (by omega), hc 3 (by omega), hc 4 (by omega), hc 5 (by omega)⟩, hkx⟩, hfx⟩, hbl⟩
          have := hc 0 (by omega)
          simpa [Addr.add] using this
        obtain ⟨f, hfn⟩ := Deep.choose_lt (α := Rx) hnode
        refine ⟨.mk a0 ⟨b0, b1, b2, b3⟩ ((List.range len).map f), _, rfl, hfit _, kd_of hl hlen48 hl (fun i hi => (hfn i hi).1), ?_⟩
        intro q hq
        simp only [List.append_nil, List.nil_append, cellsRex] at hq
        rcases List.mem_append.1 hq with hq | hq
        · obtain ⟨i, hi, rfl⟩ := MemPlace.mem_row.1 hq
          obtain ⟨⟨⟨e, ⟨k0, _⟩, _⟩, _⟩, _⟩ := hfn 0 (by omega)
          obtain ⟨b, off, spot⟩ := a
          have hspot : spot = none := by simpa [Addr.add] using World.cell?_spot k0
          subst hspot
          have hb : b < W.heap.size := by have := World.block_lt_of_cell? _ _ k0; simpa [Addr.add] using this
          simpa [MemPlace.block, add_plain] using hb
        · obtain ⟨i, hi, hq⟩ := List.mem_flatMap.1 hq
          exact (hfn i (List.mem_range.1 hi)).2 q hq
theorem laidOutAll : laidOutB Try.prog = true := by kernel_rfl
/-- an expression that came in -/
theorem open_rex_in {H : Type} {enc : TypeId × Value → H} {W : World} {base : Nat} {v : Value} {d : DataW H} {p : List MemPlace}
    (hval : Value.okWide Try.prog W .any base 27 v) (h : DataW.Trod enc Try.prog W 0 (fun _ => true) true 27 v d p) (hk : Rows.uptoBulk d ≤ 1048576) :
    ∃ r, RexV W v r ∧ ∀ x ∈ p, x.block < W.heap.size := by
  obtain ⟨cs, rfl, hcs⟩ := okWide_struct Try.underlying27 hval
  obtain ⟨fuel, hf⟩ := h
  obtain ⟨r, e, h1, h2, h3, h4⟩ := rex_of_cells 1048576 hf hk (Nat.le_refl _)
  refine ⟨r, ⟨⟨e, ?_, h3⟩, h2⟩, h4⟩
  have : cs.toList = _ := h1
  rw [rexV, ← this]
end Go.Proofs.Ytmhjfiaohbioeaa

/- What is printed of an expression with an RNone is refused: plain. -/
namespace Go.Proofs.Ytmhjfiaohbioeaa
open Go.RowKit Kb Pop
set_option linter.unusedVariables false
set_option maxRecDepth 20000

theorem sound_of {x : Ex} : x.Full → x.NoN → x.Sound := by
  induction x with
  | none => intro _ h; exact h
  | emp => intro _ _; trivial
  | beg => intro _ _; trivial
  | en => intro _ _; trivial
  | byte t =>
    intro h _
    refine ⟨h.2, fun h0 => h.1 ?_⟩
    refine bits_ext h.2 ⟨by simp [noSet], by simp [noSet], by simp [noSet], by simp [noSet]⟩ fun j hj => ?_
    rw [cntN_none h0 j hj]
    have : ∀ j ∈ List.range 256, bit noSet j = false := by decide +kernel
    exact (this j (List.mem_range.2 hj)).symm
  | cat a b ha hb => intro h g; exact ⟨ha h.1 g.1, hb h.2 g.2⟩
  | alt a b ha hb => intro h g; exact ⟨ha h.1 g.1, hb h.2 g.2⟩
  | star a ha => intro h g; exact ha h g
/-- all bytes, as items -/
theorem all_heads : headsL (fun _ => true) 256 = [0] := by decide +kernel
theorem all_last : lastR (fun _ => true) 0 = 255 := by
  have h1 := lastR_max (fun _ => true) 255 0 255 (by omega) (by omega) (by omega) (fun _ _ _ => rfl)
  have h2 := (lastR_ge (fun _ => true) 255 0 (by omega)).2 (by omega)
  omega
theorem all_items : itemsP (fun _ => true) 256 = [92, 120, 48, 48, 45, 92, 120, 102, 102] := by
  rw [itemsP_list, all_heads]
  simp only [List.flatMap_cons, List.flatMap_nil, List.append_nil]
  unfold item1
  rw [all_last]
  decide +kernel
theorem noB_form : noB = 91 :: 94 :: (itemsP (fun _ => true) 256 ++ [93]) := by rw [all_items]; rfl
/-- no atom, piece, row, choice is read: ErrSyntax -/
def AtomF (s : ByteArray) (d a : Nat) : Prop := (∃ b, atomR s (grpR s d) a = .err 3 b) ∧ Fb s a ∧ a < s.size
def PieceF (s : ByteArray) (d a : Nat) : Prop := (∃ b, pieceR s (grpR s d) a = .err 3 b) ∧ Fb s a ∧ a < s.size
def RowF (s : ByteArray) (d a : Nat) : Prop := ∃ b, rowR s (grpR s d) a = .err 3 b
def AltF (s : ByteArray) (d a : Nat) : Prop := ∃ b, altR s (grpR s d) a = .err 3 b
theorem AtomF.piece {s : ByteArray} {d a : Nat} (h : AtomF s d a) : PieceF s d a := by
  obtain ⟨⟨b, h1⟩, h2⟩ := h
  exact ⟨⟨b, by rw [pieceR, h1]⟩, h2⟩
theorem PieceF.row {s : ByteArray} {d a : Nat} (h : PieceF s d a) : RowF s d a := by
  obtain ⟨⟨b, h1⟩, h2, h3⟩ := h
  exact ⟨b, by rw [rowR, if_neg (h2.rowE h3), h1]⟩
theorem RowF.alt {s : ByteArray} {d a : Nat} (h : RowF s d a) : AltF s d a := by
  obtain ⟨b, h1⟩ := h
  exact ⟨b, by rw [altR, h1]⟩
theorem RowB.fails {s : ByteArray} {d a m : Nat} {x : Ex} (h : RowB s d a x m) (g : PieceF s d m) : RowF s d a := by
  obtain ⟨⟨b, g1⟩, g2, g3⟩ := g
  exact ⟨b, by rw [h.1 g2.nx, rowL_err (g2.rowE g3) g1]⟩
theorem AltB.fails {s : ByteArray} {d a m : Nat} {x : Ex} (h : AltB s d a x m) (hm : pkB s m = 124) (g : RowF s d (m + 1)) : AltF s d a := by
  obtain ⟨b, g1⟩ := g
  exact ⟨b, by rw [h.1 (by unfold rowE; simp [hm]), altL, if_pos hm, g1]⟩
theorem AltF.bra {s : ByteArray} {d a : Nat} (h1 : pkB s a = 40) (h2 : a < s.size) (h : AltF s d (a + 1)) : AtomF s (d + 1) a := by
  obtain ⟨b, h⟩ := h
  exact ⟨⟨b, by rw [atomR, if_pos h1, grpR, h]⟩, fb_of h1 (by decide), h2⟩
theorem none_fails {s : ByteArray} {d a : Nat} (ha : a ≤ s.size) (h : St s a noB) : AtomF s d a := by
  rw [noB_form] at h
  obtain ⟨k1, l1, h⟩ := h.cons
  obtain ⟨k2, l2, h⟩ := h.cons
  obtain ⟨q', e1, e2⟩ := items_back s (fun _ => true) (a + 1 + 1) (by omega) (by rw [all_heads]; simp) h
  have hz : cntN (fun j => q' j != true) 256 = 0 := by
    rw [cntN_congr (q := fun _ => false) (fun j hj => by rw [e2 j hj]; rfl)]
    decide +kernel
  have hit : itemsR s (a + 1) = (none, a + 1 + 1 + (itemsP (fun _ => true) 256).length) := by
    rw [itemsR, show tkA s (a + 1) 94 = a + 1 + 1 by unfold tkA; rw [if_pos k2], e1, decide_eq_true k2, shutR]
    rw [if_pos hz]
  refine ⟨⟨a + 1 + 1 + (itemsP (fun _ => true) 256).length, ?_⟩, fb_of k1 (by decide), l1⟩
  rw [atomR, if_neg (by rw [k1]; decide), if_pos k1, hit]
/-- refused at each level that fits its kind -/
def Fails (x : Ex) : Prop := ∀ (s : ByteArray) (a d : Nat), x.dp ≤ d → a ≤ s.size → St s a x.tx →
  (x.kind = 1 → AtomF s d a) ∧ (x.kind = 1 ∨ x.kind = 6 → PieceF s d a) ∧ (x.kind ≠ 5 → RowF s d a) ∧ AltF s d a
theorem Fails.brk {x : Ex} (h : Fails x) {s : ByteArray} {a d : Nat} (hd : dk true x.dp ≤ d) (ha : a ≤ s.size) (hs : St s a (brk true x.tx)) : AtomF s d a := by
  unfold Go.Proofs.Ytmhjfiaohbioeaa.brk at hs
  rw [if_pos rfl] at hs
  obtain ⟨k1, l1, h1⟩ := hs.cons
  obtain ⟨h2, h3⟩ := h1.app
  obtain ⟨d', rfl⟩ : ∃ d', d = d' + 1 := ⟨d - 1, by unfold dk at hd; rw [if_pos rfl] at hd; omega⟩
  exact AltF.bra k1 l1 (h s (a + 1) d' (by unfold dk at hd; rw [if_pos rfl] at hd; omega) (by omega) h2).2.2.2
theorem kind_bad {x : Ex} (h : ¬ x.NoN) : x.kind = 1 ∨ x.kind = 4 ∨ x.kind = 5 ∨ x.kind = 6 := by
  cases x <;> simp [Ex.kind, Ex.NoN] at h ⊢
theorem fails_any (x : Ex) : x.Full → ¬ x.NoN → Fails x := by
  induction x with
  | none =>
    intro _ _ s a d hd ha hs
    have h := none_fails (d := d) ha hs
    exact ⟨fun _ => h, fun _ => h.piece, fun _ => h.piece.row, h.piece.row.alt⟩
  | emp => intro _ h; exact absurd trivial h
  | byte t => intro _ h; exact absurd trivial h
  | beg => intro _ h; exact absurd trivial h
  | en => intro _ h; exact absurd trivial h
  | star x ih =>
    intro hf hn s a d hd ha hs
    have hx := ih hf hn
    have hs' : St s a (brk (bra 6 0 x.kind) x.tx ++ [42]) := hs
    obtain ⟨h1, _⟩ := hs'.app
    have hd' : dk (bra 6 0 x.kind) x.dp ≤ d := hd
    have hA : AtomF s d a := by
      cases hb : bra 6 0 x.kind
      · rw [hb] at h1 hd'
        have hk := kind_bad (x := x) hn
        exact (hx s a d hd' ha h1).1 (by unfold bra at hb; simp at hb; omega)
      · rw [hb] at h1 hd'
        exact hx.brk hd' ha h1
    exact ⟨fun h => by simp [Ex.kind] at h, fun _ => hA.piece, fun _ => hA.piece.row, hA.piece.row.alt⟩
  | cat x y ihx ihy =>
    intro hf hn s a d hd ha hs
    have hs' : St s a (brk (bra 4 0 x.kind) x.tx ++ brk (bra 4 1 y.kind) y.tx) := hs
    have hle := St.le hs' ha
    rw [List.length_append] at hle
    obtain ⟨h1, h2⟩ := hs'.app
    have hd' : max (dk (bra 4 0 x.kind) x.dp) (dk (bra 4 1 y.kind) y.dp) ≤ d := hd
    have hR : RowF s d a := by
      by_cases hx : x.NoN
      · have hy : ¬ y.NoN := fun g => hn ⟨hx, g⟩
        have hxb := back_any x (sound_of hf.1 hx)
        have hyf := ihy hf.2 hy
        have hA : RowB s d a x (a + (brk (bra 4 0 x.kind) x.tx).length) := by
          cases hb : bra 4 0 x.kind
          · rw [hb] at h1 hd'
            have := bra_no40 hb
            exact (hxb s a d (Nat.le_trans (Nat.le_max_left _ _) hd') ha h1).2.2.1 this.1 this.2
          · rw [hb] at h1 hd'
            exact (hxb.brk (Nat.le_trans (Nat.le_max_left _ _) hd') ha h1).piece.row
        have hB : PieceF s d (a + (brk (bra 4 0 x.kind) x.tx).length) := by
          have ha2 : a + (brk (bra 4 0 x.kind) x.tx).length ≤ s.size := by omega
          generalize a + (brk (bra 4 0 x.kind) x.tx).length = m at *
          cases hb : bra 4 1 y.kind
          · rw [hb] at h2 hd'
            have hk := kind_bad hy
            exact (hyf s m d (Nat.le_trans (Nat.le_max_right _ _) hd') ha2 h2).2.1 (by have := bra_no41 hb; omega)
          · rw [hb] at h2 hd'
            exact (hyf.brk (Nat.le_trans (Nat.le_max_right _ _) hd') ha2 h2).piece
        exact hA.fails hB
      · have hxf := ihx hf.1 hx
        cases hb : bra 4 0 x.kind
        · rw [hb] at h1 hd'
          have := bra_no40 hb
          exact (hxf s a d (Nat.le_trans (Nat.le_max_left _ _) hd') ha h1).2.2.1 this.2
        · rw [hb] at h1 hd'
          exact (hxf.brk (Nat.le_trans (Nat.le_max_left _ _) hd') ha h1).piece.row
    exact ⟨fun h => by simp [Ex.kind] at h, fun h => by simp [Ex.kind] at h, fun _ => hR, hR.alt⟩
  | alt x y ihx ihy =>
    intro hf hn s a d hd ha hs
    have hs' : St s a (brk (bra 5 0 x.kind) x.tx ++ 124 :: brk (bra 5 1 y.kind) y.tx) := hs
    have hle := St.le hs' ha
    rw [List.length_append, List.length_cons] at hle
    obtain ⟨h1, h2⟩ := hs'.app
    obtain ⟨k1, _, h3⟩ := h2.cons
    have hd' : max (dk (bra 5 0 x.kind) x.dp) (dk (bra 5 1 y.kind) y.dp) ≤ d := hd
    have hb0 : bra 5 0 x.kind = false := by unfold bra; simp
    have hR : AltF s d a := by
      by_cases hx : x.NoN
      · have hy : ¬ y.NoN := fun g => hn ⟨hx, g⟩
        have hxb := back_any x (sound_of hf.1 hx)
        have hyf := ihy hf.2 hy
        have hA : AltB s d a x (a + (brk (bra 5 0 x.kind) x.tx).length) := by
          rw [hb0] at h1 hd' ⊢
          exact (hxb s a d (Nat.le_trans (Nat.le_max_left _ _) hd') ha h1).2.2.2.2
        have hB : RowF s d (a + (brk (bra 5 0 x.kind) x.tx).length + 1) := by
          have ha2 : a + (brk (bra 5 0 x.kind) x.tx).length + 1 ≤ s.size := by omega
          generalize a + (brk (bra 5 0 x.kind) x.tx).length + 1 = m at *
          cases hb : bra 5 1 y.kind
          · rw [hb] at h3 hd'
            exact (hyf s m d (Nat.le_trans (Nat.le_max_right _ _) hd') ha2 h3).2.2.1 (by unfold bra at hb; simp at hb; exact hb)
          · rw [hb] at h3 hd'
            exact (hyf.brk (Nat.le_trans (Nat.le_max_right _ _) hd') ha2 h3).piece.row
        exact hA.fails k1 hB
      · rw [hb0] at h1 hd'
        exact (ihx hf.1 hx s a d (Nat.le_trans (Nat.le_max_left _ _) hd') ha h1).2.2.2
    exact ⟨fun h => by simp [Ex.kind] at h, fun h => by simp [Ex.kind] at h, fun h => absurd rfl h, hR⟩
/-- the text of a right expression with an RNone is refused -/
theorem read_bad {x : Ex} (hf : x.Full) (hn : ¬ x.NoN) (hh : x.high ≤ 20) : ∃ b, readR (mk x.tx) = .err 3 b := by
  obtain ⟨b, hb⟩ := (fails_any x hf hn (mk x.tx) 0 20 (by have := dp_high x; omega) (Nat.zero_le _) ⟨[], by simp [mk]⟩).2.2.2
  exact ⟨b, by rw [readR, hb]⟩
end Go.Proofs.Ytmhjfiaohbioeaa

/- The document's Where at the law's own letter. -/
namespace Go.Proofs.Ytmhjfiaohbioeaa
open Go.RowKit Kb Pop
set_option linter.unusedVariables false
set_option maxRecDepth 20000

set_option maxHeartbeats 400000 in
theorem where_l (caps : Array Value) (p : Nat → Bool) (w : World) (hC : ∀ (b : Nat) (W : World), b < 256 → Below w.heap.size w W → Calls Try.prog 21 (#[.int .i64 b] ++ caps) W fun e W' => e = .returned (.bool (p b)) ∧ Below W.heap.size W W') :
    Calls Try.prog 20 #[.func (.func 21) #[] caps] w fun e w' => ∃ s, e = .returned (setV s) ∧ FitS s ∧ (∀ b, b < 256 → bit s b = p b) ∧ Below w.heap.size w w' := by
  have HC := hide hC
  clear hC
  go_enter Try.func20, Try.ntmps20
  go_wp2_with fail
  go_loopw [4] (fun x wr => ∃ (b : Nat) (s : Se), x = .int .i64 b ∧ b ≤ 256 ∧ Below w.heap.size w wr ∧ wr.ownsRow w.heap.size 24 4 (.slice (some ⟨w.heap.size + 1, 0, none⟩) 1 1) 1 (cellsW s) ∧ wr.ownsRow w.heap.size 24 4 (.slice (some ⟨w.heap.size, 0, none⟩) 1 1) 1 (cellsW ⟨0, 0, 0, 0⟩) ∧ FitS s ∧ ∀ j, j < 256 → bit s j = (decide (j < b) && p j)) (fun x _ => 256 - (intOf x).toNat)
  case atStart =>
    refine ⟨0, ⟨0, 0, 0, 0⟩, rfl, Nat.zero_le _, ((Below.refl _ _).alloc (Nat.le_refl _) _).alloc (by simp) _, set_new w, set_box w, by unfold FitS; decide, ?_⟩
    intro j hj
    have : wordS ⟨0, 0, 0, 0⟩ (j / 64) = 0 := by
      have h4 : j / 64 < 4 := by omega
      match j / 64, h4 with
      | 0, _ => rfl
      | 1, _ => rfl
      | 2, _ => rfl
      | 3, _ => rfl
    unfold bit
    rw [this]; simp
  case round =>
    obtain ⟨b, s, rfl, hb, hbel, hrow, hbox, hfit, hall⟩ := hrel
    have BOX := hide hbox
    have B := hide hbel
    have ROW := hide hrow
    have FIT := hide hfit
    have ALL := hide hall
    clear hbel hrow hfit hall hbox
    by_cases hlt : b < 256
    · have h4 : b / 64 < 4 := by omega
      have hC := (unhide HC) b wr hlt (unhide B)
      have HB := hide hC
      clear hC
      go_wp2_with fail
      refine (unhide HB).mono ?_
      rintro e w3 ⟨rfl, b3⟩
      have B3 := hide (bel_trans (unhide B) b3)
      have ROW3 := hide (own_below (unhide ROW) b3)
      have BOX3 := hide (own_below (unhide BOX) b3)
      clear b3 HB ROW BOX
      cases hp : p b
      · have HP := hide hp
        clear hp
        go_wp2_with fail
        refine ⟨⟨b + 1, s, by go_num, by omega, unhide B3, unhide ROW3, unhide BOX3, unhide FIT, ?_⟩, by simp [intOf]; omega⟩
        intro j hj
        rw [(unhide ALL) j hj]
        by_cases hjb : j = b
        · subst hjb; rw [unhide HP]; simp
        · congr 1; rw [decide_eq_decide]; omega
      · have HP := hide hp
        clear hp
        have hcell := (unhide ROW3).cellAt (b / 64) (by omega)
        rw [cellsW_at s _ h4] at hcell
        have hfz := (unhide ROW3).frozenAt (b / 64)
        have hfw := wordS_fit (unhide FIT) (b / 64) h4
        obtain ⟨x, hx⟩ : ∃ x, wordS s (b / 64) = x := ⟨_, rfl⟩
        rw [hx] at hcell hfw
        have HX := hide hx
        clear hx
        have hq4 : 0 ≤ (b : Int) / 64 ∧ (b : Int) / 64 < 4 := by omega
        go_wp2_with fail
        go_region
        rw [or_pow hfw (show b % 64 < 64 by omega)]
        have HF2 := hide (or_fit hfw (show b % 64 < 64 by omega))
        obtain ⟨y, hy⟩ : ∃ y : Nat, (x.toNat ||| 2 ^ (b % 64)) = y := ⟨_, rfl⟩
        rw [hy] at HF2 ⊢
        have HY := hide hy
        clear hy hcell hfz
        go_wp2_with fail
        obtain ⟨sR, gR⟩ := (unhide ROW3).stored (b / 64) (.int .u64 (y : Int))
        rw [cellsW_set s _ h4] at sR
        refine ⟨⟨b + 1, setW s (b / 64) (y : Int), by go_num, by omega, ((unhide B3).grown gR (unhide B3).size (fun q hq => by cases hq; omega)).drew, sR.drew, ((unhide BOX3).kept gR (.inr (by simp [Value.ownBlock]))).drew, fitS_set (unhide FIT) _ h4 (unhide HF2), ?_⟩, by simp [intOf]; omega⟩
        intro j hj
        have := bit_or (s := s) hlt hj
        rw [unhide HX, unhide HY] at this
        rw [this, (unhide ALL) j hj]
        by_cases hjb : j = b
        · subst hjb; rw [unhide HP]; simp
        · rw [decide_eq_false hjb, Bool.or_false]; congr 1; rw [decide_eq_decide]; omega
    · obtain rfl : b = 256 := by omega
      have c0 := (unhide ROW).cellAt 0 (by omega)
      have c1 := (unhide ROW).cellAt 1 (by omega)
      have c2 := (unhide ROW).cellAt 2 (by omega)
      have c3 := (unhide ROW).cellAt 3 (by omega)
      have HA : Hid (∀ j, j < 256 → bit s j = p j) := hide (fun j hj => by rw [(unhide ALL) j hj, decide_eq_true hj, Bool.true_and])
      clear ALL HC
      obtain ⟨s1, s2, s3, s4⟩ := s
      have r0 := (unhide BOX).cellAt 0 (by omega)
      have r1 := (unhide BOX).cellAt 1 (by omega)
      have r2 := (unhide BOX).cellAt 2 (by omega)
      have r3 := (unhide BOX).cellAt 3 (by omega)
      have f0 := (unhide BOX).frozenAt 0
      have f1 := (unhide BOX).frozenAt 1
      have f2 := (unhide BOX).frozenAt 2
      have f3 := (unhide BOX).frozenAt 3
      simp only [cellsW] at c0 c1 c2 c3 r0 r1 r2 r3
      go_wp2_with fail
      obtain ⟨q1, g1⟩ := (unhide BOX).stored 0 (.int .u64 s1)
      obtain ⟨q2, g2⟩ := q1.stored 1 (.int .u64 s2)
      obtain ⟨q3, g3⟩ := q2.stored 2 (.int .u64 s3)
      obtain ⟨q4, g4⟩ := q3.stored 3 (.int .u64 s4)
      have B9 := hide ((((unhide B).grown g1 (unhide B).size (fun q hq => by cases hq; exact Nat.le_refl _)).grown g2 (by simp; exact (unhide B).size) (fun q hq => by cases hq; exact Nat.le_refl _)).grown g3 (by simp; exact (unhide B).size) (fun q hq => by cases hq; exact Nat.le_refl _)).grown g4 (by simp; exact (unhide B).size) (fun q hq => by cases hq; exact Nat.le_refl _)
      clear g1 g2 g3 g4 q1 q2 q3
      obtain ⟨fr, hh⟩ := own_one q4
      refine bodyPost_ret_by (v := setV ⟨s1, s2, s3, s4⟩) ?_ rfl ⟨_, rfl, unhide FIT, unhide HA, unhide B9⟩
      exact results_cell_row (ty := 24) rfl _ _ w.heap.size _ #[.int .u64 s1, .int .u64 s2, .int .u64 s3, .int .u64 s4] fr _ rfl hh Try.underlying24 rfl (by kernel_rfl)

theorem letter1_any (c b : Nat) (g : Nat) (W : World) (hc : W.cell? ⟨g, 0, none⟩ = some (.int .i64 b)) :
    Calls Try.prog 21 (#[.int .i64 c] ++ #[.pointer (some ⟨g, 0, none⟩)]) W fun e W' => e = .returned (.bool (decide (c = b))) ∧ Below W.heap.size W W' := by
  have hd : decide (c = b) = ((c : Int) == (b : Int)) := by
    by_cases h : c = b
    · rw [decide_eq_true h, h]; simp
    · rw [decide_eq_false h]; exact (beq_eq_false_iff_ne.2 (by omega)).symm
  have HD := hide hd
  clear hd
  go_enter Try.func21, Try.ntmps21
  go_wp2_with fail
  go_ret
  exact ⟨ret_bool (unhide HD).symm, Below.refl _ _⟩
end Go.Proofs.Ytmhjfiaohbioeaa

/- A small expression made, and whether there is an RNone in one. -/
namespace Go.Proofs.Ytmhjfiaohbioeaa
open Go.RowKit Kb Pop
set_option linter.unusedVariables false
set_option maxRecDepth 20000

set_option maxHeartbeats 1000000 in
theorem letter_any (b : Nat) (hb : b < 256) (w : World) :
    Calls Try.prog 10 #[.int .i64 b] w fun e w' => ∃ s, e = .returned (.agg #[.int .i64 3, .int .u64 s.a, .int .u64 s.b, .int .u64 s.c, .int .u64 s.d, .slice none 0 0]) ∧ FitS s ∧ (∀ j, j < 256 → bit s j = decide (j = b)) ∧ Below w.heap.size w w' := by
  have b0 := (Below.refl w.heap.size w).alloc (Nat.le_refl _) (.cells #[.int .i64 b] 3)
  have hz0 : (w.alloc (.cells #[.int .i64 b] 3)).heap.size = w.heap.size + 1 := by simp
  have c0 : (w.alloc (.cells #[.int .i64 b] 3)).cell? ⟨w.heap.size, 0, none⟩ = some (.int .i64 b) := by rw [World.cell?_alloc_new]; rfl
  obtain ⟨W0, hW0⟩ : ∃ W0, w.alloc (.cells #[.int .i64 b] 3) = W0 := ⟨_, rfl⟩
  rw [hW0] at b0 hz0 c0
  have b1 := (Below.refl W0.heap.size W0).alloc (Nat.le_refl _) (.cells #[.int .i64 0, .int .u64 0, .int .u64 0, .int .u64 0, .int .u64 0, .slice none 0 0] 27)
  have X1 := hide (RX.new (base := w.heap.size) W0 b0.size 0 ⟨0, 0, 0, 0⟩ (.slice none 0 0))
  dsimp only at X1
  have B1 := hide (bel_trans b0 b1)
  have c1 := cell_below c0 (by omega) b1
  obtain ⟨W1, hW1⟩ : ∃ W1, W0.alloc (.cells #[.int .i64 0, .int .u64 0, .int .u64 0, .int .u64 0, .int .u64 0, .slice none 0 0] 27) = W1 := ⟨_, rfl⟩
  rw [hW1] at X1 B1 c1
  rw [hz0] at X1
  have hl1 := (unhide X1).lt
  have HWH := hide (where_l #[.pointer (some ⟨w.heap.size, 0, none⟩)] (fun j => decide (j = b)) W1 (fun c W hc hB => letter1_any c b w.heap.size W (cell_below c1 (by omega) hB)))
  clear b0 b1 c0 c1
  go_enter Try.func10, Try.ntmps10
  go_wp2_with fail
  clear hW0 hW1
  refine (unhide HWH).mono ?_
  rintro e w2 ⟨⟨s1, s2, s3, s4⟩, rfl, hfit, hbits, b2⟩
  have B2 := hide (bel_trans (unhide B1) b2)
  have X2 := hide ((unhide X1).below b2)
  have HF := hide hfit
  have HBT := hide hbits
  clear b2 hfit hbits B1 X1 hl1 HWH
  obtain ⟨y0, y1, y2, y3, y4, y5⟩ := (unhide X2).cells
  obtain ⟨h0, h1, h2, h3, h4, h5⟩ := (unhide X2).frozen
  dsimp only at y1 y2 y3 y4
  have hl2 := (unhide X2).lt
  obtain ⟨fr, hh⟩ := own_one ((unhide X2).put 3 s1 s2 s3 s4 (.slice none 0 0)).1
  have p2 := (unhide B2).grown ((unhide X2).put 3 s1 s2 s3 s4 (.slice none 0 0)).2 (unhide B2).size (fun q hq => by have := Option.some.inj hq; omega)
  have P1 := hide hh
  have P2 := hide p2
  clear hh p2
  unfold setV
  dsimp only
  go_wp2_with fail
  refine bodyPost_ret_by (v := .agg #[.int .i64 3, .int .u64 s1, .int .u64 s2, .int .u64 s3, .int .u64 s4, .slice none 0 0]) ?_ rfl ⟨⟨s1, s2, s3, s4⟩, rfl, unhide HF, unhide HBT, unhide P2⟩
  exact results_cell_row (ty := 27) rfl _ _ (w.heap.size + 1) _ #[.int .i64 3, .int .u64 s1, .int .u64 s2, .int .u64 s3, .int .u64 s4, .slice none 0 0] fr _ rfl (unhide P1) Try.underlying27 rfl (by kernel_rfl)
abbrev TT : Nat → Prop := fun _ => True
theorem RexN.bel {w w' : World} {v : Value} {r : Rx} (h : RexN TT w v r) (b : Below w.heap.size w w') : RexN TT w' v r := h.move b.size fun j _ hl => ⟨b.block j hl, trivial⟩
set_option maxHeartbeats 1000000 in
theorem star_any (k s1 s2 s3 s4 : Int) (o : Option Addr) (n c : Nat) (x : Rx) (w : World) (hx : RexN TT w (.agg #[.int .i64 k, .int .u64 s1, .int .u64 s2, .int .u64 s3, .int .u64 s4, .slice o n c]) x) :
    Calls Try.prog 11 #[.agg #[.int .i64 k, .int .u64 s1, .int .u64 s2, .int .u64 s3, .int .u64 s4, .slice o n c]] w fun e w' => ∃ g, e = .returned (.agg #[.int .i64 6, .int .u64 0, .int .u64 0, .int .u64 0, .int .u64 0, .slice (some ⟨g, 0, none⟩) 1 1]) ∧ RexN TT w' (.agg #[.int .i64 6, .int .u64 0, .int .u64 0, .int .u64 0, .int .u64 0, .slice (some ⟨g, 0, none⟩) 1 1]) (.mk 6 noSet [x]) ∧ Below w.heap.size w w' := by
  have HX := hide hx
  clear hx
  have z1 : (w.alloc (.cells #[.int .i64 k, .int .u64 s1, .int .u64 s2, .int .u64 s3, .int .u64 s4, .slice o n c] 27)).heap.size = w.heap.size + 1 := by simp
  have z2 : ((w.alloc (.cells #[.int .i64 k, .int .u64 s1, .int .u64 s2, .int .u64 s3, .int .u64 s4, .slice o n c] 27)).alloc (.cells #[.int .i64 6, .int .u64 0, .int .u64 0, .int .u64 0, .int .u64 0, .slice (some ⟨w.heap.size + 1 + 1, 0, none⟩) 1 1] 27)).heap.size = w.heap.size + 1 + 1 := by simp
  have b3 : Below w.heap.size w (((w.alloc (.cells #[.int .i64 k, .int .u64 s1, .int .u64 s2, .int .u64 s3, .int .u64 s4, .slice o n c] 27)).alloc (.cells #[.int .i64 6, .int .u64 0, .int .u64 0, .int .u64 0, .int .u64 0, .slice (some ⟨w.heap.size + 1 + 1, 0, none⟩) 1 1] 27)).alloc (.cells #[.int .i64 k, .int .u64 s1, .int .u64 s2, .int .u64 s3, .int .u64 s4, .slice o n c] 27)) := (((Below.refl _ w).alloc (Nat.le_refl _) _).alloc (by simp) _).alloc (by simp; omega) _
  have hK := heap_alloc_new ((w.alloc (.cells #[.int .i64 k, .int .u64 s1, .int .u64 s2, .int .u64 s3, .int .u64 s4, .slice o n c] 27)).alloc (.cells #[.int .i64 6, .int .u64 0, .int .u64 0, .int .u64 0, .int .u64 0, .slice (some ⟨w.heap.size + 1 + 1, 0, none⟩) 1 1] 27)) (.cells #[.int .i64 k, .int .u64 s1, .int .u64 s2, .int .u64 s3, .int .u64 s4, .slice o n c] 27)
  rw [z2] at hK
  have hR : (((w.alloc (.cells #[.int .i64 k, .int .u64 s1, .int .u64 s2, .int .u64 s3, .int .u64 s4, .slice o n c] 27)).alloc (.cells #[.int .i64 6, .int .u64 0, .int .u64 0, .int .u64 0, .int .u64 0, .slice (some ⟨w.heap.size + 1 + 1, 0, none⟩) 1 1] 27)).alloc (.cells #[.int .i64 k, .int .u64 s1, .int .u64 s2, .int .u64 s3, .int .u64 s4, .slice o n c] 27)).heap[w.heap.size + 1]? = some (.cells #[.int .i64 6, .int .u64 0, .int .u64 0, .int .u64 0, .int .u64 0, .slice (some ⟨w.heap.size + 1 + 1, 0, none⟩) 1 1] 27) := by
    rw [((Below.refl ((w.alloc (.cells #[.int .i64 k, .int .u64 s1, .int .u64 s2, .int .u64 s3, .int .u64 s4, .slice o n c] 27)).alloc (.cells #[.int .i64 6, .int .u64 0, .int .u64 0, .int .u64 0, .int .u64 0, .slice (some ⟨w.heap.size + 1 + 1, 0, none⟩) 1 1] 27)).heap.size ((w.alloc (.cells #[.int .i64 k, .int .u64 s1, .int .u64 s2, .int .u64 s3, .int .u64 s4, .slice o n c] 27)).alloc (.cells #[.int .i64 6, .int .u64 0, .int .u64 0, .int .u64 0, .int .u64 0, .slice (some ⟨w.heap.size + 1 + 1, 0, none⟩) 1 1] 27))).alloc (Nat.le_refl _) (.cells #[.int .i64 k, .int .u64 s1, .int .u64 s2, .int .u64 s3, .int .u64 s4, .slice o n c] 27)).block (w.heap.size + 1) (by rw [z2]; omega)]
    have := heap_alloc_new (w.alloc (.cells #[.int .i64 k, .int .u64 s1, .int .u64 s2, .int .u64 s3, .int .u64 s4, .slice o n c] 27)) (.cells #[.int .i64 6, .int .u64 0, .int .u64 0, .int .u64 0, .int .u64 0, .slice (some ⟨w.heap.size + 1 + 1, 0, none⟩) 1 1] 27)
    rwa [z1] at this
  have HR := hide hR
  have HK := hide (rexN_one (s := ⟨s1, s2, s3, s4⟩) (k := 6) ((unhide HX).bel b3) trivial hK (by omega))
  have B3 := hide b3
  clear z1 z2 b3 hK hR
  go_enter Try.func11, Try.ntmps11
  go_wp2_with fail
  refine bodyPost_ret_by (v := .agg #[.int .i64 6, .int .u64 0, .int .u64 0, .int .u64 0, .int .u64 0, .slice (some ⟨w.heap.size + 1 + 1, 0, none⟩) 1 1]) ?_ rfl ⟨_, rfl, unhide HK, unhide B3⟩
  exact results_cell_row (ty := 27) rfl _ _ (w.heap.size + 1) _ #[.int .i64 6, .int .u64 0, .int .u64 0, .int .u64 0, .int .u64 0, .slice (some ⟨w.heap.size + 1 + 1, 0, none⟩) 1 1] _ _ rfl (unhide HR) Try.underlying27 rfl (by kernel_rfl)
set_option maxHeartbeats 1000000 in
theorem two_any (q k s1 s2 s3 s4 : Int) (o : Option Addr) (n c : Nat) (x : Rx) (k' t1 t2 t3 t4 : Int) (o' : Option Addr) (n' c' : Nat) (y : Rx) (w : World) (hq : 1 ≤ q ∧ q ≤ 8) (hx : RexN TT w (.agg #[.int .i64 k, .int .u64 s1, .int .u64 s2, .int .u64 s3, .int .u64 s4, .slice o n c]) x) (hy : RexN TT w (.agg #[.int .i64 k', .int .u64 t1, .int .u64 t2, .int .u64 t3, .int .u64 t4, .slice o' n' c']) y) :
    Calls Try.prog 9 #[.int .i64 q, .agg #[.int .i64 k, .int .u64 s1, .int .u64 s2, .int .u64 s3, .int .u64 s4, .slice o n c], .agg #[.int .i64 k', .int .u64 t1, .int .u64 t2, .int .u64 t3, .int .u64 t4, .slice o' n' c']] w fun e w' => ∃ g, e = .returned (.agg #[.int .i64 q, .int .u64 0, .int .u64 0, .int .u64 0, .int .u64 0, .slice (some ⟨g, 0, none⟩) 2 2]) ∧ RexN TT w' (.agg #[.int .i64 q, .int .u64 0, .int .u64 0, .int .u64 0, .int .u64 0, .slice (some ⟨g, 0, none⟩) 2 2]) (.mk q noSet [x, y]) ∧ Below w.heap.size w w' := by
  have HX := hide hx
  have HY := hide hy
  clear hx hy
  have z2 : ((w.alloc (.cells #[.int .i64 k, .int .u64 s1, .int .u64 s2, .int .u64 s3, .int .u64 s4, .slice o n c] 27)).alloc (.cells #[.int .i64 k', .int .u64 t1, .int .u64 t2, .int .u64 t3, .int .u64 t4, .slice o' n' c'] 27)).heap.size = w.heap.size + 1 + 1 := by simp
  have z3 : (((w.alloc (.cells #[.int .i64 k, .int .u64 s1, .int .u64 s2, .int .u64 s3, .int .u64 s4, .slice o n c] 27)).alloc (.cells #[.int .i64 k', .int .u64 t1, .int .u64 t2, .int .u64 t3, .int .u64 t4, .slice o' n' c'] 27)).alloc (.cells #[.int .i64 q, .int .u64 0, .int .u64 0, .int .u64 0, .int .u64 0, .slice (some ⟨w.heap.size + 1 + 1 + 1, 0, none⟩) 2 2] 27)).heap.size = w.heap.size + 1 + 1 + 1 := by simp
  have b4 : Below w.heap.size w ((((w.alloc (.cells #[.int .i64 k, .int .u64 s1, .int .u64 s2, .int .u64 s3, .int .u64 s4, .slice o n c] 27)).alloc (.cells #[.int .i64 k', .int .u64 t1, .int .u64 t2, .int .u64 t3, .int .u64 t4, .slice o' n' c'] 27)).alloc (.cells #[.int .i64 q, .int .u64 0, .int .u64 0, .int .u64 0, .int .u64 0, .slice (some ⟨w.heap.size + 1 + 1 + 1, 0, none⟩) 2 2] 27)).alloc (.cells #[.int .i64 k, .int .u64 s1, .int .u64 s2, .int .u64 s3, .int .u64 s4, .slice o n c, .int .i64 k', .int .u64 t1, .int .u64 t2, .int .u64 t3, .int .u64 t4, .slice o' n' c'] 27)) := ((((Below.refl _ w).alloc (Nat.le_refl _) _).alloc (by simp) _).alloc (by simp; omega) _).alloc (by simp; omega) _
  have hK := heap_alloc_new (((w.alloc (.cells #[.int .i64 k, .int .u64 s1, .int .u64 s2, .int .u64 s3, .int .u64 s4, .slice o n c] 27)).alloc (.cells #[.int .i64 k', .int .u64 t1, .int .u64 t2, .int .u64 t3, .int .u64 t4, .slice o' n' c'] 27)).alloc (.cells #[.int .i64 q, .int .u64 0, .int .u64 0, .int .u64 0, .int .u64 0, .slice (some ⟨w.heap.size + 1 + 1 + 1, 0, none⟩) 2 2] 27)) (.cells #[.int .i64 k, .int .u64 s1, .int .u64 s2, .int .u64 s3, .int .u64 s4, .slice o n c, .int .i64 k', .int .u64 t1, .int .u64 t2, .int .u64 t3, .int .u64 t4, .slice o' n' c'] 27)
  rw [z3] at hK
  have hR : ((((w.alloc (.cells #[.int .i64 k, .int .u64 s1, .int .u64 s2, .int .u64 s3, .int .u64 s4, .slice o n c] 27)).alloc (.cells #[.int .i64 k', .int .u64 t1, .int .u64 t2, .int .u64 t3, .int .u64 t4, .slice o' n' c'] 27)).alloc (.cells #[.int .i64 q, .int .u64 0, .int .u64 0, .int .u64 0, .int .u64 0, .slice (some ⟨w.heap.size + 1 + 1 + 1, 0, none⟩) 2 2] 27)).alloc (.cells #[.int .i64 k, .int .u64 s1, .int .u64 s2, .int .u64 s3, .int .u64 s4, .slice o n c, .int .i64 k', .int .u64 t1, .int .u64 t2, .int .u64 t3, .int .u64 t4, .slice o' n' c'] 27)).heap[w.heap.size + 1 + 1]? = some (.cells #[.int .i64 q, .int .u64 0, .int .u64 0, .int .u64 0, .int .u64 0, .slice (some ⟨w.heap.size + 1 + 1 + 1, 0, none⟩) 2 2] 27) := by
    rw [((Below.refl (((w.alloc (.cells #[.int .i64 k, .int .u64 s1, .int .u64 s2, .int .u64 s3, .int .u64 s4, .slice o n c] 27)).alloc (.cells #[.int .i64 k', .int .u64 t1, .int .u64 t2, .int .u64 t3, .int .u64 t4, .slice o' n' c'] 27)).alloc (.cells #[.int .i64 q, .int .u64 0, .int .u64 0, .int .u64 0, .int .u64 0, .slice (some ⟨w.heap.size + 1 + 1 + 1, 0, none⟩) 2 2] 27)).heap.size (((w.alloc (.cells #[.int .i64 k, .int .u64 s1, .int .u64 s2, .int .u64 s3, .int .u64 s4, .slice o n c] 27)).alloc (.cells #[.int .i64 k', .int .u64 t1, .int .u64 t2, .int .u64 t3, .int .u64 t4, .slice o' n' c'] 27)).alloc (.cells #[.int .i64 q, .int .u64 0, .int .u64 0, .int .u64 0, .int .u64 0, .slice (some ⟨w.heap.size + 1 + 1 + 1, 0, none⟩) 2 2] 27))).alloc (Nat.le_refl _) (.cells #[.int .i64 k, .int .u64 s1, .int .u64 s2, .int .u64 s3, .int .u64 s4, .slice o n c, .int .i64 k', .int .u64 t1, .int .u64 t2, .int .u64 t3, .int .u64 t4, .slice o' n' c'] 27)).block (w.heap.size + 1 + 1) (by rw [z3]; omega)]
    have := heap_alloc_new ((w.alloc (.cells #[.int .i64 k, .int .u64 s1, .int .u64 s2, .int .u64 s3, .int .u64 s4, .slice o n c] 27)).alloc (.cells #[.int .i64 k', .int .u64 t1, .int .u64 t2, .int .u64 t3, .int .u64 t4, .slice o' n' c'] 27)) (.cells #[.int .i64 q, .int .u64 0, .int .u64 0, .int .u64 0, .int .u64 0, .slice (some ⟨w.heap.size + 1 + 1 + 1, 0, none⟩) 2 2] 27)
    rwa [z2] at this
  have HR := hide hR
  have HK := hide (rexN_two (s := ⟨s1, s2, s3, s4⟩) (s' := ⟨t1, t2, t3, t4⟩) (k := q) ((unhide HX).bel b4) ((unhide HY).bel b4) trivial hK hq)
  have B4 := hide b4
  clear z2 z3 b4 hK hR
  go_enter Try.func9, Try.ntmps9
  go_wp2_with fail
  refine bodyPost_ret_by (v := .agg #[.int .i64 q, .int .u64 0, .int .u64 0, .int .u64 0, .int .u64 0, .slice (some ⟨w.heap.size + 1 + 1 + 1, 0, none⟩) 2 2]) ?_ rfl ⟨_, rfl, unhide HK, unhide B4⟩
  exact results_cell_row (ty := 27) rfl _ _ (w.heap.size + 1 + 1) _ #[.int .i64 q, .int .u64 0, .int .u64 0, .int .u64 0, .int .u64 0, .slice (some ⟨w.heap.size + 1 + 1 + 1, 0, none⟩) 2 2] _ _ rfl (unhide HR) Try.underlying27 rfl (by kernel_rfl)

end Go.Proofs.Ytmhjfiaohbioeaa

/- Is there an RNone in an expression? -/
namespace Go.Proofs.Ytmhjfiaohbioeaa
open Go.RowKit Kb Pop
set_option linter.unusedVariables false
set_option maxRecDepth 20000

inductive NoneIn : Rx → Prop
  | here {s : Se} {ks : List Rx} : NoneIn (.mk 1 s ks)
  | kid {k : Int} {s : Se} {ks : List Rx} {x : Rx} : x ∈ ks → NoneIn x → NoneIn (.mk k s ks)
theorem none_iff {k : Int} {s : Se} {ks : List Rx} : NoneIn (.mk k s ks) ↔ k = 1 ∨ ∃ x ∈ ks, NoneIn x := by
  constructor
  · intro h
    cases h with
    | here => exact .inl rfl
    | kid h1 h2 => exact .inr ⟨_, h1, h2⟩
  · rintro (rfl | ⟨x, h1, h2⟩)
    · exact .here
    · exact .kid h1 h2
theorem ex_none (x : Ex) : NoneIn x.rx ↔ ¬ x.NoN := by
  induction x with
  | none => simp [Ex.rx, none_iff, Ex.NoN]
  | emp => simp [Ex.rx, none_iff, Ex.NoN]
  | byte t => simp [Ex.rx, none_iff, Ex.NoN]
  | beg => simp [Ex.rx, none_iff, Ex.NoN]
  | en => simp [Ex.rx, none_iff, Ex.NoN]
  | cat a b ha hb =>
    simp only [Ex.rx, none_iff, Ex.NoN, List.mem_cons, List.not_mem_nil, or_false, exists_eq_or_imp, exists_eq_left, ha, hb]
    rw [Classical.not_and_iff_not_or_not]
    simp
  | alt a b ha hb =>
    simp only [Ex.rx, none_iff, Ex.NoN, List.mem_cons, List.not_mem_nil, or_false, exists_eq_or_imp, exists_eq_left, ha, hb]
    rw [Classical.not_and_iff_not_or_not]
    simp
  | star a ha =>
    simp only [Ex.rx, none_iff, Ex.NoN, List.mem_cons, List.not_mem_nil, or_false, exists_eq_left, ha]
    simp
set_option maxHeartbeats 2000000 in
theorem indexN_any (ks : List Rx) (w : World) (v : Value) (hv : Kd w ks v)
    (ih : ∀ x ∈ ks, ∀ (u : Value) (W : World), RexV W u x → Calls Try.prog 13 #[u] W fun e W' => ∃ t : Bool, e = .returned (.bool t) ∧ (t = true ↔ NoneIn x) ∧ Below W.heap.size W W') :
    Calls Try.prog 35 #[v, .func (.func 13) #[] #[]] w fun e w' => ∃ z : Int, e = .returned (.int .i64 z) ∧ (0 ≤ z ↔ ∃ x ∈ ks, NoneIn x) ∧ Below w.heap.size w w' := by
  obtain ⟨o, c, rfl, hc⟩ := hv.form
  have hroom := hv.room
  have HV := hide hv
  have IH := hide ih
  clear hv ih
  go_enter Try.func35, Try.ntmps35
  go_wp2_with fail
  go_loopw [8] (fun x wr => ∃ k : Nat, x = .int .i64 k ∧ k ≤ ks.length ∧ (∀ i x, i < k → ks[i]? = some x → ¬ NoneIn x) ∧ Below w.heap.size w wr) (fun x _ => ks.length - (intOf x).toNat)
  case atStart => exact ⟨0, rfl, Nat.zero_le _, (fun i x hi => by omega), Below.refl _ _⟩
  case round =>
    obtain ⟨k, rfl, hk, hall, hB⟩ := hrel
    have HALL := hide hall
    have B := hide hB
    clear hall hB
    by_cases hlt : k < ks.length
    · obtain ⟨x, hx⟩ : ∃ x, ks[k]? = some x := ⟨ks[k], List.getElem?_eq_getElem hlt⟩
      have HX := hide hx
      have hkd := Kd.below (unhide B) _ ks _ (Nat.le_refl _) (unhide HV)
      obtain ⟨g, off, c', e, he, hg, hfit, c0, c1, c2, c3, c4, c5, hkid⟩ := hkd.at_ hx
      have HR := hide ((unhide IH) x (List.mem_of_getElem? hx) (rexV x e) wr ⟨⟨e, rfl, hkid⟩, hfit⟩)
      have hkI : (k : Int) < ks.length := by omega
      obtain ⟨o2, c2', rfl, _⟩ := hkid.form
      cases he
      unfold rexV at HR
      obtain ⟨xk, hxk⟩ : ∃ z, x.k = z := ⟨_, rfl⟩
      obtain ⟨⟨t1, t2, t3, t4⟩, hxs⟩ : ∃ z, x.s = z := ⟨_, rfl⟩
      obtain ⟨n2, hn2⟩ : ∃ z, x.ks.length = z := ⟨_, rfl⟩
      rw [hxk, hxs, hn2] at HR
      rw [hxk] at c0
      rw [hxs] at c1 c2 c3 c4
      rw [hn2] at c5
      dsimp only at HR c1 c2 c3 c4
      clear hx hkd hkid hfit hxk hxs hn2
      go_wp2_with fail
      refine (unhide HR).mono ?_
      rintro e w1 ⟨t, rfl, ht, b1⟩
      have B1 := hide (bel_trans (unhide B) b1)
      have HT := hide ht
      clear b1 ht HR c0 c1 c2 c3 c4 c5 B
      cases t with
      | true =>
        have HA : Hid (∃ x ∈ ks, NoneIn x) := hide ⟨x, List.mem_of_getElem? (unhide HX), (unhide HT).1 rfl⟩
        go_wp2_with fail
        go_ret
        exact ⟨k, rfl, ⟨fun _ => unhide HA, fun _ => by omega⟩, unhide B1⟩
      | false =>
        have HN : Hid (¬ NoneIn x) := hide (fun h => by have := (unhide HT).2 h; cases this)
        go_wp2_with fail
        refine ⟨⟨k + 1, by go_num, by omega, ?_, unhide B1⟩, by simp [intOf]; omega⟩
        intro i y hi hy
        by_cases hik : i = k
        · subst hik; rw [unhide HX] at hy; cases hy; exact unhide HN
        · exact (unhide HALL) i y (by omega) hy
    · obtain rfl : k = ks.length := by omega
      have HA : Hid (¬ ∃ x ∈ ks, NoneIn x) := hide (by
        rintro ⟨x, hx, hd⟩
        obtain ⟨i, hi⟩ := List.mem_iff_getElem?.1 hx
        exact (unhide HALL) i x (List.getElem?_eq_some_iff.1 hi).1 hi hd)
      go_wp2_with fail
      go_ret
      exact ⟨-1, rfl, ⟨fun h => by omega, fun h => absurd h (unhide HA)⟩, unhide B⟩
theorem containsN_any (ks : List Rx) (w : World) (v : Value) (hv : Kd w ks v)
    (ih : ∀ x ∈ ks, ∀ (u : Value) (W : World), RexV W u x → Calls Try.prog 13 #[u] W fun e W' => ∃ t : Bool, e = .returned (.bool t) ∧ (t = true ↔ NoneIn x) ∧ Below W.heap.size W W') :
    Calls Try.prog 23 #[v, .func (.func 13) #[] #[]] w fun e w' => ∃ t : Bool, e = .returned (.bool t) ∧ (t = true ↔ ∃ x ∈ ks, NoneIn x) ∧ Below w.heap.size w w' := by
  have HI := hide (indexN_any ks w v hv ih)
  obtain ⟨o, c, rfl, hc⟩ := hv.form
  clear hv ih
  go_enter Try.func23, Try.ntmps23
  go_wp2_with fail
  refine (unhide HI).mono ?_
  rintro e w1 ⟨z, rfl, hz, b1⟩
  have B1 := hide b1
  have HZ := hide hz
  clear b1 hz HI
  go_wp2_with fail
  go_ret
  exact ⟨_, rfl, by rw [← unhide HZ]; simp, unhide B1⟩
set_option maxHeartbeats 2000000 in
theorem none_any (r : Rx) : ∀ (v : Value) (w : World), RexV w v r → Calls Try.prog 13 #[v] w fun e w' => ∃ t : Bool, e = .returned (.bool t) ∧ (t = true ↔ NoneIn r) ∧ Below w.heap.size w w' := by
  induction r using Rx.ind with
  | h k s ks ih =>
    intro v w hV
    obtain ⟨e, rfl, hk⟩ := hV.val
    obtain ⟨o, c, rfl, _⟩ := hk.form
    obtain ⟨s1, s2, s3, s4⟩ := s
    unfold rexV
    simp only [Rx.k, Rx.s, Rx.ks] at *
    have X0 := hide (RX.new (base := w.heap.size) w (Nat.le_refl _) k ⟨s1, s2, s3, s4⟩ (.slice o ks.length c))
    have b0 := (Below.refl w.heap.size w).alloc (Nat.le_refl _) (.cells #[.int .i64 k, .int .u64 s1, .int .u64 s2, .int .u64 s3, .int .u64 s4, .slice o ks.length c] 27)
    have KD := hide (Kd.below b0 _ ks _ (Nat.le_refl _) hk)
    have B0 := hide b0
    have HI : Hid (NoneIn (.mk k ⟨s1, s2, s3, s4⟩ ks) ↔ k = 1 ∨ ∃ x ∈ ks, NoneIn x) := hide none_iff
    dsimp only at X0
    obtain ⟨W0, hW0⟩ : ∃ W0, w.alloc (.cells #[.int .i64 k, .int .u64 s1, .int .u64 s2, .int .u64 s3, .int .u64 s4, .slice o ks.length c] 27) = W0 := ⟨_, rfl⟩
    rw [hW0] at X0 KD B0
    have HC := hide (fun (W : World) (h : Kd W ks (.slice o ks.length c)) => containsN_any ks W _ h ih)
    obtain ⟨y0, y1, y2, y3, y4, y5⟩ := (unhide X0).cells
    have hl0 := (unhide X0).lt
    clear hk b0 ih hV
    by_cases h1 : k = 1
    · subst h1
      clear HC
      go_enter Try.func13, Try.ntmps13
      go_wp2_with fail
      go_ret
      exact .inr ⟨rfl, .here, unhide B0⟩
    · have hkb : ((k : Int) == 1) = false := beq_eq_false_iff_ne.2 h1
      go_enter Try.func13, Try.ntmps13
      go_wp2_with fail
      refine ((unhide HC) W0 (unhide KD)).mono ?_
      rintro e w1 ⟨t, rfl, ht, b1⟩
      have B1 := hide (bel_trans (unhide B0) b1)
      have HT := hide ht
      clear b1 ht HC KD
      cases t with
      | true =>
        go_wp2_with fail
        go_ret
        exact ⟨true, rfl, ⟨fun _ => (unhide HI).2 (.inr ((unhide HT).1 trivial)), fun _ => rfl⟩, unhide B1⟩
      | false =>
        go_wp2_with fail
        go_ret
        refine ⟨false, rfl, ⟨(fun h => by cases h), fun h => ?_⟩, unhide B1⟩
        rcases (unhide HI).1 h with h | h
        · exact absurd h h1
        · have := (unhide HT).2 h; cases this
end Go.Proofs.Ytmhjfiaohbioeaa

namespace Go.Proofs.Ytmhjfiaohbioeaa.rexBack
open Go.ChangeShapes Go.WideShapes Go.ChangeAt Go.RowKit
open Kb Pop
set_option linter.unusedVariables false
set_option maxRecDepth 20000

theorem one_tx {p : Nat → Bool} {b : Nat} (hb : b < 256) (h : ∀ j, j < 256 → p j = decide (j = b)) (hc : cntN (fun j => decide (j = b)) 256 = 1) : setT p 256 = charT (UInt8.ofNat b) := by
  have c1 : cntN p 256 = 1 := by rw [cntN_congr h]; exact hc
  unfold setT
  rw [if_pos c1, itemsP_list, heads_one hb h]
  have hl : lastR p b = b := lastR_stop (by
    rintro ⟨h1, h2⟩
    rw [h (b + 1) (by omega)] at h2
    have := of_decide_eq_true h2
    omega)
  simp only [List.flatMap_cons, List.flatMap_nil, List.append_nil]
  unfold item1
  rw [hl, if_neg (by omega), if_neg (by omega)]; simp
theorem one_full {t : Se} {b : Nat} (hb : b < 256) (h : ∀ j, j < 256 → bit t j = decide (j = b)) : t ≠ noSet := fun e => by
  have h1 := h b hb
  rw [e] at h1
  have : ∀ j ∈ List.range 256, bit noSet j = false := by decide +kernel
  rw [this b (List.mem_range.2 hb)] at h1
  simp at h1
/-- a\\.* -/
def xB (s t : Se) : Ex := .cat (.byte s) (.star (.byte t))
theorem xB_tx {s t : Se} (hs : ∀ j, j < 256 → bit s j = decide (j = 97)) (ht : ∀ j, j < 256 → bit t j = decide (j = 46)) : (xB s t).tx = [97, 92, 46, 42] := by
  have h1 : setT (bit s) 256 = charT (UInt8.ofNat 97) := one_tx (by omega) hs (by decide +kernel)
  have h2 : setT (bit t) 256 = charT (UInt8.ofNat 46) := one_tx (by omega) ht (by decide +kernel)
  simp only [xB, Ex.tx, h1, h2, Ex.kind]
  decide +kernel
theorem xB_chk {s t : Se} (hfs : FitS s) (hft : FitS t) (hs : ∀ j, j < 256 → bit s j = decide (j = 97)) (ht : ∀ j, j < 256 → bit t j = decide (j = 46)) : chkR (xB s t).rx = 0 := by
  have hf : (xB s t).Full := ⟨⟨one_full (by omega) hs, hfs⟩, ⟨one_full (by omega) ht, hft⟩⟩
  unfold chkR
  rw [ex_look (xB s t) 1 0 hf (by simp [xB, Ex.nodes]) (by simp [xB, Ex.high])]
set_option maxHeartbeats 8000000 in
theorem walk (v0 : Value) (r : Rx) (w : World) (hV : RexV w v0 r) :
    Calls Try.prog 4 #[v0] w fun e w' => e = .returned (.bool true) ∧ Below w.heap.size w w' := by
  obtain ⟨t0, ht0, hk0⟩ := hV.val
  obtain ⟨o0, c0, rfl, _⟩ := hk0.form
  have HV0 := hide hV
  obtain ⟨k0, ⟨a1, a2, a3, a4⟩, ks⟩ := r
  subst ht0
  unfold rexV at *
  simp only [Rx.k, Rx.s, Rx.ks] at *
  have b0 := (Below.refl w.heap.size w).alloc (Nat.le_refl _) (.cells #[.int .i64 k0, .int .u64 a1, .int .u64 a2, .int .u64 a3, .int .u64 a4, .slice o0 ks.length c0] 27)
  have X0 := hide (RX.new (base := w.heap.size) w (Nat.le_refl _) k0 ⟨a1, a2, a3, a4⟩ (.slice o0 ks.length c0))
  have V0 := hide ((unhide HV0).below b0)
  have B0 := hide b0
  dsimp only at X0
  obtain ⟨W0, hW0⟩ : ∃ W0, w.alloc (.cells #[.int .i64 k0, .int .u64 a1, .int .u64 a2, .int .u64 a3, .int .u64 a4, .slice o0 ks.length c0] 27) = W0 := ⟨_, rfl⟩
  rw [hW0] at X0 V0 B0
  clear b0 hk0 hV HV0
  obtain ⟨rr, hrr⟩ : ∃ rr, Rx.mk k0 ⟨a1, a2, a3, a4⟩ ks = rr := ⟨_, rfl⟩
  rw [hrr] at V0
  clear hrr
  go_enter Try.func4, Try.ntmps4
  go_wp2_with fail
  clear hW0
  refine (letter_any 97 (by omega) W0).mono ?_
  rintro e w1 ⟨⟨s1, s2, s3, s4⟩, rfl, hf1, hb1, b1⟩
  have B1 := hide (bel_trans (unhide B0) b1)
  have X1 := hide ((unhide X0).below b1)
  have V1 := hide ((unhide V0).below b1)
  have F1 := hide hf1
  have T1 := hide hb1
  have L1 := hide (rexN_leaf TT w1 3 ⟨s1, s2, s3, s4⟩ (by omega) hf1)
  dsimp only at L1
  clear hf1 hb1 b1 B0 X0 V0
  go_wp2_with fail
  refine (letter_any 46 (by omega) w1).mono ?_
  rintro e w2 ⟨⟨u1, u2, u3, u4⟩, rfl, hf2, hb2, b2⟩
  have B2 := hide (bel_trans (unhide B1) b2)
  have X2 := hide ((unhide X1).below b2)
  have V2 := hide ((unhide V1).below b2)
  have F2 := hide hf2
  have T2 := hide hb2
  have L2 := hide ((unhide L1).bel b2)
  have M2 := hide (rexN_leaf TT w2 3 ⟨u1, u2, u3, u4⟩ (by omega) hf2)
  dsimp only at M2
  clear hf2 hb2 b2 B1 X1 V1 L1
  go_wp2_with fail
  refine (star_any 3 u1 u2 u3 u4 none 0 0 _ w2 (unhide M2)).mono ?_
  rintro e w3 ⟨g3, rfl, N3, b3⟩
  have B3 := hide (bel_trans (unhide B2) b3)
  have X3 := hide ((unhide X2).below b3)
  have V3 := hide ((unhide V2).below b3)
  have L3 := hide ((unhide L2).bel b3)
  have M3 := hide N3
  clear N3 b3 B2 X2 V2 L2 M2
  go_wp2_with fail
  refine (two_any 4 3 s1 s2 s3 s4 none 0 0 _ 6 0 0 0 0 (some ⟨g3, 0, none⟩) 1 1 _ w3 (by omega) (unhide L3) (unhide M3)).mono ?_
  rintro e w4 ⟨g4, rfl, N4, b4⟩
  have B4 := hide (bel_trans (unhide B3) b4)
  have X4 := hide ((unhide X3).below b4)
  have V4 := hide ((unhide V3).below b4)
  have HPB := hide (Print_any (xB ⟨s1, s2, s3, s4⟩ ⟨u1, u2, u3, u4⟩).rx _ w4 N4.rexV)
  rw [xB_chk (unhide F1) (unhide F2) (unhide T1) (unhide T2)] at HPB
  have HTX := hide (xB_tx (unhide T1) (unhide T2))
  clear N4 b4 B3 X3 V3 L3 M3
  go_wp2_with fail
  refine (unhide HPB).mono ?_
  rintro e w5 ⟨q0, rfl, hq0, b5⟩
  have hqt := hq0.2 (xB ⟨s1, s2, s3, s4⟩ ⟨u1, u2, u3, u4⟩) rfl rfl
  rw [unhide HTX] at hqt
  have hq1 : (q0.toList == [97, 92, 46, 42]) = true := by rw [hqt, Lib.toList_data]; rfl
  have B5 := hide (bel_trans (unhide B4) b5)
  have X5 := hide ((unhide X4).below b5)
  have V5 := hide ((unhide V4).below b5)
  clear hqt hq0 b5 B4 X4 V4 HPB HTX F1 F2 T1 T2
  obtain ⟨y0, y1, y2, y3, y4, y5⟩ := (unhide X5).cells
  dsimp only at y1 y2 y3 y4
  have hl5 := (unhide X5).lt
  have HPR := hide (Print_any rr _ w5 (unhide V5))
  obtain ⟨ck, hck⟩ : ∃ ck, chkR rr = ck := ⟨_, rfl⟩
  rw [hck] at HPR
  have HCK := hide hck
  clear hck
  go_wp2_with fail
  refine (unhide HPR).mono ?_
  rintro e w6 ⟨q, rfl, hq, b6⟩
  have HQ := hide hq
  have B6 := hide (bel_trans (unhide B5) b6)
  have X6 := hide ((unhide X5).below b6)
  have V6 := hide ((unhide V5).below b6)
  clear hq b6 B5 X5 V5 HPR y0 y1 y2 y3 y4 y5 hl5
  obtain ⟨y0, y1, y2, y3, y4, y5⟩ := (unhide X6).cells
  dsimp only at y1 y2 y3 y4
  have hl6 := (unhide X6).lt
  by_cases hc0 : ck = 0
  · obtain ⟨y, hy1, hy2, hy3, hy4⟩ := chk_ex ((unhide HCK).trans hc0) (unhide V6)
    have HY := hide hy1
    have hqe : q = mk y.tx := (unhide HQ).2 y hy1 hc0
    have HP := hide (Parse_any q w6)
    have HRD : Hid (y.NoN → readR q = .ok y y.tx.length) := hide (fun h => by rw [hqe]; exact read_back (sound_of hy4 h) (by rw [← hy1, unhide HCK]; exact hc0) hy3)
    have HRB : Hid (¬ y.NoN → ∃ b, readR q = .err 3 b) := hide (fun h => by rw [hqe]; exact read_bad hy4 h hy3)
    have HNI : Hid (NoneIn rr ↔ ¬ y.NoN) := hide (by rw [hy1]; exact ex_none y)
    have HNN := hide (fun (W : World) h => none_any rr (.agg #[.int .i64 k0, .int .u64 a1, .int .u64 a2, .int .u64 a3, .int .u64 a4, .slice o0 ks.length c0]) W h)
    subst hc0
    clear hy1 hy2 hy3 hy4 hqe HCK HQ
    go_wp2_with fail
    refine (unhide HP).mono ?_
    rintro e w7 ⟨rv, a, z, rfl, b7, hp⟩
    have HPP := hide hp
    have B7 := hide (bel_trans (unhide B6) b7)
    have X7 := hide ((unhide X6).below b7)
    have V7 := hide ((unhide V6).below b7)
    clear hp b7 B6 X6 V6 HP y0 y1 y2 y3 y4 y5 hl6
    have HCS : Hid ((rv = zeroV ∧ z ≠ 0 ∧ (z = 2 ∧ 200 < q.size ∨ z = 3 ∧ ¬ y.NoN)) ∨ (RexV w7 rv y.rx ∧ z = 0 ∧ a = 0 ∧ y.NoN)) := hide (by
      have hh := unhide HPP
      unfold PrsP at hh
      by_cases h2 : 200 < q.size
      · rw [if_pos h2] at hh
        exact .inl ⟨hh.1, by rw [hh.2.2]; decide, .inl ⟨hh.2.2, h2⟩⟩
      · rw [if_neg h2] at hh
        by_cases hn : y.NoN
        · rw [unhide HRD hn] at hh
          exact .inr ⟨hh.2.2.rexV, hh.1, hh.2.1, hn⟩
        · obtain ⟨b, hb⟩ := unhide HRB hn
          rw [hb] at hh
          exact .inl ⟨hh.1, by rw [hh.2.2.1]; decide, .inr ⟨hh.2.2.1, hn⟩⟩)
    clear HPP HRD HRB
    rcases unhide HCS with ⟨rfl, hz, hzc⟩ | ⟨hV, rfl, rfl, hn⟩
    · clear HCS
      have b8 := (Below.refl w7.heap.size w7).alloc (Nat.le_refl _) (.cells #[.int .i64 0, .int .u64 0, .int .u64 0, .int .u64 0, .int .u64 0, .slice none 0 0] 27)
      have B8 := hide (bel_trans (unhide B7) b8)
      have X8 := hide ((unhide X7).below b8)
      have V8 := hide ((unhide V7).below b8)
      have HN8 := hide ((unhide HNN) _ (unhide V8))
      obtain ⟨y0, y1, y2, y3, y4, y5⟩ := (unhide X8).cells
      dsimp only at y1 y2 y3 y4
      have hl8 := (unhide X8).lt
      have HZC := hide hzc
      unfold zeroV
      clear b8 B7 X7 V7 HNN hzc hz
      go_wp2_with fail
      refine (unhide HN8).mono ?_
      rintro e w9 ⟨t, rfl, ht, b9⟩
      have B9 := hide (bel_trans (unhide B8) b9)
      have HT := hide ht
      clear b9 ht HN8
      rcases unhide HZC with ⟨rfl, h200⟩ | ⟨rfl, hnn⟩
      · have hI : (200 : Int) < q.size := by omega
        clear HZC
        cases t with
        | true =>
          go_wp2_with fail
          go_ret
          exact ⟨ret_bool (by simp), unhide B9⟩
        | false =>
          go_wp2_with fail
          go_ret
          exact ⟨ret_bool (by simp), unhide B9⟩
      · obtain rfl : t = true := (unhide HT).2 ((unhide HNI).2 hnn)
        clear HZC
        go_wp2_with fail
        go_ret
        exact ⟨ret_bool (by simp), unhide B9⟩
    · clear HCS
      have HVV := hide hV
      obtain ⟨te, hte, hkd⟩ := hV.val
      obtain ⟨o6, c6, rfl, _⟩ := hkd.form
      obtain ⟨k6, hk6⟩ : ∃ z, y.rx.k = z := ⟨_, rfl⟩
      obtain ⟨⟨v1, v2, v3, v4⟩, ht6⟩ : ∃ z, y.rx.s = z := ⟨_, rfl⟩
      obtain ⟨n6, hn6⟩ : ∃ z, y.rx.ks.length = z := ⟨_, rfl⟩
      unfold rexV at hte
      rw [hk6, ht6, hn6] at hte
      dsimp only at hte
      subst hte
      clear hk6 ht6 hn6 hkd hV
      have b8 := (Below.refl w7.heap.size w7).alloc (Nat.le_refl _) (.cells #[.int .i64 k6, .int .u64 v1, .int .u64 v2, .int .u64 v3, .int .u64 v4, .slice o6 n6 c6] 27)
      have S8 := hide (RX.new (base := w.heap.size) w7 (unhide B7).size k6 ⟨v1, v2, v3, v4⟩ (.slice o6 n6 c6))
      have B8 := hide (bel_trans (unhide B7) b8)
      have X8 := hide ((unhide X7).below b8)
      have V8 := hide ((unhide V7).below b8)
      have U8 := hide ((unhide HVV).below b8)
      dsimp only at S8
      obtain ⟨g8, hg8⟩ : ∃ g, w7.heap.size = g := ⟨_, rfl⟩
      obtain ⟨W8, hW8⟩ : ∃ W8, w7.alloc (.cells #[.int .i64 k6, .int .u64 v1, .int .u64 v2, .int .u64 v3, .int .u64 v4, .slice o6 n6 c6] 27) = W8 := ⟨_, rfl⟩
      rw [hW8] at B8 X8 V8 U8 S8
      rw [hg8] at S8
      have HN8 := hide ((unhide HNN) W8 (unhide V8))
      obtain ⟨y0, y1, y2, y3, y4, y5⟩ := (unhide X8).cells
      dsimp only at y1 y2 y3 y4
      have hl8 := (unhide X8).lt
      clear b8 B7 X7 V7 HNN HVV
      go_wp2_with fail
      refine (unhide HN8).mono ?_
      rintro e w9 ⟨t, rfl, ht, b9⟩
      obtain rfl : t = false := by
        cases t
        · rfl
        · exact absurd hn ((unhide HNI).1 (ht.1 rfl))
      have B9 := hide (bel_trans (unhide B8) b9)
      have X9 := hide ((unhide X8).below b9)
      have S9 := hide ((unhide S8).below b9)
      have HSR := hide (sameRex_any y.rx rr _ _ w9 ((unhide U8).below b9) ((unhide V8).below b9))
      clear b9 ht HN8 hW8 hg8 y0 y1 y2 y3 y4 y5 hl8 B8 X8 V8 U8 S8
      obtain ⟨y0, y1, y2, y3, y4, y5⟩ := (unhide X9).cells
      obtain ⟨z0, z1, z2, z3, z4, z5⟩ := (unhide S9).cells
      dsimp only at y1 y2 y3 y4 z1 z2 z3 z4
      have hl9 := (unhide X9).lt
      have hl9' := (unhide S9).lt
      go_wp2_with fail
      refine (unhide HSR).mono ?_
      rintro e wa ⟨bt, rfl, hbt, ba⟩
      obtain rfl : bt = true := hbt.2 (unhide HY).symm
      have BA := hide (bel_trans (unhide B9) ba)
      clear ba hbt HSR
      go_wp2_with fail
      go_ret
      exact ⟨ret_bool (by simp), unhide BA⟩
  · have hq0 : q = ⟨#[]⟩ := (unhide HQ).1 hc0
    have hcb : (ck == 0) = false := beq_eq_false_iff_ne.2 hc0
    have hcn : (ck != 0) = true := bne_iff_ne.2 hc0
    have HCA := hide (fun (W : World) h => Check_any rr (.agg #[.int .i64 k0, .int .u64 a1, .int .u64 a2, .int .u64 a3, .int .u64 a4, .slice o0 ks.length c0]) W h)
    rw [unhide HCK] at HCA
    subst hq0
    clear HQ HCK hc0
    go_wp2_with fail
    refine ((unhide HCA) w6 (unhide V6)).mono ?_
    rintro e w7 ⟨rfl, b7⟩
    have B7 := hide (bel_trans (unhide B6) b7)
    clear b7
    go_wp2_with fail
    go_ret
    exact ⟨ret_bool (by simp), unhide B7⟩
theorem own : ownKnob Try.prog.godebug = none := by kernel_rfl

theorem small_of {H : Type} {a0 : DataW H} (hk : Rows.uptoSmall H ([a0] ++ []) = true) : Rows.uptoBulk a0 ≤ 1048576 := by
  have h := of_decide_eq_true hk
  simp only [Rows.uptoBulkAll, List.append_nil] at h
  omega

set_option maxRecDepth 100000 in
theorem contract (H : Type) (enc : TypeId × Value → H) (W : World) (base : Nat) (args : Array Value) (ds gs : List (DataW H)) (before : List MemPlace) (hsh : W.ShapedOpen Try.prog)
    (hval0 : ∀ (j : Nat) t v, Try.f4.params[j]? = some t → args[j]? = some v → Value.okWide Try.prog W .any base t v)
    (hW : DataW.Whole enc Try.prog Try.f4.params.toList Rows.rexBackSpec.vars false W args.toList ds gs before) (hk : Rows.uptoSmall H (ds ++ gs) = true) :
    Calls Try.prog 4 args W fun e W' => ∃ v, e = .returned v ∧ Rows.rexBackSpec.post enc Try.prog Try.f4 false true false false W args v W' := by
  have hval : ∀ (j : Nat) t v, Try.f4.params[j]? = some t → args[j]? = some v → Value.okWide Try.prog W .any base t v := hval0
  have hW' := hW
  obtain ⟨p, q, hA0, hV, rfl, hfz, hnd⟩ := hW
  have hA : DataW.TrodAll enc Try.prog W 0 (fun _ => true) true Try.f4.params.toList args.toList ds p := hA0
  rw [Try.params4] at hA hval
  obtain ⟨v0, vs0, d0, ds0, p0, q0, hargs, rfl, rfl, h0, r0⟩ := trodAll_cons hA
  obtain ⟨rfl, rfl, rfl⟩ := trodAll_nil r0
  obtain rfl : args = #[v0] := by cases args; simp_all
  obtain ⟨rfl, rfl⟩ := trodVars_none hV
  have hsm := small_of hk
  obtain ⟨z0, hI0, hlt0⟩ := open_rex_in (hval 0 27 v0 rfl rfl) h0 (by omega)
  clear hA0 hval0
  refine (walk v0 z0 W hI0).mono fun e W' ⟨he, hb⟩ => ?_
  subst he
  exact ⟨_, rfl, _, _, _, [], (p0 ++ []), [], hW', (trodAll_cons_mk (shut_bool Try.underlying4 _) trodAll_mk0), (trodAll_cons_mk (Below.trod laidOutAll (by kernel_rfl) (of_decide_eq_true (by kernel_rfl)) h0 hb hlt0) trodAll_mk0), rfl, hb.frame _, fun h => by cases h⟩

set_option maxRecDepth 100000 in
theorem lifted (os : Os) (started : os.Started) (H : Type) (enc : TypeId × Value → H) (F : Stop.Interp) :
    ReturnsInHanded {} Try.checked os 4 .any ((Rows.OpenSpec.upto Rows.rexBackSpec).pre6 enc Try.prog Try.f4 Rows.rexBackUptoRow.domain false) (((Rows.OpenSpec.upto Rows.rexBackSpec).at F).post enc Try.prog Try.f4 false true false false) := by
  refine cond_shaped (C := Try.checked) (s := Rows.OpenSpec.upto Rows.rexBackSpec) (k := Rows.uptoSmall) rfl own started (by kernel_rfl) Try.func4
    (OpenSpec.witness (enc := enc) (C := Try.checked) (s := Rows.OpenSpec.upto Rows.rexBackSpec) (k := Rows.uptoSmall) rfl false ⟨#[], #[.agg #[.int .i64 0, .int .u64 0, .int .u64 0, .int .u64 0, .int .u64 0, .slice none 0 0]], []⟩ 8 (by kernel_rfl) (by kernel_rfl) (by kernel_rfl)
      (x := ([.agg [.lit (.int .i64 0), .agg [.lit (.int .u64 0), .lit (.int .u64 0), .lit (.int .u64 0), .lit (.int .u64 0)], .nil]], [], [])) (by kernel_rfl) rfl (by kernel_rfl)) ?_
  intro W base args ds gs before hsh hval hW hk
  exact contract H enc W base args ds gs before hsh hval hW hk

theorem over : Rows.RexBackUptoSaid :=
  OpenClaim.holds_of_cond 4 Try.f4 rfl rfl rfl rfl rfl rfl rfl ⟨rfl, rfl, rfl, rfl, rfl⟩ rfl rfl rfl rfl rfl (by kernel_rfl) Try.func4 (by kernel_rfl)
    (of_decide_eq_true (by kernel_rfl)) (by unfold Func.isWrapper; first | (rw [if_pos (by decide +kernel)]; kernel_rfl) | (rw [if_neg (by decide +kernel)]; exact ⟨rfl, rfl⟩))
    (fun os started H enc _ F => lifted os started H enc F)
end Go.Proofs.Ytmhjfiaohbioeaa.rexBack
namespace Go.Proofs.Ytmhjfiaohbioeaa
theorem rexBack_holds : Rows.RexBackUptoSaid := rexBack.over
#print axioms rexBack_holds
end Go.Proofs.Ytmhjfiaohbioeaa
