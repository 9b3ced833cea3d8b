/- The document's reading of expressions: trees that fare alike; what a reader answers. -/
import Derived.Test.YtjecopdbcaojcaaHc
import Derived.Test.YtjecopdbcaojcaaHi
import Derived.Test.YtjecopdbcaojcaaVX
import Derived.Test.YtjecopdbcaojcaaKt
import Derived.Test.YtjecopdbcaojcaaVg
namespace Go.Proofs.Ytjecopdbcaojcaa
open Go.RowKit Kb
set_option linter.unusedVariables false
set_option maxRecDepth 20000

/-- trees of which the document tells the same -/
def Sim (x y : Rx) : Prop := x = y ∨ ((∀ d n, lookR x d n = lookR y d n) ∧ ∀ d n, (lookR x d n).2 ≠ 0)
theorem Sim.refl (x : Rx) : Sim x x := .inl rfl
theorem Sim.chk {x y : Rx} (h : Sim x y) : chkR x = chkR y := by
  rcases h with rfl | ⟨h, _⟩
  · rfl
  · unfold chkR; rw [h]
theorem Sim.same {x y : Rx} (h : Sim x y) (h0 : chkR x = 0) : x = y := by
  rcases h with rfl | ⟨_, h⟩
  · rfl
  · exact absurd h0 (h 1 0)
theorem look_kids {k : Int} {s : Se} {ks ls : List Rx} (hl : ks.length = ls.length) (h : ∀ d n, lookL ks d n = lookL ls d n) (h0 : ∀ d n, (lookL ks d n).2 ≠ 0) : Sim (.mk k s ks) (.mk k s ls) := by
  refine .inr ⟨fun d n => ?_, fun d n => ?_⟩
  · rw [lookR, lookR, hl, h]
  · rw [lookR]
    split
    · show (2 : Int) ≠ 0; decide
    · split
      · show (11 : Int) ≠ 0; decide
      · split
        · show (1 : Int) ≠ 0; decide
        · exact h0 _ _
theorem lookL_bad {x : Rx} {xs : List Rx} {d n : Nat} (h : (lookR x d n).2 ≠ 0) : lookL (x :: xs) d n = lookR x d n := by rw [lookL, if_pos h]
theorem lookL_ok {x : Rx} {xs : List Rx} {d n : Nat} (h : (lookR x d n).2 = 0) : lookL (x :: xs) d n = lookL xs d (lookR x d n).1 := by rw [lookL, if_neg (by rw [h]; decide)]
theorem Sim.one {x y : Rx} {k : Int} {s : Se} (h : Sim x y) : Sim (.mk k s [x]) (.mk k s [y]) := by
  rcases h with rfl | ⟨h1, h2⟩
  · exact .refl _
  · refine look_kids rfl (fun d n => ?_) fun d n => ?_
    · rw [lookL_bad (h2 d n), lookL_bad (by rw [← h1]; exact h2 d n), h1]
    · rw [lookL_bad (h2 d n)]; exact h2 d n
/-- where the first is wrong, no matter what the second is -/
theorem look_first {x y a b : Rx} {k : Int} {s : Se} (h1 : ∀ d n, lookR x d n = lookR y d n) (h2 : ∀ d n, (lookR x d n).2 ≠ 0) : Sim (.mk k s [x, a]) (.mk k s [y, b]) := by
  refine look_kids rfl (fun d n => ?_) fun d n => ?_
  · rw [lookL_bad (h2 d n), lookL_bad (by rw [← h1]; exact h2 d n), h1]
  · rw [lookL_bad (h2 d n)]; exact h2 d n
theorem Sim.two {x y a b : Rx} {k : Int} {s : Se} (h : Sim x y) (g : Sim a b) : Sim (.mk k s [x, a]) (.mk k s [y, b]) := by
  rcases h with rfl | ⟨h1, h2⟩
  · rcases g with rfl | ⟨g1, g2⟩
    · exact .refl _
    · refine look_kids rfl (fun d n => ?_) fun d n => ?_
      · by_cases hx : (lookR x d n).2 = 0
        · rw [lookL_ok hx, lookL_ok hx, lookL_bad (g2 _ _), lookL_bad (by rw [← g1]; exact g2 _ _), g1]
        · rw [lookL_bad hx, lookL_bad hx]
      · by_cases hx : (lookR x d n).2 = 0
        · rw [lookL_ok hx, lookL_bad (g2 _ _)]; exact g2 _ _
        · rw [lookL_bad hx]; exact hx
  · exact look_first h1 h2
theorem look_wt (r : Rx) : ∀ d n, (lookR r d n).2 = 0 → n < (lookR r d n).1 ∧ (lookR r d n).1 ≤ 80 ∧ ∀ m, m ≤ n → wtR r m = m + ((lookR r d n).1 - n) := by
  induction r using Rx.ind with
  | h k s ks ih =>
    intro d n h
    have hl : ∀ (l : List Rx), (∀ x ∈ l, x ∈ ks) → ∀ d n, n ≤ 80 → (lookL l d n).2 = 0 → n ≤ (lookL l d n).1 ∧ (lookL l d n).1 ≤ 80 ∧ ∀ m, m ≤ n → wtR.wtL l m = m + ((lookL l d n).1 - n) := by
      intro l
      induction l with
      | nil => intro _ d n hn _; rw [lookL]; exact ⟨Nat.le_refl _, hn, fun m hm => by rw [wtR.wtL]; dsimp only; omega⟩
      | cons x xs ihl =>
        intro hm d n hn h0
        by_cases hx : (lookR x d n).2 = 0
        · obtain ⟨a1, a2, a3⟩ := ih x (hm x (List.mem_cons_self)) d n hx
          rw [lookL_ok hx] at h0 ⊢
          obtain ⟨b1, b2, b3⟩ := ihl (fun y hy => hm y (List.mem_cons_of_mem _ hy)) d _ a2 h0
          refine ⟨by omega, b2, fun m hm2 => ?_⟩
          rw [wtR.wtL, if_pos (by omega), a3 m hm2, b3 _ (by omega)]
          omega
        · rw [lookL_bad hx] at h0; exact absurd h0 hx
    rw [lookR] at h ⊢
    by_cases h80 : 80 < n + 1
    · rw [if_pos h80] at h; exact absurd (show (2 : Int) = 0 from h) (by decide)
    rw [if_neg h80] at h ⊢
    by_cases h20 : 20 < d
    · rw [if_pos h20] at h; exact absurd (show (11 : Int) = 0 from h) (by decide)
    rw [if_neg h20] at h ⊢
    by_cases hb : badN k s ks.length
    · rw [if_pos hb] at h; exact absurd (show (1 : Int) = 0 from h) (by decide)
    rw [if_neg hb] at h ⊢
    obtain ⟨a1, a2, a3⟩ := hl ks (fun x hx => hx) (d + 1) (n + 1) (by omega) h
    refine ⟨by omega, a2, fun m hm => ?_⟩
    rw [wtR, a3 (m + 1) (by omega)]
    omega
theorem heavy {y : Rx} (h : 80 < wtR y 0) (d n : Nat) : (lookR y d n).2 ≠ 0 := by
  intro h0
  obtain ⟨a1, a2, a3⟩ := look_wt y d n h0
  have := a3 0 (Nat.zero_le _)
  omega
/-- behind a + -/
theorem Sim.plus {x y a b : Rx} (h : Sim x y) (hw : 80 < wtR y 0) {k : Int} {s : Se} : Sim (.mk k s [x, a]) (.mk k s [y, b]) := by
  rcases h with rfl | ⟨h1, h2⟩
  · exact look_first (fun _ _ => rfl) (heavy hw)
  · exact look_first h1 h2
theorem results_cell_d {fn : Func} {p : Tmp} {ty : TypeId} (h : fn.results = #[.cell p ty]) (tmps : Array Value) (w : World) (g : Nat) (z : Value)
    (hp : tmps.getD p undef = .pointer (some ⟨g, 0, none⟩)) (hl : (loadVar ty ⟨g, 0, none⟩).run Try.prog w = .ok z w) : (results fn tmps).run Try.prog w = .ok z w := by
  have hp' : tmps[p]?.getD undef = .pointer (some ⟨g, 0, none⟩) := by simpa using hp
  simp [results, h, hp', asAddr, hl]
theorem Txt.cellI {w : World} {B g : Nat} {s : ByteArray} {t : Td} (h : Txt w B g s t) : cellI w g 1 = t.at_ := by
  unfold Go.Proofs.Ytjecopdbcaojcaa.cellI
  rw [h.cells.2.1]; simp [intOf]
theorem pk_dec {s : ByteArray} {a op ww : Nat} (c : UInt8) (hc : c ≠ 0) : (((pk s ⟨a, op, 0, ww⟩).toList == [c]) : Bool) = decide (pkB s a = c) := by
  by_cases hl : a < s.size
  · rw [pk_yes hl]
    by_cases h : pkB s a = c
    · rw [one_t h, decide_eq_true h]
    · rw [one_f h, decide_eq_false h]
  · rw [pk_no (fun h => hl h.2), decide_eq_false (by rw [pkB_end hl]; exact fun e => hc e.symm), Lib.toList_data]; rfl
theorem pk_err {s : ByteArray} {a op ww : Nat} {e : Int} (h : e ≠ 0) : pk s ⟨a, op, e, ww⟩ = ⟨#[]⟩ := pk_no fun h' => h h'.1
/-- what came of reading -/
def RsD (N : Nat → Prop) (w : World) (r : Rs) (rv : Value) (t : Td) : Prop :=
  match r with
  | .ok x b => t.e = 0 ∧ t.at_ = b ∧ ∃ y, Sim x.rx y ∧ RexN N w rv y
  | .err e b => t.e = e ∧ e ≠ 0 ∧ t.ww = b ∧ FormV rv
section
variable {N N' : Nat → Prop} {w w' : World} {r : Rs} {rv : Value} {t : Td}
theorem RsD.form (h : RsD N w r rv t) : FormV rv := by
  cases r with
  | ok x a => obtain ⟨_, _, y, _, h⟩ := h; exact h.formV
  | err e a => exact h.2.2.2
theorem RsD.move (h : RsD N w r rv t) (hs : w.heap.size ≤ w'.heap.size) (hh : ∀ k, N k → k < w.heap.size → w'.heap[k]? = w.heap[k]? ∧ N' k) : RsD N' w' r rv t := by
  cases r with
  | ok x a => obtain ⟨h1, h2, y, h3, h4⟩ := h; exact ⟨h1, h2, y, h3, h4.move hs hh⟩
  | err e a => exact h
theorem RsD.grown {row : Option Nat} (h : RsD N w r rv t) (g : w.grownBy w' row) (hh : ∀ k, N k → k < w.heap.size → some k ≠ row ∧ N' k) : RsD N' w' r rv t := h.move g.size fun k hk hl => ⟨g.block k hl (hh k hk hl).1, (hh k hk hl).2⟩
end
theorem dleaf_ok {N : Nat → Prop} {w : World} {x : Ex} {k : Int} {b op ww : Nat} (hx : x.rx = .mk k noSet []) (hk : 1 ≤ k ∧ k ≤ 8) : RsD N w (.ok x b) (.agg #[.int .i64 k, .int .u64 0, .int .u64 0, .int .u64 0, .int .u64 0, .slice none 0 0]) ⟨b, op, 0, ww⟩ := by
  refine ⟨rfl, rfl, x.rx, .refl _, ?_⟩
  rw [hx]
  exact rexN_leaf N w k noSet hk ⟨by simp [noSet], by simp [noSet], by simp [noSet], by simp [noSet]⟩
theorem dbyte_ok {N : Nat → Prop} {w : World} {t : Se} {p : Nat → Bool} {b op ww : Nat} (ft : FitS t) (h : ∀ j, j < 256 → bit t j = p j) : RsD N w (.ok (.byte (setOf p)) b) (.agg #[.int .i64 3, .int .u64 t.a, .int .u64 t.b, .int .u64 t.c, .int .u64 t.d, .slice none 0 0]) ⟨b, op, 0, ww⟩ := by
  rw [← setOf_of ft h]
  exact ⟨rfl, rfl, _, .refl _, rexN_leaf N w 3 t (by omega) ft⟩
theorem derr_ok {N : Nat → Prop} {w : World} {e : Int} {k s1 s2 s3 s4 : Int} {o : Option Addr} {n c a b op : Nat} (he : e ≠ 0) : RsD N w (.err e b) (.agg #[.int .i64 k, .int .u64 s1, .int .u64 s2, .int .u64 s3, .int .u64 s4, .slice o n c]) ⟨a, op, e, b⟩ := ⟨rfl, he, rfl, k, ⟨s1, s2, s3, s4⟩, o, n, c, rfl⟩
/-- what a function of the document's reader does -/
def DrC (f : FuncId) (s : ByteArray) (op : Nat) (R : Nat → Rs) : Prop := ∀ (w : World) (B g a ww : Nat), Txt w B g s ⟨a, op, 0, ww⟩ → a ≤ s.size →
  Calls Try.prog f #[.pointer (some ⟨g, 0, none⟩)] w fun e w' => ∃ (rv : Value) (t' : Td), e = .returned rv ∧ w.grownBy w' (some g) ∧ RsD (fun q => w.heap.size ≤ q) w' (R a) rv t' ∧ t'.op = op ∧ t'.at_ ≤ s.size + 100 - op ∧ Txt w' B g s t'
/-- where a function of it stands: the variable of its result, and the text -/
structure Dt0 (w wr : World) (B g : Nat) (s : ByteArray) (t : Td) : Prop where
  rb : RX wr w.heap.size w.heap.size 0 ⟨0, 0, 0, 0⟩ (.slice none 0 0)
  gr : w.grownBy wr (some g)
  tx : Txt wr B g s t
  lt : g < w.heap.size
structure Dt1 (w wr : World) (B g : Nat) (s : ByteArray) (t : Td) (gb : Nat) (k : Int) (sx : Se) (e : Value) : Prop extends Dt0 w wr B g s t where
  box : RX wr w.heap.size gb k sx e
  hgb : w.heap.size < gb
section
variable {w wr w' : World} {B g gb gm : Nat} {s : ByteArray} {t t' : Td} {k : Int} {sx : Se} {e : Value}
theorem Dt0.start (h : Txt w B g s t) : Dt0 w (w.alloc (.cells #[.int .i64 0, .int .u64 0, .int .u64 0, .int .u64 0, .int .u64 0, .slice none 0 0] 27)) B g s t :=
  ⟨RX.new w (Nat.le_refl _) 0 ⟨0, 0, 0, 0⟩ _, World.grownBy_alloc _ _ _, h.below ((Below.refl _ _).alloc (Nat.le_refl _) _), h.lt.2⟩
theorem Dt0.step (A : Dt0 w wr B g s t) (g' : wr.grownBy w' (some g)) (r : Txt w' B g s t') : Dt0 w w' B g s t' :=
  ⟨A.rb.kept g' (fun e => by have := A.lt; cases e; omega), A.gr.trans g', r, A.lt⟩
theorem Dt0.below (A : Dt0 w wr B g s t) (bb : Below wr.heap.size wr w') : Dt0 w w' B g s t := A.step (grown_below' bb _) (A.tx.below bb)
theorem Dt0.own (A : Dt0 w wr B g s t) (g' : wr.grownBy w' (some gm)) (h1 : w.heap.size < gm) : Dt0 w w' B g s t := by
  have h3 := A.lt
  exact ⟨A.rb.kept g' (fun e => by cases e; omega), World.grownBy.andThen A.gr g' (fun j hj => by cases hj; exact .inl (Nat.le_of_lt h1)), World.ownsRow.kept A.tx g' (.inr (by simp [Value.ownBlock]; omega)), h3⟩
theorem Dt0.sz (A : Dt0 w wr B g s t) : w.heap.size < wr.heap.size := A.rb.lt.2
theorem Dt0.alloc (A : Dt0 w wr B g s t) (o : Obj) : Dt0 w (wr.alloc o) B g s t := A.below ((Below.refl _ _).alloc (Nat.le_refl _) o)
theorem Dt0.at_ {a op ww : Nat} {e : Int} (A : Dt0 w wr B g s ⟨a, op, e, ww⟩) (n : Nat) : Dt0 w (wr.setCell ⟨g, 1, none⟩ (.int .i64 n)) B g s ⟨n, op, e, ww⟩ ∧ wr.grownBy (wr.setCell ⟨g, 1, none⟩ (.int .i64 n)) (some g) := by
  obtain ⟨s1, g1⟩ := World.ownsRow.stored A.tx 1 (.int .i64 n)
  exact ⟨A.step g1 s1, g1⟩
theorem Dt0.op_ {a op ww : Nat} {e : Int} (A : Dt0 w wr B g s ⟨a, op, e, ww⟩) (n : Nat) : Dt0 w (wr.setCell ⟨g, 2, none⟩ (.int .i64 n)) B g s ⟨a, n, e, ww⟩ ∧ wr.grownBy (wr.setCell ⟨g, 2, none⟩ (.int .i64 n)) (some g) := by
  obtain ⟨s1, g1⟩ := World.ownsRow.stored A.tx 2 (.int .i64 n)
  exact ⟨A.step g1 s1, g1⟩
theorem Dt0.fin {r : Rs} {k s1 s2 s3 s4 : Int} {o : Option Addr} {n c : Nat} (A : Dt0 w wr B g s t) (V : RsD (fun q => w.heap.size < q) wr r (.agg #[.int .i64 k, .int .u64 s1, .int .u64 s2, .int .u64 s3, .int .u64 s4, .slice o n c]) t) :
    (loadVar 27 ⟨w.heap.size, 0, none⟩).run Try.prog (put6 wr w.heap.size k s1 s2 s3 s4 (.slice o n c)) = .ok (.agg #[.int .i64 k, .int .u64 s1, .int .u64 s2, .int .u64 s3, .int .u64 s4, .slice o n c]) (put6 wr w.heap.size k s1 s2 s3 s4 (.slice o n c)) ∧
    w.grownBy (put6 wr w.heap.size k s1 s2 s3 s4 (.slice o n c)) (some g) ∧ Txt (put6 wr w.heap.size k s1 s2 s3 s4 (.slice o n c)) B g s t ∧ RsD (fun q => w.heap.size ≤ q) (put6 wr w.heap.size k s1 s2 s3 s4 (.slice o n c)) r (.agg #[.int .i64 k, .int .u64 s1, .int .u64 s2, .int .u64 s3, .int .u64 s4, .slice o n c]) t := by
  obtain ⟨p1, p2⟩ := A.rb.put k s1 s2 s3 s4 (.slice o n c)
  obtain ⟨fr, hh⟩ := own_one p1
  have hg := A.lt
  refine ⟨load_rex rfl hh, World.grownBy.andThen A.gr p2 (fun j hj => by cases hj; exact .inl (Nat.le_refl _)), World.ownsRow.kept A.tx p2 (.inr (by simp [Value.ownBlock]; omega)), V.grown p2 fun q hq _ => ⟨fun e => ?_, Nat.le_of_lt hq⟩⟩
  cases e
  exact absurd hq (Nat.lt_irrefl _)
theorem Dt0.up {r : Rs} {rv : Value} {w2 : World} {t2 : Td} (A : Dt0 w wr B g s t) (V : RsD (fun q => wr.heap.size ≤ q) w2 r rv t2) : RsD (fun q => w.heap.size < q) w2 r rv t2 := V.move (Nat.le_refl _) fun k hk _ => ⟨rfl, Nat.lt_of_lt_of_le A.sz hk⟩
theorem Dt1.step (A : Dt1 w wr B g s t gb k sx e) (g' : wr.grownBy w' (some g)) (r : Txt w' B g s t') : Dt1 w w' B g s t' gb k sx e :=
  ⟨A.toDt0.step g' r, A.box.kept g' (fun e => by have := A.lt; have := A.hgb; cases e; omega), A.hgb⟩
theorem Dt1.below (A : Dt1 w wr B g s t gb k sx e) (bb : Below wr.heap.size wr w') : Dt1 w w' B g s t gb k sx e := A.step (grown_below' bb _) (A.tx.below bb)
theorem Dt1.alloc (A : Dt1 w wr B g s t gb k sx e) (o : Obj) : Dt1 w (wr.alloc o) B g s t gb k sx e := A.below ((Below.refl _ _).alloc (Nat.le_refl _) o)
theorem Dt1.drew (A : Dt1 w wr B g s t gb k sx e) : Dt1 w wr.drew B g s t gb k sx e := A.below (Below.refl _ _).drew
theorem Dt1.at_ {a op ww : Nat} {z : Int} (A : Dt1 w wr B g s ⟨a, op, z, ww⟩ gb k sx e) (n : Nat) : Dt1 w (wr.setCell ⟨g, 1, none⟩ (.int .i64 n)) B g s ⟨n, op, z, ww⟩ gb k sx e ∧ wr.grownBy (wr.setCell ⟨g, 1, none⟩ (.int .i64 n)) (some g) := by
  obtain ⟨s1, g1⟩ := World.ownsRow.stored A.tx 1 (.int .i64 n)
  exact ⟨A.step g1 s1, g1⟩
theorem Dt1.op_ {a op ww : Nat} {z : Int} (A : Dt1 w wr B g s ⟨a, op, z, ww⟩ gb k sx e) (n : Nat) : Dt1 w (wr.setCell ⟨g, 2, none⟩ (.int .i64 n)) B g s ⟨a, n, z, ww⟩ gb k sx e ∧ wr.grownBy (wr.setCell ⟨g, 2, none⟩ (.int .i64 n)) (some g) := by
  obtain ⟨s1, g1⟩ := World.ownsRow.stored A.tx 2 (.int .i64 n)
  exact ⟨A.step g1 s1, g1⟩
theorem Dt1.start (A : Dt0 w wr B g s t) (k : Int) (sx : Se) (e : Value) : Dt1 w (wr.alloc (.cells #[.int .i64 k, .int .u64 sx.a, .int .u64 sx.b, .int .u64 sx.c, .int .u64 sx.d, e] 27)) B g s t wr.heap.size k sx e :=
  ⟨A.alloc _, RX.new wr (Nat.le_of_lt A.sz) k sx e, A.sz⟩
theorem Dt1.put (A : Dt1 w wr B g s t gb k sx e) (k' s1 s2 s3 s4 : Int) (e' : Value) : Dt1 w (put6 wr gb k' s1 s2 s3 s4 e') B g s t gb k' ⟨s1, s2, s3, s4⟩ e' ∧ wr.grownBy (put6 wr gb k' s1 s2 s3 s4 e') (some gb) := by
  obtain ⟨p1, p2⟩ := A.box.put k' s1 s2 s3 s4 e'
  have h1 := A.hgb
  have h2 := A.lt
  refine ⟨⟨⟨A.rb.kept p2 (fun e => by cases e; omega), World.grownBy.andThen A.gr p2 (fun j hj => by cases hj; exact .inl (Nat.le_of_lt h1)), World.ownsRow.kept A.tx p2 (.inr (by simp [Value.ownBlock]; omega)), h2⟩, p1, h1⟩, p2⟩
theorem Dt1.gsz (A : Dt1 w wr B g s t gb k sx e) : gb < wr.heap.size := A.box.lt.2
theorem Dt1.other (A : Dt1 w wr B g s t gb k sx e) (g' : wr.grownBy w' (some gm)) (h1 : w.heap.size < gm) (h2 : gm ≠ gb) : Dt1 w w' B g s t gb k sx e := by
  have h3 := A.lt
  exact ⟨⟨A.rb.kept g' (fun e => by cases e; omega), World.grownBy.andThen A.gr g' (fun j hj => by cases hj; exact .inl (Nat.le_of_lt h1)), World.ownsRow.kept A.tx g' (.inr (by simp [Value.ownBlock]; omega)), h3⟩, A.box.kept g' (fun e => by cases e; exact h2 rfl), A.hgb⟩
end
end Go.Proofs.Ytjecopdbcaojcaa

/- The document's reading of expressions: an atom. -/
namespace Go.Proofs.Ytjecopdbcaojcaa
open Go.RowKit Kb
set_option linter.unusedVariables false
set_option maxRecDepth 20000

theorem a1_any (b : Nat) (W : World) (hb : b < 256) :
    Calls Try.prog 56 (#[.int .i64 b] ++ #[]) W fun e W' => e = .returned (.bool (decide (b ≠ 10))) ∧ Below W.heap.size W W' := by
  by_cases h : b = 10
  · subst h
    go_enter Try.func56, Try.ntmps56
    go_wp2_with fail
    go_ret
    exact ⟨rfl, Below.refl _ _⟩
  · have hi : ((b : Int) != 10) = true := by simp; omega
    have hi2 : ((b : Int) == 10) = false := by simp; omega
    have HH := hide h
    clear h
    go_enter Try.func56, Try.ntmps56
    go_wp2_with fail
    go_ret
    exact ⟨by rw [decide_eq_true (unhide HH)]; rfl, Below.refl _ _⟩
theorem a2_any (b x g : Nat) (W : World) (hb : b < 256) (hx : x < 256) (hc : W.cell? ⟨g, 0, none⟩ = some (.int .i64 x)) :
    Calls Try.prog 59 (#[.int .i64 b] ++ #[.pointer (some ⟨g, 0, none⟩)]) W fun e W' => e = .returned (.bool (decide (b = x))) ∧ Below W.heap.size W W' := by
  have hi : (((b : Int) == (x : Int)) : Bool) = decide (b = x) := by rw [Bool.eq_iff_iff]; simp; omega
  go_enter Try.func59, Try.ntmps59
  go_wp2_with fail
  go_ret
  exact ⟨by first | rfl | (rw [← hi]; rfl) | rw [hi], Below.refl _ _⟩
/-- what a function answers that was called at a -/
abbrev DrP (w : World) (B g : Nat) (s : ByteArray) (op : Nat) (r : Rs) : Ending → World → Prop := fun e w' => ∃ (rv : Value) (t' : Td), e = .returned rv ∧ w.grownBy w' (some g) ∧ RsD (fun q => w.heap.size ≤ q) w' r rv t' ∧ t'.op = op ∧ t'.at_ ≤ s.size + 100 - op ∧ Txt w' B g s t'
set_option maxHeartbeats 8000000 in
theorem datom_deep (w : World) (B g : Nat) (s : ByteArray) (a op ww : Nat) (h : Txt w B g s ⟨a, op, 0, ww⟩) (hs : s.size ≤ 200) (ha : a ≤ s.size) (hop : op ≤ 20) (hk : pkB s a = 40) (h20 : op = 20) :
    Calls Try.prog 46 #[.pointer (some ⟨g, 0, none⟩)] w (DrP w B g s op (.err 11 a)) := by
  have A0 := hide (Dt0.start h)
  have HPK := hide (peek_any _ B g s _ (unhide A0).tx hs (by show a ≤ _; omega))
  have q40 := pk_dec (s := s) (a := a) (op := op) (ww := ww) 40 (by decide)
  have q46 := pk_dec (s := s) (a := a) (op := op) (ww := ww) 46 (by decide)
  have q94 := pk_dec (s := s) (a := a) (op := op) (ww := ww) 94 (by decide)
  have q36 := pk_dec (s := s) (a := a) (op := op) (ww := ww) 36 (by decide)
  have q91 := pk_dec (s := s) (a := a) (op := op) (ww := ww) 91 (by decide)
  obtain ⟨c, hc⟩ : ∃ c, pk s ⟨a, op, 0, ww⟩ = c := ⟨_, rfl⟩
  rw [hc] at HPK q40 q46 q94 q36 q91
  rw [decide_eq_true hk] at q40
  clear q46
  clear q94
  clear q36
  clear q91
  clear hk
  subst h20
  clear hc h
  go_enter Try.func46, Try.ntmps46
  go_wp2_with fail
  refine (unhide HPK).mono ?_; rintro e w1 ⟨rfl, b1⟩
  have A1 := hide ((unhide A0).below b1)
  clear b1 A0 HPK
  have HWR := hide (wrong_any w1 B g s _ (unhide A1).tx 11 a)
  rw [show wrongT ⟨a, 20, 0, ww⟩ 11 a = ⟨a, 20, 11, a⟩ from if_pos rfl] at HWR
  obtain ⟨c0, c1, c2, c3, c4⟩ := (unhide A1).tx.cells
  dsimp only at c0 c1 c2 c3 c4
  have c2' : w1.cell? ⟨g, 2, none⟩ = some (.int .i64 20) := c2
  clear c2
  go_wp2_with fail
  refine (unhide HWR).mono ?_; rintro e w2 ⟨rfl, g2, t2⟩
  have A2 := hide ((unhide A1).step g2 t2)
  have V2 : Hid (RsD (fun q => w.heap.size < q) w2 (.err 11 a) (.agg #[.int .i64 0, .int .u64 0, .int .u64 0, .int .u64 0, .int .u64 0, .slice none 0 0]) ⟨a, 20, 11, a⟩) := hide (derr_ok (by decide))
  clear g2 t2 A1 HWR c0 c1 c2' c3 c4
  obtain ⟨y0, y1, y2, y3, y4, y5⟩ := (unhide A2).rb.cells
  obtain ⟨z0, z1, z2, z3, z4, z5⟩ := (unhide A2).rb.frozen
  dsimp only at y1 y2 y3 y4
  have F := hide ((unhide A2).fin (unhide V2))
  go_wp2_with fail
  (try simp only [Exit.inBlock, Exit.then])
  refine bodyPost_ret_by (v := .agg #[.int .i64 0, .int .u64 0, .int .u64 0, .int .u64 0, .int .u64 0, .slice none 0 0]) ?_ rfl ⟨_, _, rfl, (unhide F).2.1, (unhide F).2.2.2, rfl, (by show a ≤ _; omega), (unhide F).2.2.1⟩
  exact results_cell_d (ty := 27) rfl _ _ w.heap.size _ rfl (unhide F).1
set_option maxHeartbeats 8000000 in
theorem datom_beg (w : World) (B g : Nat) (s : ByteArray) (a op ww : Nat) (h : Txt w B g s ⟨a, op, 0, ww⟩) (hs : s.size ≤ 200) (ha : a ≤ s.size) (hop : op ≤ 20) (hk : pkB s a = 94) :
    Calls Try.prog 46 #[.pointer (some ⟨g, 0, none⟩)] w (DrP w B g s op (.ok .beg (a + 1))) := by
  have A0 := hide (Dt0.start h)
  have HPK := hide (peek_any _ B g s _ (unhide A0).tx hs (by show a ≤ _; omega))
  have q40 := pk_dec (s := s) (a := a) (op := op) (ww := ww) 40 (by decide)
  have q46 := pk_dec (s := s) (a := a) (op := op) (ww := ww) 46 (by decide)
  have q94 := pk_dec (s := s) (a := a) (op := op) (ww := ww) 94 (by decide)
  have q36 := pk_dec (s := s) (a := a) (op := op) (ww := ww) 36 (by decide)
  have q91 := pk_dec (s := s) (a := a) (op := op) (ww := ww) 91 (by decide)
  obtain ⟨c, hc⟩ : ∃ c, pk s ⟨a, op, 0, ww⟩ = c := ⟨_, rfl⟩
  rw [hc] at HPK q40 q46 q94 q36 q91
  rw [decide_eq_false (by rw [hk]; decide)] at q40
  rw [decide_eq_false (by rw [hk]; decide)] at q46
  rw [decide_eq_true hk] at q94
  clear q36
  clear q91
  have hlt := pk_some hk (by decide)
  clear hk
  clear hc h
  go_enter Try.func46, Try.ntmps46
  go_wp2_with fail
  refine (unhide HPK).mono ?_; rintro e w1 ⟨rfl, b1⟩
  have A1 := hide ((unhide A0).below b1)
  clear b1 A0 HPK
  have f1 := World.ownsRow.frozenAt (unhide A1).tx 1
  obtain ⟨c0, c1, c2, c3, c4⟩ := (unhide A1).tx.cells
  dsimp only at c0 c1 c2 c3 c4
  have A2 := hide ((unhide A1).at_ (a + 1)).1
  obtain ⟨W2, hW2⟩ : ∃ W, w1.setCell ⟨g, 1, none⟩ (.int .i64 ((a + 1 : Nat) : Int)) = W := ⟨_, rfl⟩
  rw [hW2] at A2
  rw [Int.natCast_add, Int.cast_ofNat_Int] at hW2
  go_wp2_with fail
  clear hW2 c0 c1 c2 c3 c4 f1 A1
  refine (node_any 7 none 0 0 _).mono ?_; rintro e w3 ⟨rfl, b3⟩
  have A3 := hide ((unhide A2).below b3)
  have V3 : Hid (RsD (fun q => w.heap.size < q) w3 (.ok .beg (a + 1)) (.agg #[.int .i64 7, .int .u64 0, .int .u64 0, .int .u64 0, .int .u64 0, .slice none 0 0]) ⟨a + 1, op, 0, ww⟩) := hide (dleaf_ok rfl (by omega))
  clear b3 A2
  obtain ⟨y0, y1, y2, y3, y4, y5⟩ := (unhide A3).rb.cells
  obtain ⟨z0, z1, z2, z3, z4, z5⟩ := (unhide A3).rb.frozen
  dsimp only at y1 y2 y3 y4
  have F := hide ((unhide A3).fin (unhide V3))
  go_wp2_with fail
  (try simp only [Exit.inBlock, Exit.then])
  refine bodyPost_ret_by (v := .agg #[.int .i64 7, .int .u64 0, .int .u64 0, .int .u64 0, .int .u64 0, .slice none 0 0]) ?_ rfl ⟨_, _, rfl, (unhide F).2.1, (unhide F).2.2.2, rfl, (by show a + 1 ≤ _; omega), (unhide F).2.2.1⟩
  exact results_cell_d (ty := 27) rfl _ _ w.heap.size _ rfl (unhide F).1
set_option maxHeartbeats 8000000 in
theorem datom_end (w : World) (B g : Nat) (s : ByteArray) (a op ww : Nat) (h : Txt w B g s ⟨a, op, 0, ww⟩) (hs : s.size ≤ 200) (ha : a ≤ s.size) (hop : op ≤ 20) (hk : pkB s a = 36) :
    Calls Try.prog 46 #[.pointer (some ⟨g, 0, none⟩)] w (DrP w B g s op (.ok .en (a + 1))) := by
  have A0 := hide (Dt0.start h)
  have HPK := hide (peek_any _ B g s _ (unhide A0).tx hs (by show a ≤ _; omega))
  have q40 := pk_dec (s := s) (a := a) (op := op) (ww := ww) 40 (by decide)
  have q46 := pk_dec (s := s) (a := a) (op := op) (ww := ww) 46 (by decide)
  have q94 := pk_dec (s := s) (a := a) (op := op) (ww := ww) 94 (by decide)
  have q36 := pk_dec (s := s) (a := a) (op := op) (ww := ww) 36 (by decide)
  have q91 := pk_dec (s := s) (a := a) (op := op) (ww := ww) 91 (by decide)
  obtain ⟨c, hc⟩ : ∃ c, pk s ⟨a, op, 0, ww⟩ = c := ⟨_, rfl⟩
  rw [hc] at HPK q40 q46 q94 q36 q91
  rw [decide_eq_false (by rw [hk]; decide)] at q40
  rw [decide_eq_false (by rw [hk]; decide)] at q46
  rw [decide_eq_false (by rw [hk]; decide)] at q94
  rw [decide_eq_true hk] at q36
  clear q91
  have hlt := pk_some hk (by decide)
  clear hk
  clear hc h
  go_enter Try.func46, Try.ntmps46
  go_wp2_with fail
  refine (unhide HPK).mono ?_; rintro e w1 ⟨rfl, b1⟩
  have A1 := hide ((unhide A0).below b1)
  clear b1 A0 HPK
  have f1 := World.ownsRow.frozenAt (unhide A1).tx 1
  obtain ⟨c0, c1, c2, c3, c4⟩ := (unhide A1).tx.cells
  dsimp only at c0 c1 c2 c3 c4
  have A2 := hide ((unhide A1).at_ (a + 1)).1
  obtain ⟨W2, hW2⟩ : ∃ W, w1.setCell ⟨g, 1, none⟩ (.int .i64 ((a + 1 : Nat) : Int)) = W := ⟨_, rfl⟩
  rw [hW2] at A2
  rw [Int.natCast_add, Int.cast_ofNat_Int] at hW2
  go_wp2_with fail
  clear hW2 c0 c1 c2 c3 c4 f1 A1
  refine (node_any 8 none 0 0 _).mono ?_; rintro e w3 ⟨rfl, b3⟩
  have A3 := hide ((unhide A2).below b3)
  have V3 : Hid (RsD (fun q => w.heap.size < q) w3 (.ok .en (a + 1)) (.agg #[.int .i64 8, .int .u64 0, .int .u64 0, .int .u64 0, .int .u64 0, .slice none 0 0]) ⟨a + 1, op, 0, ww⟩) := hide (dleaf_ok rfl (by omega))
  clear b3 A2
  obtain ⟨y0, y1, y2, y3, y4, y5⟩ := (unhide A3).rb.cells
  obtain ⟨z0, z1, z2, z3, z4, z5⟩ := (unhide A3).rb.frozen
  dsimp only at y1 y2 y3 y4
  have F := hide ((unhide A3).fin (unhide V3))
  go_wp2_with fail
  (try simp only [Exit.inBlock, Exit.then])
  refine bodyPost_ret_by (v := .agg #[.int .i64 8, .int .u64 0, .int .u64 0, .int .u64 0, .int .u64 0, .slice none 0 0]) ?_ rfl ⟨_, _, rfl, (unhide F).2.1, (unhide F).2.2.2, rfl, (by show a + 1 ≤ _; omega), (unhide F).2.2.1⟩
  exact results_cell_d (ty := 27) rfl _ _ w.heap.size _ rfl (unhide F).1
set_option maxHeartbeats 8000000 in
theorem datom_dot (w : World) (B g : Nat) (s : ByteArray) (a op ww : Nat) (h : Txt w B g s ⟨a, op, 0, ww⟩) (hs : s.size ≤ 200) (ha : a ≤ s.size) (hop : op ≤ 20) (hk : pkB s a = 46) :
    Calls Try.prog 46 #[.pointer (some ⟨g, 0, none⟩)] w (DrP w B g s op (.ok (.byte (setOf (fun j => decide (j ≠ 10)))) (a + 1))) := by
  have A0 := hide (Dt0.start h)
  have HPK := hide (peek_any _ B g s _ (unhide A0).tx hs (by show a ≤ _; omega))
  have q40 := pk_dec (s := s) (a := a) (op := op) (ww := ww) 40 (by decide)
  have q46 := pk_dec (s := s) (a := a) (op := op) (ww := ww) 46 (by decide)
  have q94 := pk_dec (s := s) (a := a) (op := op) (ww := ww) 94 (by decide)
  have q36 := pk_dec (s := s) (a := a) (op := op) (ww := ww) 36 (by decide)
  have q91 := pk_dec (s := s) (a := a) (op := op) (ww := ww) 91 (by decide)
  obtain ⟨c, hc⟩ : ∃ c, pk s ⟨a, op, 0, ww⟩ = c := ⟨_, rfl⟩
  rw [hc] at HPK q40 q46 q94 q36 q91
  rw [decide_eq_false (by rw [hk]; decide)] at q40
  rw [decide_eq_true hk] at q46
  clear q94
  clear q36
  clear q91
  have hlt := pk_some hk (by decide)
  clear hk
  clear hc h
  go_enter Try.func46, Try.ntmps46
  go_wp2_with fail
  refine (unhide HPK).mono ?_; rintro e w1 ⟨rfl, b1⟩
  have A1 := hide ((unhide A0).below b1)
  clear b1 A0 HPK
  have f1 := World.ownsRow.frozenAt (unhide A1).tx 1
  obtain ⟨c0, c1, c2, c3, c4⟩ := (unhide A1).tx.cells
  dsimp only at c0 c1 c2 c3 c4
  have A2 := hide ((unhide A1).at_ (a + 1)).1
  obtain ⟨W2, hW2⟩ : ∃ W, w1.setCell ⟨g, 1, none⟩ (.int .i64 ((a + 1 : Nat) : Int)) = W := ⟨_, rfl⟩
  rw [hW2] at A2
  rw [Int.natCast_add, Int.cast_ofNat_Int] at hW2
  have HWH := hide (where_a1 #[] (fun j => decide (j ≠ 10)) W2 (fun b W' hb _ => a1_any b W' hb))
  go_wp2_with fail
  clear hW2 c0 c1 c2 c3 c4 f1 A1
  refine (unhide HWH).mono ?_; rintro e w3 ⟨⟨qa, qb, qc, qd⟩, rfl, fit, bits, b3⟩
  have A3 := hide ((unhide A2).below b3)
  have V3 : Hid (RsD (fun q => w.heap.size < q) w3 (.ok (.byte (setOf (fun j => decide (j ≠ 10)))) (a + 1)) (.agg #[.int .i64 3, .int .u64 qa, .int .u64 qb, .int .u64 qc, .int .u64 qd, .slice none 0 0]) ⟨a + 1, op, 0, ww⟩) := hide (dbyte_ok fit bits)
  unfold setV
  clear b3 A2 HWH fit bits
  obtain ⟨y0, y1, y2, y3, y4, y5⟩ := (unhide A3).rb.cells
  obtain ⟨z0, z1, z2, z3, z4, z5⟩ := (unhide A3).rb.frozen
  dsimp only at y1 y2 y3 y4
  have F := hide ((unhide A3).fin (unhide V3))
  go_wp2_with fail
  (try simp only [Exit.inBlock, Exit.then])
  refine bodyPost_ret_by (v := .agg #[.int .i64 3, .int .u64 qa, .int .u64 qb, .int .u64 qc, .int .u64 qd, .slice none 0 0]) ?_ rfl ⟨_, _, rfl, (unhide F).2.1, (unhide F).2.2.2, rfl, (by show a + 1 ≤ _; omega), (unhide F).2.2.1⟩
  exact results_cell_d (ty := 27) rfl _ _ w.heap.size _ rfl (unhide F).1
/-- what a class is -/
def clsR (s : ByteArray) (a : Nat) : Rs := match itemsR s a with | (none, b) => .err 3 b | (some p, b) => .ok (.byte (setOf p)) b
set_option maxHeartbeats 8000000 in
theorem datom_cls (w : World) (B g : Nat) (s : ByteArray) (a op ww : Nat) (h : Txt w B g s ⟨a, op, 0, ww⟩) (hs : s.size ≤ 200) (ha : a ≤ s.size) (hop : op ≤ 20) (hk : pkB s a = 91) :
    Calls Try.prog 46 #[.pointer (some ⟨g, 0, none⟩)] w (DrP w B g s op (clsR s (a + 1))) := by
  have A0 := hide (Dt0.start h)
  have HPK := hide (peek_any _ B g s _ (unhide A0).tx hs (by show a ≤ _; omega))
  have q40 := pk_dec (s := s) (a := a) (op := op) (ww := ww) 40 (by decide)
  have q46 := pk_dec (s := s) (a := a) (op := op) (ww := ww) 46 (by decide)
  have q94 := pk_dec (s := s) (a := a) (op := op) (ww := ww) 94 (by decide)
  have q36 := pk_dec (s := s) (a := a) (op := op) (ww := ww) 36 (by decide)
  have q91 := pk_dec (s := s) (a := a) (op := op) (ww := ww) 91 (by decide)
  obtain ⟨c, hc⟩ : ∃ c, pk s ⟨a, op, 0, ww⟩ = c := ⟨_, rfl⟩
  rw [hc] at HPK q40 q46 q94 q36 q91
  rw [decide_eq_false (by rw [hk]; decide)] at q40
  rw [decide_eq_false (by rw [hk]; decide)] at q46
  rw [decide_eq_false (by rw [hk]; decide)] at q94
  rw [decide_eq_false (by rw [hk]; decide)] at q36
  rw [decide_eq_true hk] at q91
  have hlt := pk_some hk (by decide)
  clear hk
  clear hc h
  go_enter Try.func46, Try.ntmps46
  go_wp2_with fail
  refine (unhide HPK).mono ?_; rintro e w1 ⟨rfl, b1⟩
  have A1 := hide ((unhide A0).below b1)
  clear b1 A0 HPK
  have f1 := World.ownsRow.frozenAt (unhide A1).tx 1
  obtain ⟨c0, c1, c2, c3, c4⟩ := (unhide A1).tx.cells
  dsimp only at c0 c1 c2 c3 c4
  have A2 := hide ((unhide A1).at_ (a + 1)).1
  obtain ⟨W2, hW2⟩ : ∃ W, w1.setCell ⟨g, 1, none⟩ (.int .i64 ((a + 1 : Nat) : Int)) = W := ⟨_, rfl⟩
  rw [hW2] at A2
  rw [Int.natCast_add, Int.cast_ofNat_Int] at hW2
  have HCL := hide (dclass_any W2 B g s (a + 1) op ww (unhide A2).tx hs (by omega))
  go_wp2_with fail
  clear hW2 c0 c1 c2 c3 c4 f1 A1
  refine (unhide HCL).mono ?_; rintro e w3 ⟨⟨qa, qb, qc, qd⟩, ⟨b2, op2, e2, ww2⟩, rfl, fit, hcl, g3, t3⟩
  have A3 := hide ((unhide A2).step g3 t3)
  obtain ⟨ho, hat, hcl⟩ := hcl
  dsimp only at ho hat hcl
  subst ho
  have V3 : Hid (RsD (fun q => w.heap.size < q) w3 (clsR s (a + 1)) (.agg #[.int .i64 3, .int .u64 qa, .int .u64 qb, .int .u64 qc, .int .u64 qd, .slice none 0 0]) ⟨b2, op2, e2, ww2⟩) := hide (by
    rcases hcl with ⟨p, h1, rfl, h3⟩ | ⟨d, h1, rfl, rfl⟩
    · unfold clsR; rw [h1]; exact dbyte_ok fit h3
    · unfold clsR; rw [h1]; exact derr_ok (by decide))
  unfold setV
  have HAT := hide hat
  clear g3 t3 A2 HCL fit hcl hat
  obtain ⟨y0, y1, y2, y3, y4, y5⟩ := (unhide A3).rb.cells
  obtain ⟨z0, z1, z2, z3, z4, z5⟩ := (unhide A3).rb.frozen
  dsimp only at y1 y2 y3 y4
  have F := hide ((unhide A3).fin (unhide V3))
  go_wp2_with fail
  (try simp only [Exit.inBlock, Exit.then])
  refine bodyPost_ret_by (v := .agg #[.int .i64 3, .int .u64 qa, .int .u64 qb, .int .u64 qc, .int .u64 qd, .slice none 0 0]) ?_ rfl ⟨_, _, rfl, (unhide F).2.1, (unhide F).2.2.2, rfl, (by have := unhide HAT; show b2 ≤ _; omega), (unhide F).2.2.1⟩
  exact results_cell_d (ty := 27) rfl _ _ w.heap.size _ rfl (unhide F).1
/-- what an item by itself is -/
def itmR (s : ByteArray) (a : Nat) : Rs := match clsP s a with
  | some p => .ok (.byte (setOf p)) (a + 2)
  | none => match charR s a with
    | (none, b) => .err 3 b
    | (some x, b) => .ok (.byte (setOf (fun j => decide (j = x)))) b
set_option maxHeartbeats 8000000 in
theorem datom_item (w : World) (B g : Nat) (s : ByteArray) (a op ww : Nat) (h : Txt w B g s ⟨a, op, 0, ww⟩) (hs : s.size ≤ 200) (ha : a ≤ s.size) (hop : op ≤ 20) (h40 : pkB s a ≠ 40) (h91 : pkB s a ≠ 91) (h46 : pkB s a ≠ 46) (h94 : pkB s a ≠ 94) (h36 : pkB s a ≠ 36) :
    Calls Try.prog 46 #[.pointer (some ⟨g, 0, none⟩)] w (DrP w B g s op (itmR s a)) := by
  have A0 := hide (Dt0.start h)
  have HPK := hide (peek_any _ B g s _ (unhide A0).tx hs (by show a ≤ _; omega))
  have q40 := pk_dec (s := s) (a := a) (op := op) (ww := ww) 40 (by decide)
  have q46 := pk_dec (s := s) (a := a) (op := op) (ww := ww) 46 (by decide)
  have q94 := pk_dec (s := s) (a := a) (op := op) (ww := ww) 94 (by decide)
  have q36 := pk_dec (s := s) (a := a) (op := op) (ww := ww) 36 (by decide)
  have q91 := pk_dec (s := s) (a := a) (op := op) (ww := ww) 91 (by decide)
  obtain ⟨c, hc⟩ : ∃ c, pk s ⟨a, op, 0, ww⟩ = c := ⟨_, rfl⟩
  rw [hc] at HPK q40 q46 q94 q36 q91
  rw [decide_eq_false h40] at q40
  rw [decide_eq_false h46] at q46
  rw [decide_eq_false h94] at q94
  rw [decide_eq_false h36] at q36
  rw [decide_eq_false h91] at q91
  clear h40 h91 h46 h94 h36
  clear hc h
  go_enter Try.func46, Try.ntmps46
  go_wp2_with fail
  refine (unhide HPK).mono ?_; rintro e w1 ⟨rfl, b1⟩
  have A1 := hide ((unhide A0).below b1)
  clear b1 A0 HPK
  have HIT := hide (ditem_any w1 B g s _ (unhide A1).tx hs (by show a ≤ _; omega))
  go_wp2_with fail
  refine (unhide HIT).mono ?_; rintro e w2 ⟨lo, ⟨qa, qb, qc, qd⟩, ⟨b1, op1, e1, ww1⟩, rfl, fit, hit, g2, t2⟩
  unfold setV
  have A2 := hide ((unhide A1).step g2 t2)
  obtain ⟨ho, hat, _, hcase⟩ := hit
  dsimp only at ho hat
  subst ho
  replace hcase := hcase rfl
  have HAT := hide hat
  have FT := hide fit
  clear g2 t2 A1 HIT hat fit
  -- the two boxes
  have NA := hide ((Below.refl w2.heap.size w2).alloc (Nat.le_refl _) (.cells #[.int .i64 lo] 3))
  have hca : (w2.alloc (.cells #[.int .i64 lo] 3)).cell? ⟨w2.heap.size, 0, none⟩ = some (.int .i64 lo) := by rw [World.cell?_alloc_new]; rfl
  have hsz : (w2.alloc (.cells #[.int .i64 lo] 3)).heap.size = w2.heap.size + 1 := by simp
  obtain ⟨W3, hW3⟩ : ∃ W, w2.alloc (.cells #[.int .i64 lo] 3) = W := ⟨_, rfl⟩
  rw [hW3] at NA hca hsz
  have A3 := hide ((unhide A2).below (unhide NA))
  have NB := hide ((Below.refl W3.heap.size W3).alloc (Nat.le_refl _) (.cells #[.int .u64 qa, .int .u64 qb, .int .u64 qc, .int .u64 qd] 24))
  have K4 := hide (World.ownsRow_lit (e := 24) (size := 4) (base := W3.heap.size) W3 #[.int .u64 qa, .int .u64 qb, .int .u64 qc, .int .u64 qd] 1 (Nat.le_refl _) (by unfold maxLen; omega) rfl)
  obtain ⟨W4, hW4⟩ : ∃ W, W3.alloc (.cells #[.int .u64 qa, .int .u64 qb, .int .u64 qc, .int .u64 qd] 24) = W := ⟨_, rfl⟩
  rw [hW4] at NB K4
  rw [hsz] at K4
  have A4 := hide ((unhide A3).below (unhide NB))
  have hcb := cell_below hca (by omega) (unhide NB)
  have hsw := (unhide A2).sz
  rcases hcase with ⟨p, hcls, rfl, bits, he1, hat⟩ | ⟨hcls, x, cc, hch, rfl, he1, hat⟩ | ⟨hcls, cc, hch, rfl, he1, hww⟩
  · dsimp only at he1 hat hcls
    subst he1 hat
    have HR : Hid (itmR s a = .ok (.byte (setOf p)) (a + 2)) := hide (by unfold itmR; rw [hcls])
    have V4 : Hid (RsD (fun q => w.heap.size < q) W4 (itmR s a) (.agg #[.int .i64 3, .int .u64 qa, .int .u64 qb, .int .u64 qc, .int .u64 qd, .slice none 0 0]) ⟨a + 2, op1, 0, ww1⟩) := hide (by rw [unhide HR]; exact dbyte_ok (unhide FT) bits)
    have A5 : Hid (Dt0 w W4 B g s ⟨a + 2, op1, 0, ww1⟩) := A4
    obtain ⟨m0, m1, m2, m3⟩ := set4 (unhide K4)
    clear bits hcls
    obtain ⟨y0, y1, y2, y3, y4, y5⟩ := (unhide A5).rb.cells
    obtain ⟨z0, z1, z2, z3, z4, z5⟩ := (unhide A5).rb.frozen
    dsimp only at y1 y2 y3 y4
    have F := hide ((unhide A5).fin (unhide V4))
    go_wp2_with fail
    (try simp only [Exit.inBlock, Exit.then])
    refine bodyPost_ret_by (v := .agg #[.int .i64 3, .int .u64 qa, .int .u64 qb, .int .u64 qc, .int .u64 qd, .slice none 0 0]) ?_ rfl ⟨_, _, rfl, (unhide F).2.1, (unhide F).2.2.2, rfl, (by have := unhide HAT; show a + 2 ≤ _; omega), (unhide F).2.2.1⟩
    exact results_cell_d (ty := 27) rfl _ _ w.heap.size _ rfl (unhide F).1

  · dsimp only at he1 hat hch
    subst he1 hat
    have hx256 : x < 256 := (charR_le s a ha).2 x (by rw [hch])
    have HR : Hid (itmR s a = .ok (.byte (setOf (fun j => decide (j = x)))) b1) := hide (by unfold itmR; rw [hcls]; dsimp only; rw [hch])
    have HWH := hide (where_a2 #[.pointer (some ⟨w2.heap.size, 0, none⟩)] (fun j => decide (j = x)) W4 (fun b W' hb hW' => a2_any b x _ W' hb hx256 (cell_below hcb (Nat.lt_of_lt_of_le (by omega) (unhide NB).size) hW')))
    clear hch hcls
    go_wp2_with fail
    refine (unhide HWH).mono ?_; rintro e5 w5 ⟨⟨ta, tb, tc, td⟩, rfl, fit5, bits5, b5⟩
    unfold setV
    have FT5 := hide (And.intro fit5 bits5)
    have A5' := hide ((unhide A4).below b5)
    have K5 := hide (own_below (unhide K4) b5)
    have fz := hide (fun j => (unhide K5).frozenAt j)
    obtain ⟨v1, e1⟩ := (unhide K5).stored 0 (.int .u64 ta)
    obtain ⟨v2, e2⟩ := v1.stored 1 (.int .u64 tb)
    obtain ⟨v3, e3⟩ := v2.stored 2 (.int .u64 tc)
    obtain ⟨v4, e4⟩ := v3.stored 3 (.int .u64 td)
    have mm := ((e1.trans e2).trans e3).trans e4
    have A5 := hide ((unhide A5').own mm (by omega))
    have K6 := hide v4
    obtain ⟨m0, m1, m2, m3⟩ := set4 (unhide K5)
    obtain ⟨W6, hW6⟩ : ∃ W, (((w5.setCell ⟨w2.heap.size + 1, 0, none⟩ (.int .u64 ta)).setCell ⟨w2.heap.size + 1, 1, none⟩ (.int .u64 tb)).setCell ⟨w2.heap.size + 1, 2, none⟩ (.int .u64 tc)).setCell ⟨w2.heap.size + 1, 3, none⟩ (.int .u64 td) = W := ⟨_, rfl⟩
    rw [hW6] at A5 K6
    obtain ⟨n0, n1, n2, n3⟩ := set4 (unhide K6)
    have fz0 := (unhide fz) 0
    have fz1 := (unhide fz) 1
    have fz2 := (unhide fz) 2
    have fz3 := (unhide fz) 3
    clear v1 v2 v3 v4 e1 e2 e3 e4 mm fit5 bits5 b5 HWH A5' K5 fz
    have V4 : Hid (RsD (fun q => w.heap.size < q) W6 (itmR s a) (.agg #[.int .i64 3, .int .u64 ta, .int .u64 tb, .int .u64 tc, .int .u64 td, .slice none 0 0]) ⟨b1, op1, 0, ww1⟩) := hide (by rw [unhide HR]; exact dbyte_ok (unhide FT5).1 (unhide FT5).2)
    obtain ⟨y0, y1, y2, y3, y4, y5⟩ := (unhide A5).rb.cells
    obtain ⟨z0, z1, z2, z3, z4, z5⟩ := (unhide A5).rb.frozen
    dsimp only at y1 y2 y3 y4
    have F := hide ((unhide A5).fin (unhide V4))
    go_wp2_with fail
    (try simp only [Exit.inBlock, Exit.then])
    refine bodyPost_ret_by (v := .agg #[.int .i64 3, .int .u64 ta, .int .u64 tb, .int .u64 tc, .int .u64 td, .slice none 0 0]) ?_ rfl ⟨_, _, rfl, (unhide F).2.1, (unhide F).2.2.2, rfl, (by have := unhide HAT; show b1 ≤ _; omega), (unhide F).2.2.1⟩
    exact results_cell_d (ty := 27) rfl _ _ w.heap.size _ rfl (unhide F).1

  · dsimp only at he1 hww hch
    subst he1 hww
    subst hW3
    have HR : Hid (itmR s a = .err 3 ww1) := hide (by unfold itmR; rw [hcls]; dsimp only; rw [hch])
    have HWH := hide (where_a2 #[.pointer (some ⟨w2.heap.size, 0, none⟩)] (fun j => decide (j = 0)) W4 (fun b W' hb hW' => a2_any b 0 _ W' hb (by omega) (cell_below hcb (Nat.lt_of_lt_of_le (by omega) (unhide NB).size) hW')))
    clear hch hcls
    go_wp2_with fail
    refine (unhide HWH).mono ?_; rintro e5 w5 ⟨⟨ta, tb, tc, td⟩, rfl, fit5, bits5, b5⟩
    unfold setV
    have FT5 := hide (And.intro fit5 bits5)
    have A5' := hide ((unhide A4).below b5)
    have K5 := hide (own_below (unhide K4) b5)
    have fz := hide (fun j => (unhide K5).frozenAt j)
    obtain ⟨v1, e1⟩ := (unhide K5).stored 0 (.int .u64 ta)
    obtain ⟨v2, e2⟩ := v1.stored 1 (.int .u64 tb)
    obtain ⟨v3, e3⟩ := v2.stored 2 (.int .u64 tc)
    obtain ⟨v4, e4⟩ := v3.stored 3 (.int .u64 td)
    have mm := ((e1.trans e2).trans e3).trans e4
    have A5 := hide ((unhide A5').own mm (by omega))
    have K6 := hide v4
    obtain ⟨m0, m1, m2, m3⟩ := set4 (unhide K5)
    obtain ⟨W6, hW6⟩ : ∃ W, (((w5.setCell ⟨w2.heap.size + 1, 0, none⟩ (.int .u64 ta)).setCell ⟨w2.heap.size + 1, 1, none⟩ (.int .u64 tb)).setCell ⟨w2.heap.size + 1, 2, none⟩ (.int .u64 tc)).setCell ⟨w2.heap.size + 1, 3, none⟩ (.int .u64 td) = W := ⟨_, rfl⟩
    rw [hW6] at A5 K6
    obtain ⟨n0, n1, n2, n3⟩ := set4 (unhide K6)
    have fz0 := (unhide fz) 0
    have fz1 := (unhide fz) 1
    have fz2 := (unhide fz) 2
    have fz3 := (unhide fz) 3
    clear v1 v2 v3 v4 e1 e2 e3 e4 mm fit5 bits5 b5 HWH A5' K5 fz
    have V4 : Hid (RsD (fun q => w.heap.size < q) W6 (itmR s a) (.agg #[.int .i64 3, .int .u64 ta, .int .u64 tb, .int .u64 tc, .int .u64 td, .slice none 0 0]) ⟨b1, op1, 3, ww1⟩) := hide (by rw [unhide HR]; exact derr_ok (by decide))
    obtain ⟨y0, y1, y2, y3, y4, y5⟩ := (unhide A5).rb.cells
    obtain ⟨z0, z1, z2, z3, z4, z5⟩ := (unhide A5).rb.frozen
    dsimp only at y1 y2 y3 y4
    have F := hide ((unhide A5).fin (unhide V4))
    go_wp2_with fail
    (try simp only [Exit.inBlock, Exit.then])
    refine bodyPost_ret_by (v := .agg #[.int .i64 3, .int .u64 ta, .int .u64 tb, .int .u64 tc, .int .u64 td, .slice none 0 0]) ?_ rfl ⟨_, _, rfl, (unhide F).2.1, (unhide F).2.2.2, rfl, (by have := unhide HAT; show b1 ≤ _; omega), (unhide F).2.2.1⟩
    exact results_cell_d (ty := 27) rfl _ _ w.heap.size _ rfl (unhide F).1

end Go.Proofs.Ytjecopdbcaojcaa

/- The document's reading of expressions: a piece. -/
namespace Go.Proofs.Ytjecopdbcaojcaa
open Go.RowKit Kb
set_option linter.unusedVariables false
set_option maxRecDepth 20000

set_option maxHeartbeats 16000000 in
theorem dpiece_any (s : ByteArray) (hs : s.size ≤ 200) (op : Nat) (hop : op ≤ 20) (grp : Nat → Rs) (hgood : GoodG s grp) (HA : DrC 46 s op (atomR s grp)) : DrC 42 s op (pieceR s grp) := by
  intro w B g a ww h ha
  have A0 := hide (Dt0.start h)
  have HC := hide (HA _ B g a ww (unhide A0).tx ha)
  have hgd := atomR_le hgood a ha
  obtain ⟨r, hr⟩ : ∃ r, pieceR s grp a = r := ⟨_, rfl⟩
  rw [hr]
  have HR : Hid ((∀ x b, atomR s grp a = .ok x b → r = .ok (postR s x b).1 (postR s x b).2) ∧ (∀ e b, atomR s grp a = .err e b → r = .err e b)) := hide ⟨fun x b h => by rw [← hr, pieceR, h], fun e b h => by rw [← hr, pieceR, h]⟩
  obtain ⟨q, hq⟩ : ∃ q, atomR s grp a = q := ⟨_, rfl⟩
  rw [hq] at HR HC hgd
  clear hr h hq HA
  go_enter Try.func42, Try.ntmps42
  go_wp2_with fail
  refine (unhide HC).mono ?_
  rintro e w2 ⟨rv, ⟨b0, op2, e0, ww0⟩, rfl, g2, V2, ho, hbd, t2⟩
  dsimp only at ho hbd
  subst ho
  have A2 := hide ((unhide A0).step g2 t2)
  obtain ⟨k, ⟨s1, s2, s3, s4⟩, o, n, c, rfl⟩ := V2.form
  have A3 := hide (Dt1.start (unhide A2) k ⟨s1, s2, s3, s4⟩ (.slice o n c))
  obtain ⟨gb, hgb⟩ : ∃ gb, w2.heap.size = gb := ⟨_, rfl⟩
  obtain ⟨W3, hW3⟩ : ∃ W3, w2.alloc (.cells #[.int .i64 k, .int .u64 s1, .int .u64 s2, .int .u64 s3, .int .u64 s4, .slice o n c] 27) = W3 := ⟨_, rfl⟩
  have HST2 : Hid (b0 ≤ s.size + 100 - op2 ∧ ((e0 = 0 ∧ b0 ≤ s.size ∧ ∃ (x : Ex) (y : Rx), Sim x.rx y ∧ RexN (NB w gb) W3 (.agg #[.int .i64 k, .int .u64 s1, .int .u64 s2, .int .u64 s3, .int .u64 s4, .slice o n c]) y ∧ r = .ok (postR s x b0).1 (postR s x b0).2) ∨ (e0 ≠ 0 ∧ r = .err e0 ww0))) := hide (by
    refine ⟨hbd, ?_⟩
    cases q with
    | ok x b =>
      obtain ⟨v1, v2, y, v3, v4⟩ := V2
      dsimp only at v1 v2
      subst v1 v2
      refine .inl ⟨rfl, hgd.2, x, y, v3, ?_, (unhide HR).1 x _ rfl⟩
      rw [← hW3]
      refine NBalloc (v4.move (Nat.le_refl _) fun j hj hl => ⟨rfl, ?_, ?_⟩) _
      · have := (unhide A0).sz; omega
      · omega
    | err e b =>
      obtain ⟨v1, v2, v3, _⟩ := V2
      dsimp only at v1 v3
      subst v1 v3
      exact .inr ⟨v2, (unhide HR).2 _ _ rfl⟩)
  dsimp only at A3
  rw [hW3, hgb] at A3
  clear g2 t2 V2 HC HR A0 A2 hgd hbd
  go_wp2_with fail
  clear hW3 hgb
  go_loopw [] (fun wr => ∃ (b : Nat) (e : Int) (ww : Nat) (k s1 s2 s3 s4 : Int) (o : Option Addr) (n c : Nat), Dt1 w wr B g s ⟨b, op2, e, ww⟩ gb k ⟨s1, s2, s3, s4⟩ (.slice o n c) ∧ b ≤ s.size + 100 - op2 ∧ ((e = 0 ∧ b ≤ s.size ∧ ∃ (x : Ex) (y : Rx), Sim x.rx y ∧ RexN (NB w gb) wr (.agg #[.int .i64 k, .int .u64 s1, .int .u64 s2, .int .u64 s3, .int .u64 s4, .slice o n c]) y ∧ r = .ok (postR s x b).1 (postR s x b).2) ∨ (e ≠ 0 ∧ r = .err e ww))) (fun wr => s.size + 1 - cellI wr g 1)
  case atStart => exact ⟨b0, e0, ww0, k, s1, s2, s3, s4, o, n, c, unhide A3, unhide HST2⟩
  case round =>
    clear HST2 A3
    obtain ⟨b, e, ww, k, s1, s2, s3, s4, o, n, c, hA, hb100, hst⟩ := hrel
    have A := hide hA
    have HM0 : Hid (cellI wr g 1 = b) := hide hA.tx.cellI
    have HBD : Hid (b ≤ s.size + 100 - op2) := hide hb100
    have HPK := hide (peek_any wr B g s _ hA.tx hs (by show b ≤ _; omega))
    clear hA hb100
    rcases hst with ⟨rfl, hb, x, y, hsim, hx, hrr⟩ | ⟨hz, hrr⟩
    · have V := hide hx
      have HRR := hide hrr
      have HS := hide hsim
      clear hx hrr hsim
      have q42 := pk_dec (s := s) (a := b) (op := op2) (ww := ww) 42 (by decide)
      have q63 := pk_dec (s := s) (a := b) (op := op2) (ww := ww) 63 (by decide)
      have q43 := pk_dec (s := s) (a := b) (op := op2) (ww := ww) 43 (by decide)
      obtain ⟨ch, hch⟩ : ∃ c, pk s ⟨b, op2, 0, ww⟩ = c := ⟨_, rfl⟩
      rw [hch] at HPK q42 q63 q43
      clear hch
      go_wp2_with fail
      refine (unhide HPK).mono ?_; rintro e2 w3 ⟨rfl, b3⟩
      have A3 := hide ((unhide A).below b3)
      have V3 := hide (NBbelow (unhide V) b3)
      clear b3 A V HPK
      by_cases k42 : pkB s b = 42
      · have hlt := pk_some k42 (by decide)
        have HRR2 : Hid (r = .ok (postR s (.star x) (b + 1)).1 (postR s (.star x) (b + 1)).2) := hide (by rw [unhide HRR, postR_42 k42])
        rw [decide_eq_true k42] at q42
        clear q63 q43 k42 HRR
        obtain ⟨y0, y1, y2, y3, y4, y5⟩ := (unhide A3).box.cells
        dsimp only at y1 y2 y3 y4
        have hg3 := (unhide A3).gsz
        go_wp2_with fail
        clear q42
        refine (node_any 6 _ 1 1 _).mono ?_
        rintro e3 w4 ⟨rfl, b4⟩
        have A4 := hide (((unhide A3).alloc _).below b4)
        have V4 := hide (NBbelow (NBalloc (unhide V3) _) b4)
        have H4 := hide (heap_of b4)
        have V5 := hide (rexN_one (s := ⟨s1, s2, s3, s4⟩) (unhide V4) ⟨(unhide A3).toDt0.sz, (by omega)⟩ (unhide H4) (k := 6) (by omega))
        clear b4 y0 y1 y2 y3 y4 y5 V3 V4 H4 A3
        obtain ⟨gk, hgk⟩ : ∃ gk, w3.heap.size = gk := ⟨_, rfl⟩
        rw [hgk] at V5 ⊢
        clear hgk hg3
        have hg4 := (unhide A4).gsz
        obtain ⟨A6', pA6⟩ := (unhide A4).put 6 0 0 0 0 (.slice (some ⟨gk, 0, none⟩) 1 1)
        have A6 := hide A6'
        have V6 := hide (NBput (unhide V5) pA6)
        clear A6' pA6
        obtain ⟨W6, hW6⟩ : ∃ W, (((((w4.setCell ⟨gb, 0, none⟩ (.int .i64 6)).setCell ⟨gb, 1, none⟩ (.int .u64 0)).setCell ⟨gb, 2, none⟩ (.int .u64 0)).setCell ⟨gb, 3, none⟩ (.int .u64 0)).setCell ⟨gb, 4, none⟩ (.int .u64 0)).setCell ⟨gb, 5, none⟩ (.slice (some ⟨gk, 0, none⟩) 1 1) = W := ⟨_, rfl⟩
        have hW6' : put6 w4 gb 6 0 0 0 0 (.slice (some ⟨gk, 0, none⟩) 1 1) = W6 := hW6
        rw [hW6'] at A6 V6
        clear hW6'
        obtain ⟨y0, y1, y2, y3, y4, y5⟩ := (unhide A4).box.cells
        obtain ⟨h0, h1, h2, h3, h4, h5⟩ := (unhide A4).box.frozen
        dsimp only at y1 y2 y3 y4
        clear A4 V5
        have f1 := World.ownsRow.frozenAt (unhide A6).tx 1
        obtain ⟨c0, c1, c2, c3, c4⟩ := (unhide A6).tx.cells
        dsimp only at c0 c1 c2 c3 c4
        obtain ⟨A7', gA7⟩ := (unhide A6).at_ (b + 1)
        have A7 := hide A7'
        have V7 := hide (NBstep (unhide V6) gA7 (unhide A6).lt)
        clear A7' gA7
        obtain ⟨W7, hW7⟩ : ∃ W, W6.setCell ⟨g, 1, none⟩ (.int .i64 ((b + 1 : Nat) : Int)) = W := ⟨_, rfl⟩
        rw [hW7] at A7 V7
        rw [Int.natCast_add, Int.cast_ofNat_Int] at hW7
        go_wp2_with fail
        refine ⟨⟨b + 1, 0, ww, 6, 0, 0, 0, 0, some ⟨gk, 0, none⟩, 1, 1, unhide A7, by omega, .inl ⟨rfl, by omega, .star x, _, (unhide HS).one, unhide V7, unhide HRR2⟩⟩, ?_⟩
        rw [(unhide A7).tx.cellI, unhide HM0]
        show s.size + 1 - (b + 1) < s.size + 1 - b
        omega

      rw [decide_eq_false k42] at q42
      by_cases k63 : pkB s b = 63
      · have hlt := pk_some k63 (by decide)
        have HRR2 : Hid (r = .ok (postR s (.alt x .emp) (b + 1)).1 (postR s (.alt x .emp) (b + 1)).2) := hide (by rw [unhide HRR, postR_63 k63])
        rw [decide_eq_true k63] at q63
        clear q43 k42 k63 HRR
        have Ad := hide (unhide A3).drew
        have Vd := hide (NBbelow (unhide V3) (Below.refl _ _).drew)
        obtain ⟨y0, y1, y2, y3, y4, y5⟩ := (unhide A3).box.cells
        dsimp only at y1 y2 y3 y4
        have hg4 := (unhide A3).gsz
        clear A3 V3
        go_wp2_with fail
        clear q42 q63
        go_region_law (first | (go_simp; go_at_call 34; refine (node_any 2 none 0 0 _).mono ?_; rintro e w6 ⟨rfl, b6⟩; have A6 := hide ((unhide Ad).below b6); have V6 := hide (NBbelow (unhide Vd) b6); clear b6 y0 y1 y2 y3 y4 y5; obtain ⟨y0, y1, y2, y3, y4, y5⟩ := (unhide A6).box.cells; dsimp only at y1 y2 y3 y4; have hg5 := (unhide A6).gsz) | (go_simp; go_at_call 34; refine (node_any 5 _ 2 2 _).mono ?_; rintro e w7 ⟨rfl, b7⟩; have A7 := hide (((unhide A6).alloc _).below b7); have V7 := hide (NBbelow (NBalloc (unhide V6) _) b7); have H7 := hide (heap_of b7); have V8 := hide (rexN_two (s := ⟨s1, s2, s3, s4⟩) (s' := ⟨0, 0, 0, 0⟩) (unhide V7) (rexN_leaf (NB w gb) w7 2 ⟨0, 0, 0, 0⟩ (by omega) ⟨by simp, by simp, by simp, by simp⟩) ⟨(unhide A6).toDt0.sz, (Nat.ne_of_lt (unhide A6).gsz).symm⟩ (unhide H7) (k := 5) (by omega)); clear b7 y0 y1 y2 y3 y4 y5; have hg6 := (unhide A7).gsz; obtain ⟨y0, y1, y2, y3, y4, y5⟩ := (unhide A7).box.cells; obtain ⟨h0, h1, h2, h3, h4, h5⟩ := (unhide A7).box.frozen; dsimp only at y1 y2 y3 y4))
        all_goals (
          clear A6 V6 V7 H7
          obtain ⟨gk, hgk⟩ : ∃ gk, w6.heap.size = gk := ⟨_, rfl⟩
          rw [hgk] at V8 ⊢
          clear hgk y0 y1 y2 y3 y4 y5 h0 h1 h2 h3 h4 h5
          obtain ⟨A8', pA8⟩ := (unhide A7).put 5 0 0 0 0 (.slice (some ⟨gk, 0, none⟩) 2 2)
          have A8 := hide A8'
          have V9 := hide (NBput (unhide V8) pA8)
          clear A8' pA8
          obtain ⟨W8, hW8⟩ : ∃ W, (((((w7.setCell ⟨gb, 0, none⟩ (.int .i64 5)).setCell ⟨gb, 1, none⟩ (.int .u64 0)).setCell ⟨gb, 2, none⟩ (.int .u64 0)).setCell ⟨gb, 3, none⟩ (.int .u64 0)).setCell ⟨gb, 4, none⟩ (.int .u64 0)).setCell ⟨gb, 5, none⟩ (.slice (some ⟨gk, 0, none⟩) 2 2) = W := ⟨_, rfl⟩
          have hW8' : put6 w7 gb 5 0 0 0 0 (.slice (some ⟨gk, 0, none⟩) 2 2) = W8 := hW8
          rw [hW8'] at A8 V9
          clear hW8'
          obtain ⟨y0, y1, y2, y3, y4, y5⟩ := (unhide A7).box.cells
          obtain ⟨h0, h1, h2, h3, h4, h5⟩ := (unhide A7).box.frozen
          dsimp only at y1 y2 y3 y4
          clear A7 V8
          have f1 := World.ownsRow.frozenAt (unhide A8).tx 1
          obtain ⟨c0, c1, c2, c3, c4⟩ := (unhide A8).tx.cells
          dsimp only at c0 c1 c2 c3 c4
          obtain ⟨A9', gA9⟩ := (unhide A8).at_ (b + 1)
          have A9 := hide A9'
          have VX := hide (NBstep (unhide V9) gA9 (unhide A8).lt)
          clear A9' gA9
          obtain ⟨W9, hW9⟩ : ∃ W, W8.setCell ⟨g, 1, none⟩ (.int .i64 ((b + 1 : Nat) : Int)) = W := ⟨_, rfl⟩
          rw [hW9] at A9 VX
          rw [Int.natCast_add, Int.cast_ofNat_Int] at hW9
          go_wp2_with fail
          refine ⟨⟨b + 1, 0, ww, 5, 0, 0, 0, 0, some ⟨gk, 0, none⟩, 2, 2, unhide A9, by omega, .inl ⟨rfl, by omega, .alt x .emp, _, (unhide HS).two (.refl _), unhide VX, unhide HRR2⟩⟩, ?_⟩
          rw [(unhide A9).tx.cellI, unhide HM0]
          show s.size + 1 - (b + 1) < s.size + 1 - b
          omega
)
      rw [decide_eq_false k63] at q63
      by_cases k43 : pkB s b = 43
      · have hlt := pk_some k43 (by decide)
        have HRR2 : Hid (r = .ok (postR s (.cat x (.star x)) (b + 1)).1 (postR s (.cat x (.star x)) (b + 1)).2) := hide (by rw [unhide HRR, postR_43 k43])
        rw [decide_eq_true k43] at q43
        clear k42 k63 k43 HRR
        -- again
        obtain ⟨y0, y1, y2, y3, y4, y5⟩ := (unhide A3).box.cells
        dsimp only at y1 y2 y3 y4
        have hwz3 := (unhide A3).toDt0.sz
        have hsz3 := (unhide A3).gsz
        have bb := (Below.refl w3.heap.size w3).alloc (Nat.le_refl _) (.cells #[.int .i64 k, .int .u64 s1, .int .u64 s2, .int .u64 s3, .int .u64 s4, .slice o n c] 27)
        have A5 := hide ((unhide A3).below bb)
        have V5 := hide (NMbelow (NBtoNM (unhide V3) (Nat.le_refl _)) bb)
        have M5 := hide (RX.new (base := w.heap.size) w3 (Nat.le_of_lt hwz3) k ⟨s1, s2, s3, s4⟩ (.slice o n c))
        obtain ⟨gm, hgm⟩ : ∃ gm, w3.heap.size = gm := ⟨_, rfl⟩
        rw [hgm] at V5 M5 hsz3 hwz3
        dsimp only at M5
        obtain ⟨W5, hW5⟩ : ∃ W5, w3.alloc (.cells #[.int .i64 k, .int .u64 s1, .int .u64 s2, .int .u64 s3, .int .u64 s4, .slice o n c] 27) = W5 := ⟨_, rfl⟩
        have hgm5 : gm < W5.heap.size := by rw [← hW5, ← hgm]; simp
        rw [hW5] at A5 V5 M5
        obtain ⟨x0, x1, x2, x3, x4, x5⟩ := (unhide A5).box.cells
        dsimp only at x1 x2 x3 x4
        have HWT := hide (weight_any y _ 0 W5 (unhide V5).rexV (by omega))
        obtain ⟨wt, hwt⟩ : ∃ m, wtR y 0 = m := ⟨_, rfl⟩
        have HWTE := hide hwt
        rw [hwt] at HWT
        clear A3 V3 bb hwt
        go_wp2_with fail
        clear hW5 hgm q42 q63 q43
        refine (unhide HWT).mono ?_; rintro e4 w6 ⟨rfl, b6, hw82⟩
        have A6 := hide ((unhide A5).below b6)
        have V6 := hide (NMbelow (unhide V5) b6)
        have M6 := hide ((unhide M5).below b6)
        have hgm6 : gm < w6.heap.size := Nat.lt_of_lt_of_le hgm5 b6.size
        clear b6 A5 V5 M5 HWT y0 y1 y2 y3 y4 y5 x0 x1 x2 x3 x4 x5
        by_cases hbig : 80 < wt
        · have hbi : (80 : Int) < wt := by omega
          have HSIM : Hid (Sim (Ex.cat x (.star x)).rx (.mk 4 noSet [y, .mk 6 noSet [.mk 2 noSet []]])) := hide (Sim.plus (unhide HS) (by rw [unhide HWTE]; exact hbig))
          go_wp2_with fail
          refine (node_any 2 none 0 0 _).mono ?_; rintro e5 w7 ⟨rfl, b7⟩
          have A7 := hide ((unhide A6).below b7)
          have V7 := hide (NMbelow (unhide V6) b7)
          have M7 := hide ((unhide M6).below b7)
          have hgm7 : gm < w7.heap.size := Nat.lt_of_lt_of_le hgm6 b7.size
          clear b7 A6 V6 M6 hgm6
          obtain ⟨j0, j1, j2, j3, j4, j5⟩ := (unhide M7).frozen
          obtain ⟨m0, m1, m2, m3, m4, m5⟩ := (unhide M7).cells
          dsimp only at m1 m2 m3 m4
          obtain ⟨M8', p8⟩ := (unhide M7).put 2 0 0 0 0 (.slice none 0 0)
          have M8 := hide M8'
          have A8 := hide ((unhide A7).other p8 hwz3 (by omega))
          have V8 := hide (NMput (unhide V7) p8)
          have VY : Hid (RexN (NM w gb gm) (put6 w7 gm 2 0 0 0 0 (.slice none 0 0)) (.agg #[.int .i64 2, .int .u64 0, .int .u64 0, .int .u64 0, .int .u64 0, .slice none 0 0]) (.mk 2 noSet [])) := hide (rexN_leaf _ _ 2 noSet (by omega) ⟨by simp [noSet], by simp [noSet], by simp [noSet], by simp [noSet]⟩)
          have hgm8 : gm < (put6 w7 gm 2 0 0 0 0 (.slice none 0 0)).heap.size := by have := p8.size; omega
          obtain ⟨W8, hW8⟩ : ∃ W, (((((w7.setCell ⟨gm, 0, none⟩ (.int .i64 2)).setCell ⟨gm, 1, none⟩ (.int .u64 0)).setCell ⟨gm, 2, none⟩ (.int .u64 0)).setCell ⟨gm, 3, none⟩ (.int .u64 0)).setCell ⟨gm, 4, none⟩ (.int .u64 0)).setCell ⟨gm, 5, none⟩ (.slice none 0 0) = W := ⟨_, rfl⟩
          have hW8' : put6 w7 gm 2 0 0 0 0 (.slice none 0 0) = W8 := hW8
          rw [hW8'] at M8 A8 V8 VY hgm8
          clear M8' p8 hW8'
          obtain ⟨x0, x1, x2, x3, x4, x5⟩ := (unhide M8).cells
          dsimp only at x1 x2 x3 x4
          obtain ⟨y0, y1, y2, y3, y4, y5⟩ := (unhide A8).box.cells
          dsimp only at y1 y2 y3 y4
          have hg8 := (unhide A8).gsz
          have hne8 : W8.heap.size ≠ gb := by omega
          have hnz8 : w.heap.size < W8.heap.size := (unhide A8).toDt0.sz
          go_wp2_with fail
          go_region_law (first | (go_simp; go_at_call 34; have A9' := unhide A9; clear A9'; refine (node_any _ _ _ _ _).mono ?_; rintro e w10 ⟨rfl, b10⟩; have A10 := hide (((unhide A9).alloc _).below b10); have V10 := hide (NBbelow (NBalloc (unhide V9) _) b10); have VY10 := hide (NBbelow (NBalloc (unhide VS9) _) b10); have H10 := hide (heap_of b10); have V11 := hide (rexN_two (s := ⟨s1, s2, s3, s4⟩) (s' := ⟨0, 0, 0, 0⟩) (unhide V10) (unhide VY10) ⟨(unhide A9).toDt0.sz, (Nat.ne_of_lt (unhide A9).gsz).symm⟩ (unhide H10) (k := 4) (by omega)); clear b10 y0 y1 y2 y3 y4 y5; obtain ⟨y0, y1, y2, y3, y4, y5⟩ := (unhide A10).box.cells; obtain ⟨h0, h1, h2, h3, h4, h5⟩ := (unhide A10).box.frozen; dsimp only at y1 y2 y3 y4; have hg10 := (unhide A10).gsz) | (go_simp; go_at_call 34; refine (node_any _ _ _ _ _).mono ?_; rintro e w9 ⟨rfl, b9⟩; have A9 := hide ((((unhide A8).alloc _).drew).below b9); have V9 := hide (NBbelow (NBbelow (NBalloc (NMtoNB (unhide V8)) _) (Below.refl _ _).drew) b9); have VY9 := hide (NBbelow (NBbelow (NBalloc (NMtoNB (unhide VY)) _) (Below.refl _ _).drew) b9); have H9 := hide (heap_ofd b9); have VS9 := hide (rexN_one (s := ⟨0, 0, 0, 0⟩) (unhide VY9) ⟨hnz8, hne8⟩ (unhide H9) (k := 6) (by omega)); clear b9 y0 y1 y2 y3 y4 y5; obtain ⟨y0, y1, y2, y3, y4, y5⟩ := (unhide A9).box.cells; dsimp only at y1 y2 y3 y4; have hg9 := (unhide A9).gsz))
          all_goals (
            clear A9 V9 VY9 VS9 H9 A8 V8 VY M8 V10 VY10 H10
            obtain ⟨gk, hgk⟩ : ∃ gk, w9.heap.size = gk := ⟨_, rfl⟩
            rw [hgk] at V11 ⊢
            clear hgk y0 y1 y2 y3 y4 y5 h0 h1 h2 h3 h4 h5
            obtain ⟨A11', pA11⟩ := (unhide A10).put 4 0 0 0 0 (.slice (some ⟨gk, 0, none⟩) 2 2)
            have A11 := hide A11'
            have V12 := hide (NBput (unhide V11) pA11)
            clear A11' pA11
            obtain ⟨W11, hW11⟩ : ∃ W, (((((w10.setCell ⟨gb, 0, none⟩ (.int .i64 4)).setCell ⟨gb, 1, none⟩ (.int .u64 0)).setCell ⟨gb, 2, none⟩ (.int .u64 0)).setCell ⟨gb, 3, none⟩ (.int .u64 0)).setCell ⟨gb, 4, none⟩ (.int .u64 0)).setCell ⟨gb, 5, none⟩ (.slice (some ⟨gk, 0, none⟩) 2 2) = W := ⟨_, rfl⟩
            have hW11' : put6 w10 gb 4 0 0 0 0 (.slice (some ⟨gk, 0, none⟩) 2 2) = W11 := hW11
            rw [hW11'] at A11 V12
            clear hW11'
            obtain ⟨y0, y1, y2, y3, y4, y5⟩ := (unhide A10).box.cells
            obtain ⟨h0, h1, h2, h3, h4, h5⟩ := (unhide A10).box.frozen
            dsimp only at y1 y2 y3 y4
            clear A10 V11
            have f1 := World.ownsRow.frozenAt (unhide A11).tx 1
            obtain ⟨c0, c1, c2, c3, c4⟩ := (unhide A11).tx.cells
            dsimp only at c0 c1 c2 c3 c4
            obtain ⟨A12', gA12⟩ := (unhide A11).at_ (b + 1)
            have A12 := hide A12'
            have V13 := hide (NBstep (unhide V12) gA12 (unhide A11).lt)
            clear A12' gA12
            obtain ⟨W12, hW12⟩ : ∃ W, W11.setCell ⟨g, 1, none⟩ (.int .i64 ((b + 1 : Nat) : Int)) = W := ⟨_, rfl⟩
            rw [hW12] at A12 V13
            rw [Int.natCast_add, Int.cast_ofNat_Int] at hW12
            go_wp2_with fail
            refine ⟨⟨b + 1, 0, ww, 4, 0, 0, 0, 0, some ⟨gk, 0, none⟩, 2, 2, unhide A12, by omega, .inl ⟨rfl, by omega, .cat x (.star x), _, unhide HSIM, unhide V13, unhide HRR2⟩⟩, ?_⟩
            rw [(unhide A12).tx.cellI, unhide HM0]
            show s.size + 1 - (b + 1) < s.size + 1 - b
            omega
          )
        · have hbi : ¬ (80 : Int) < wt := by omega
          have HSIM : Hid (Sim (Ex.cat x (.star x)).rx (.mk 4 noSet [y, .mk 6 noSet [y]])) := hide ((unhide HS).two (unhide HS).one)
          have A8 := A6
          have V8 := V6
          have VY := V6
          have M8 := M6
          have hgm8 := hgm6
          clear A6 V6 M6
          obtain ⟨x0, x1, x2, x3, x4, x5⟩ := (unhide M8).cells
          dsimp only at x1 x2 x3 x4
          obtain ⟨y0, y1, y2, y3, y4, y5⟩ := (unhide A8).box.cells
          dsimp only at y1 y2 y3 y4
          have hg8 := (unhide A8).gsz
          have hne8 : w6.heap.size ≠ gb := by omega
          have hnz8 : w.heap.size < w6.heap.size := (unhide A8).toDt0.sz
          go_wp2_with fail
          go_region_law (first | (go_simp; go_at_call 34; have A9' := unhide A9; clear A9'; refine (node_any _ _ _ _ _).mono ?_; rintro e w10 ⟨rfl, b10⟩; have A10 := hide (((unhide A9).alloc _).below b10); have V10 := hide (NBbelow (NBalloc (unhide V9) _) b10); have VY10 := hide (NBbelow (NBalloc (unhide VS9) _) b10); have H10 := hide (heap_of b10); have V11 := hide (rexN_two (s := ⟨s1, s2, s3, s4⟩) (s' := ⟨0, 0, 0, 0⟩) (unhide V10) (unhide VY10) ⟨(unhide A9).toDt0.sz, (Nat.ne_of_lt (unhide A9).gsz).symm⟩ (unhide H10) (k := 4) (by omega)); clear b10 y0 y1 y2 y3 y4 y5; obtain ⟨y0, y1, y2, y3, y4, y5⟩ := (unhide A10).box.cells; obtain ⟨h0, h1, h2, h3, h4, h5⟩ := (unhide A10).box.frozen; dsimp only at y1 y2 y3 y4; have hg10 := (unhide A10).gsz) | (go_simp; go_at_call 34; refine (node_any _ _ _ _ _).mono ?_; rintro e w9 ⟨rfl, b9⟩; have A9 := hide ((((unhide A8).alloc _).drew).below b9); have V9 := hide (NBbelow (NBbelow (NBalloc (NMtoNB (unhide V8)) _) (Below.refl _ _).drew) b9); have VY9 := hide (NBbelow (NBbelow (NBalloc (NMtoNB (unhide VY)) _) (Below.refl _ _).drew) b9); have H9 := hide (heap_ofd b9); have VS9 := hide (rexN_one (s := ⟨s1, s2, s3, s4⟩) (unhide VY9) ⟨hnz8, hne8⟩ (unhide H9) (k := 6) (by omega)); clear b9 y0 y1 y2 y3 y4 y5; obtain ⟨y0, y1, y2, y3, y4, y5⟩ := (unhide A9).box.cells; dsimp only at y1 y2 y3 y4; have hg9 := (unhide A9).gsz))
          all_goals (
            clear A9 V9 VY9 VS9 H9 A8 V8 VY M8 V10 VY10 H10
            obtain ⟨gk, hgk⟩ : ∃ gk, w9.heap.size = gk := ⟨_, rfl⟩
            rw [hgk] at V11 ⊢
            clear hgk y0 y1 y2 y3 y4 y5 h0 h1 h2 h3 h4 h5
            obtain ⟨A11', pA11⟩ := (unhide A10).put 4 0 0 0 0 (.slice (some ⟨gk, 0, none⟩) 2 2)
            have A11 := hide A11'
            have V12 := hide (NBput (unhide V11) pA11)
            clear A11' pA11
            obtain ⟨W11, hW11⟩ : ∃ W, (((((w10.setCell ⟨gb, 0, none⟩ (.int .i64 4)).setCell ⟨gb, 1, none⟩ (.int .u64 0)).setCell ⟨gb, 2, none⟩ (.int .u64 0)).setCell ⟨gb, 3, none⟩ (.int .u64 0)).setCell ⟨gb, 4, none⟩ (.int .u64 0)).setCell ⟨gb, 5, none⟩ (.slice (some ⟨gk, 0, none⟩) 2 2) = W := ⟨_, rfl⟩
            have hW11' : put6 w10 gb 4 0 0 0 0 (.slice (some ⟨gk, 0, none⟩) 2 2) = W11 := hW11
            rw [hW11'] at A11 V12
            clear hW11'
            obtain ⟨y0, y1, y2, y3, y4, y5⟩ := (unhide A10).box.cells
            obtain ⟨h0, h1, h2, h3, h4, h5⟩ := (unhide A10).box.frozen
            dsimp only at y1 y2 y3 y4
            clear A10 V11
            have f1 := World.ownsRow.frozenAt (unhide A11).tx 1
            obtain ⟨c0, c1, c2, c3, c4⟩ := (unhide A11).tx.cells
            dsimp only at c0 c1 c2 c3 c4
            obtain ⟨A12', gA12⟩ := (unhide A11).at_ (b + 1)
            have A12 := hide A12'
            have V13 := hide (NBstep (unhide V12) gA12 (unhide A11).lt)
            clear A12' gA12
            obtain ⟨W12, hW12⟩ : ∃ W, W11.setCell ⟨g, 1, none⟩ (.int .i64 ((b + 1 : Nat) : Int)) = W := ⟨_, rfl⟩
            rw [hW12] at A12 V13
            rw [Int.natCast_add, Int.cast_ofNat_Int] at hW12
            go_wp2_with fail
            refine ⟨⟨b + 1, 0, ww, 4, 0, 0, 0, 0, some ⟨gk, 0, none⟩, 2, 2, unhide A12, by omega, .inl ⟨rfl, by omega, .cat x (.star x), _, unhide HSIM, unhide V13, unhide HRR2⟩⟩, ?_⟩
            rw [(unhide A12).tx.cellI, unhide HM0]
            show s.size + 1 - (b + 1) < s.size + 1 - b
            omega
          )
      rw [decide_eq_false k43] at q43
      have HE : Hid (r = .ok x b) := hide (by rw [unhide HRR, postR_no k42 k43 k63])
      clear HRR k42 k43 k63
      have V6 : Hid (RsD (fun q => w.heap.size < q) w3 r (.agg #[.int .i64 k, .int .u64 s1, .int .u64 s2, .int .u64 s3, .int .u64 s4, .slice o n c]) ⟨b, op2, 0, ww⟩) := hide (by
        rw [unhide HE]; exact ⟨rfl, rfl, y, unhide HS, (unhide V3).mono fun q hq => hq.1⟩)
      clear V3
      obtain ⟨u0, u1, u2, u3, u4, u5⟩ := (unhide A3).box.cells
      dsimp only at u1 u2 u3 u4
      have hg6 := (unhide A3).gsz
      have hg7 := (unhide A3).hgb
      obtain ⟨y0, y1, y2, y3, y4, y5⟩ := (unhide A3).toDt0.rb.cells
      obtain ⟨h0, h1, h2, h3, h4, h5⟩ := (unhide A3).toDt0.rb.frozen
      dsimp only at y1 y2 y3 y4
      have F := hide ((unhide A3).toDt0.fin (unhide V6))
      go_wp2_with fail
      (try simp only [Exit.inBlock, Exit.then])
      refine bodyPost_ret_by (v := .agg #[.int .i64 k, .int .u64 s1, .int .u64 s2, .int .u64 s3, .int .u64 s4, .slice o n c]) ?_ rfl ⟨_, _, rfl, (unhide F).2.1, (unhide F).2.2.2, rfl, unhide HBD, (unhide F).2.2.1⟩
      exact results_cell_d (ty := 27) rfl _ _ w.heap.size _ rfl (unhide F).1
    · have V6 : Hid (∀ W, RsD (fun q => w.heap.size < q) W r (.agg #[.int .i64 k, .int .u64 s1, .int .u64 s2, .int .u64 s3, .int .u64 s4, .slice o n c]) ⟨b, op2, e, ww⟩) := hide (fun W => by
        rw [hrr]; exact ⟨rfl, hz, rfl, k, ⟨s1, s2, s3, s4⟩, o, n, c, rfl⟩)
      rw [pk_err hz] at HPK
      clear hz hrr
      go_wp2_with fail
      refine (unhide HPK).mono ?_; rintro e2 w3 ⟨rfl, b3⟩
      have A3 := hide ((unhide A).below b3)
      have V7 := hide ((unhide V6) w3)
      clear b3 A HPK V6
      obtain ⟨u0, u1, u2, u3, u4, u5⟩ := (unhide A3).box.cells
      dsimp only at u1 u2 u3 u4
      have hg6 := (unhide A3).gsz
      have hg7 := (unhide A3).hgb
      obtain ⟨y0, y1, y2, y3, y4, y5⟩ := (unhide A3).toDt0.rb.cells
      obtain ⟨h0, h1, h2, h3, h4, h5⟩ := (unhide A3).toDt0.rb.frozen
      dsimp only at y1 y2 y3 y4
      have F := hide ((unhide A3).toDt0.fin (unhide V7))
      go_wp2_with fail
      (try simp only [Exit.inBlock, Exit.then])
      refine bodyPost_ret_by (v := .agg #[.int .i64 k, .int .u64 s1, .int .u64 s2, .int .u64 s3, .int .u64 s4, .slice o n c]) ?_ rfl ⟨_, _, rfl, (unhide F).2.1, (unhide F).2.2.2, rfl, unhide HBD, (unhide F).2.2.1⟩
      exact results_cell_d (ty := 27) rfl _ _ w.heap.size _ rfl (unhide F).1
end Go.Proofs.Ytjecopdbcaojcaa

/- The document's reading of expressions: a row. -/
namespace Go.Proofs.Ytjecopdbcaojcaa
open Go.RowKit Kb
set_option linter.unusedVariables false
set_option maxRecDepth 20000

/-- where the reading of a row stands -/
def RowSt (w W : World) (s : ByteArray) (grp : Nat → Rs) (r : Rs) (a gb b : Nat) (e : Int) (ww : Nat) (bs : Bool) (rv : Value) : Prop :=
  (e = 0 ∧ b ≤ s.size ∧ ((bs = false ∧ b = a ∧ rv = .agg #[.int .i64 2, .int .u64 0, .int .u64 0, .int .u64 0, .int .u64 0, .slice none 0 0]) ∨ (bs = true ∧ ∃ (x : Ex) (y : Rx), Sim x.rx y ∧ RexN (NB w gb) W rv y ∧ r = rowL s grp x b))) ∨ (e ≠ 0 ∧ r = .err e ww)
def emptyV : Value → Bool
  | .string x => x.size == 0
  | _ => true
theorem row_next {w W : World} {s : ByteArray} {grp : Nat → Rs} {r : Rs} {a gb b b' ww : Nat} {e : Int} {bs : Bool} {rv : Value} (h : RowSt w W s grp r a gb b' e ww bs rv) (hb : b < s.size) (hlt : e = 0 → b < b') {op : Nat} :
    (if emptyV (.string (pk s ⟨b', op, e, ww⟩)) then 0 else s.size + 1 - b') < s.size + 1 - b := by
  by_cases he : e = 0
  · have := hlt he
    split <;> omega
  · rw [pk_err he, if_pos (show emptyV (.string ⟨#[]⟩) = true from rfl)]; omega
set_option maxHeartbeats 16000000 in
theorem drow_any (s : ByteArray) (hs : s.size ≤ 200) (op : Nat) (hop : op ≤ 20) (grp : Nat → Rs) (hgood : GoodG s grp) (HA : DrC 42 s op (pieceR s grp)) : DrC 32 s op (rowR s grp) := by
  intro w B g a ww h ha
  have A0 := hide (Dt0.start h)
  obtain ⟨r, hr⟩ : ∃ r, rowR s grp a = r := ⟨_, rfl⟩
  rw [hr]
  have HR := hide hr
  have HPC := hide HA
  clear hr h HA
  go_enter Try.func32, Try.ntmps32
  go_wp2_with fail
  refine (node_any 2 none 0 0 _).mono ?_; rintro e w1 ⟨rfl, b1⟩
  have A1 := hide ((unhide A0).below b1)
  clear b1 A0
  have A2 := hide (Dt1.start (unhide A1) 2 ⟨0, 0, 0, 0⟩ (.slice none 0 0))
  obtain ⟨gb, hgb⟩ : ∃ gb, w1.heap.size = gb := ⟨_, rfl⟩
  dsimp only at A2
  obtain ⟨W2, hW2⟩ : ∃ W, w1.alloc (.cells #[.int .i64 2, .int .u64 0, .int .u64 0, .int .u64 0, .int .u64 0, .slice none 0 0] 27) = W := ⟨_, rfl⟩
  rw [hW2, hgb] at A2
  obtain ⟨h0, h1, h2, h3, h4, h5⟩ := (unhide A2).box.frozen
  obtain ⟨y0, y1, y2, y3, y4, y5⟩ := (unhide A2).box.cells
  dsimp only at y1 y2 y3 y4
  have hput : ((((W2.setCell ⟨gb, 1, none⟩ (.int .u64 0)).setCell ⟨gb, 2, none⟩ (.int .u64 0)).setCell ⟨gb, 3, none⟩ (.int .u64 0)).setCell ⟨gb, 4, none⟩ (.int .u64 0)).setCell ⟨gb, 5, none⟩ (.slice none 0 0) = W2 := by
    rw [← hW2, ← hgb, World.setCell_alloc_new, World.setCell_alloc_new, World.setCell_alloc_new, World.setCell_alloc_new, World.setCell_alloc_new]; rfl
  have HPK := hide (peek_any W2 B g s _ (unhide A2).tx hs (by show a ≤ _; omega))
  go_wp2_with fail
  clear hW2 hgb A1 hput h0 h1 h2 h3 h4 h5 y0 y1 y2 y3 y4 y5
  refine (unhide HPK).mono ?_; rintro e w3 ⟨rfl, b3⟩
  have A3 := hide ((unhide A2).below b3)
  clear b3 A2 HPK
  go_wp2_with fail
  go_loopw [4, 5] (fun v4 v5 wr => ∃ (b : Nat) (e : Int) (ww : Nat) (bs : Bool) (k s1 s2 s3 s4 : Int) (o : Option Addr) (n c : Nat), v4 = .bool bs ∧ v5 = .string (pk s ⟨b, op, e, ww⟩) ∧ Dt1 w wr B g s ⟨b, op, e, ww⟩ gb k ⟨s1, s2, s3, s4⟩ (.slice o n c) ∧ b ≤ s.size + 100 - op ∧ RowSt w wr s grp r a gb b e ww bs (.agg #[.int .i64 k, .int .u64 s1, .int .u64 s2, .int .u64 s3, .int .u64 s4, .slice o n c])) (fun v4 v5 wr => if emptyV v5 then 0 else s.size + 1 - cellI wr g 1)
  case atStart => exact ⟨a, 0, ww, false, 2, 0, 0, 0, 0, none, 0, 0, rfl, rfl, unhide A3, by omega, .inl ⟨rfl, ha, .inl ⟨rfl, rfl, rfl⟩⟩⟩
  case round =>
    clear A3
    obtain ⟨b, e, ww, bs, k, s1, s2, s3, s4, o, n, c, rfl, rfl, hA, hb100, hst⟩ := hrel
    have A := hide hA
    have HBD : Hid (b ≤ s.size + 100 - op) := hide hb100
    have HM0 : Hid (cellI wr g 1 = b) := hide hA.tx.cellI
    clear hA
    rcases hst with ⟨rfl, hb, hbs⟩ | ⟨hz, hrr⟩
    · by_cases hre : rowE s b = true
      · have V6 : Hid (RsD (fun q => w.heap.size < q) wr r (.agg #[.int .i64 k, .int .u64 s1, .int .u64 s2, .int .u64 s3, .int .u64 s4, .slice o n c]) ⟨b, op, 0, ww⟩) := hide (by
          rcases hbs with ⟨rfl, rfl, hrv⟩ | ⟨rfl, x, y, h1, h2, h3⟩
          · rw [hrv, ← unhide HR, rowR, if_pos hre]; exact dleaf_ok rfl (by omega)
          · rw [h3, rowL_end hre]; exact ⟨rfl, rfl, y, h1, h2.mono fun q hq => hq.1⟩)
        clear hbs
        by_cases hbe : b = s.size
        · rw [show pk s ⟨b, op, 0, ww⟩ = ⟨#[]⟩ from pk_no (fun h => by have := h.2; omega)]
          clear hre
          obtain ⟨u0, u1, u2, u3, u4, u5⟩ := (unhide A).box.cells
          dsimp only at u1 u2 u3 u4
          have hg6 := (unhide A).gsz
          have hg7 := (unhide A).hgb
          obtain ⟨y0, y1, y2, y3, y4, y5⟩ := (unhide A).toDt0.rb.cells
          obtain ⟨h0, h1, h2, h3, h4, h5⟩ := (unhide A).toDt0.rb.frozen
          dsimp only at y1 y2 y3 y4
          have F := hide ((unhide A).toDt0.fin (unhide V6))
          go_wp2_with fail
          (try simp only [Exit.inBlock, Exit.then])
          refine bodyPost_ret_by (v := .agg #[.int .i64 k, .int .u64 s1, .int .u64 s2, .int .u64 s3, .int .u64 s4, .slice o n c]) ?_ rfl ⟨_, _, rfl, (unhide F).2.1, (unhide F).2.2.2, rfl, unhide HBD, (unhide F).2.2.1⟩
          exact results_cell_d (ty := 27) rfl _ _ w.heap.size _ rfl (unhide F).1
        · have hlt : b < s.size := by omega
          rw [pk_yes hlt]
          by_cases k124 : pkB s b = 124
          · rw [k124]
            clear hre k124
            obtain ⟨u0, u1, u2, u3, u4, u5⟩ := (unhide A).box.cells
            dsimp only at u1 u2 u3 u4
            have hg6 := (unhide A).gsz
            have hg7 := (unhide A).hgb
            obtain ⟨y0, y1, y2, y3, y4, y5⟩ := (unhide A).toDt0.rb.cells
            obtain ⟨h0, h1, h2, h3, h4, h5⟩ := (unhide A).toDt0.rb.frozen
            dsimp only at y1 y2 y3 y4
            have F := hide ((unhide A).toDt0.fin (unhide V6))
            go_wp2_with fail
            (try simp only [Exit.inBlock, Exit.then])
            refine bodyPost_ret_by (v := .agg #[.int .i64 k, .int .u64 s1, .int .u64 s2, .int .u64 s3, .int .u64 s4, .slice o n c]) ?_ rfl ⟨_, _, rfl, (unhide F).2.1, (unhide F).2.2.2, rfl, unhide HBD, (unhide F).2.2.1⟩
            exact results_cell_d (ty := 27) rfl _ _ w.heap.size _ rfl (unhide F).1
          · have k41 : pkB s b = 41 := by
              unfold rowE at hre
              rw [decide_eq_false hbe, decide_eq_false k124] at hre
              simpa using hre
            rw [k41]
            clear hre k124 k41
            obtain ⟨u0, u1, u2, u3, u4, u5⟩ := (unhide A).box.cells
            dsimp only at u1 u2 u3 u4
            have hg6 := (unhide A).gsz
            have hg7 := (unhide A).hgb
            obtain ⟨y0, y1, y2, y3, y4, y5⟩ := (unhide A).toDt0.rb.cells
            obtain ⟨h0, h1, h2, h3, h4, h5⟩ := (unhide A).toDt0.rb.frozen
            dsimp only at y1 y2 y3 y4
            have F := hide ((unhide A).toDt0.fin (unhide V6))
            go_wp2_with fail
            (try simp only [Exit.inBlock, Exit.then])
            refine bodyPost_ret_by (v := .agg #[.int .i64 k, .int .u64 s1, .int .u64 s2, .int .u64 s3, .int .u64 s4, .slice o n c]) ?_ rfl ⟨_, _, rfl, (unhide F).2.1, (unhide F).2.2.2, rfl, unhide HBD, (unhide F).2.2.1⟩
            exact results_cell_d (ty := 27) rfl _ _ w.heap.size _ rfl (unhide F).1
      · have hrf : rowE s b = false := by simpa using hre
        have hbe : b ≠ s.size := fun e => by rw [rowE, decide_eq_true e] at hrf; simp at hrf
        have k124 : pkB s b ≠ 124 := fun e => by rw [rowE, decide_eq_true e] at hrf; simp at hrf
        have k41 : pkB s b ≠ 41 := fun e => by rw [rowE, decide_eq_true e] at hrf; simp at hrf
        have hlt : b < s.size := by omega
        have HNE : Hid (emptyV (.string (pk s ⟨b, op, 0, ww⟩)) = false) := hide (by rw [pk_yes hlt]; rfl)
        rw [pk_yes hlt] at HNE ⊢
        have r124 := one_f k124
        have r41 := one_f k41
        have rE : ((⟨#[pkB s b]⟩ : ByteArray).toList == []) = false := by rw [Lib.toList_data]; rfl
        have rE' : (⟨#[pkB s b]⟩ : ByteArray).toList.isEmpty = false := by rw [Lib.toList_data]; rfl
        have hpg := pieceR_le hgood b hb
        have HC := hide ((unhide HPC) wr B g b ww (unhide A).tx hb)
        have HQ : Hid ((∀ y c, pieceR s grp b = .ok y c → b < c ∧ c ≤ s.size)) := hide (fun y c h => by rw [h] at hpg; exact hpg)
        have HRE := hide hre
        obtain ⟨ch, hch⟩ : ∃ c : ByteArray, (⟨#[pkB s b]⟩ : ByteArray) = c := ⟨_, rfl⟩
        rw [hch] at r124 r41 rE rE' HNE ⊢
        clear hch hrf hre k124 k41 hpg hbe
        have hsz0 := (unhide A).gsz
        have HBS := hide hbs
        clear hbs
        go_wp2_with fail
        refine (unhide HC).mono ?_
        rintro e2 w6 ⟨rv, ⟨b', op2, e', ww'⟩, rfl, g6, V6, ho, hbd, t6⟩
        dsimp only at ho hbd
        subst ho
        have A6 := hide ((unhide A).step g6 t6)
        have HG6 := hide g6
        obtain ⟨k', ⟨t1, t2, t3, t4⟩, o', n', c', rfl⟩ := V6.form
        have hlt6 : gb < w6.heap.size := (unhide A6).gsz
        have HV6 : Hid ((e' = 0 ∧ b < b' ∧ b' ≤ s.size ∧ ∃ (y : Ex) (z : Rx), Sim y.rx z ∧ RexN (NB w gb) w6 (.agg #[.int .i64 k', .int .u64 t1, .int .u64 t2, .int .u64 t3, .int .u64 t4, .slice o' n' c']) z ∧ pieceR s grp b = .ok y b') ∨ (e' ≠ 0 ∧ pieceR s grp b = .err e' ww')) := hide (by
          obtain ⟨q, hq⟩ : ∃ q, pieceR s grp b = q := ⟨_, rfl⟩
          rw [hq] at V6
          cases q with
          | ok y cc =>
            obtain ⟨v1, v2, z, v3, v4⟩ := V6
            dsimp only at v1 v2
            subst v1 v2
            exact .inl ⟨rfl, ((unhide HQ) y _ hq).1, ((unhide HQ) y _ hq).2, y, z, v3, v4.mono fun q hq => ⟨by have := (unhide A).toDt0.sz; omega, by omega⟩, hq⟩
          | err e9 c9 =>
            obtain ⟨v1, v2, v3, _⟩ := V6
            dsimp only at v1 v3
            subst v1 v3
            exact .inr ⟨v2, hq⟩)
        have HBD6 := hide hbd
        clear g6 t6 V6 HC hbd r124 r41 rE rE' HQ
        -- the variable x
        have bb := (Below.refl w6.heap.size w6).alloc (Nat.le_refl _) (.cells #[.int .i64 k', .int .u64 t1, .int .u64 t2, .int .u64 t3, .int .u64 t4, .slice o' n' c'] 27)
        have hwz6 := (unhide A6).toDt0.sz
        have A7 := hide ((unhide A6).below bb)
        have M7 := hide (RX.new (base := w.heap.size) w6 (Nat.le_of_lt hwz6) k' ⟨t1, t2, t3, t4⟩ (.slice o' n' c'))
        have T7 := hide (fun (v : Value) (z : Rx) (V : RexN (NB w gb) w6 v z) => NMbelow (NBtoNM V (Nat.le_refl _)) bb)
        obtain ⟨gm, hgm⟩ : ∃ gm, w6.heap.size = gm := ⟨_, rfl⟩
        rw [hgm] at M7 T7 hlt6 hwz6
        dsimp only at M7
        obtain ⟨W7, hW7⟩ : ∃ W, w6.alloc (.cells #[.int .i64 k', .int .u64 t1, .int .u64 t2, .int .u64 t3, .int .u64 t4, .slice o' n' c'] 27) = W := ⟨_, rfl⟩
        have hgm7 : gm < W7.heap.size := by rw [← hW7, ← hgm]; simp
        rw [hW7] at A7 M7 T7
        clear bb
        cases bs with
        | false =>
          have HN : Hid (RowSt w W7 s grp r a gb b' e' ww' true (.agg #[.int .i64 k', .int .u64 t1, .int .u64 t2, .int .u64 t3, .int .u64 t4, .slice o' n' c'])) := hide (by
            rcases unhide HBS with ⟨_, hba, _⟩ | ⟨h, _⟩
            · subst hba
              rcases unhide HV6 with ⟨h1, h2, h3, y, z, h4, h5, h6⟩ | ⟨h1, h2⟩
              · exact .inl ⟨h1, h3, .inr ⟨rfl, y, z, h4, NMtoNB ((unhide T7) _ _ h5), by rw [← unhide HR, rowR, if_neg (unhide HRE), h6]⟩⟩
              · exact .inr ⟨h1, by rw [← unhide HR, rowR, if_neg (unhide HRE), h2]⟩
            · cases h)
          have HL : Hid (e' = 0 → b < b') := hide (fun h => by
            rcases unhide HV6 with ⟨_, h2, _⟩ | ⟨h1, _⟩
            · exact h2
            · exact absurd h h1)
          clear HBS HV6 T7
          obtain ⟨x0, x1, x2, x3, x4, x5⟩ := (unhide M7).cells
          dsimp only at x1 x2 x3 x4
          obtain ⟨h0, h1, h2, h3, h4, h5⟩ := (unhide A7).box.frozen
          obtain ⟨y0, y1, y2, y3, y4, y5⟩ := (unhide A7).box.cells
          dsimp only at y1 y2 y3 y4
          obtain ⟨A8', p8⟩ := (unhide A7).put k' t1 t2 t3 t4 (.slice o' n' c')
          have A8 := hide A8'
          have HN8 : Hid (RowSt w (put6 W7 gb k' t1 t2 t3 t4 (.slice o' n' c')) s grp r a gb b' e' ww' true (.agg #[.int .i64 k', .int .u64 t1, .int .u64 t2, .int .u64 t3, .int .u64 t4, .slice o' n' c'])) := hide (by
            rcases unhide HN with ⟨h1, h2, ⟨h, _⟩ | ⟨_, x, y, h3, h4, h5⟩⟩ | h
            · cases h
            · exact .inl ⟨h1, h2, .inr ⟨rfl, x, y, h3, NBput h4 p8, h5⟩⟩
            · exact .inr h)
          obtain ⟨W8, hW8⟩ : ∃ W, (((((W7.setCell ⟨gb, 0, none⟩ (.int .i64 k')).setCell ⟨gb, 1, none⟩ (.int .u64 t1)).setCell ⟨gb, 2, none⟩ (.int .u64 t2)).setCell ⟨gb, 3, none⟩ (.int .u64 t3)).setCell ⟨gb, 4, none⟩ (.int .u64 t4)).setCell ⟨gb, 5, none⟩ (.slice o' n' c') = W := ⟨_, rfl⟩
          have hW8' : put6 W7 gb k' t1 t2 t3 t4 (.slice o' n' c') = W8 := hW8
          rw [hW8'] at A8 HN8
          clear A8' p8 hW8' HN
          have HPK := hide (peek_any W8 B g s _ (unhide A8).tx hs (by have := unhide HBD6; show b' ≤ _; omega))
          clear A7
          go_wp2_with fail
          clear hW8 hW7 hgm
          refine (unhide HPK).mono ?_; rintro e9 w9 ⟨rfl, b9⟩
          have A9 := hide ((unhide A8).below b9)
          have HN9 : Hid (RowSt w w9 s grp r a gb b' e' ww' true (.agg #[.int .i64 k', .int .u64 t1, .int .u64 t2, .int .u64 t3, .int .u64 t4, .slice o' n' c'])) := hide (by
            rcases unhide HN8 with ⟨h1, h2, ⟨h, _⟩ | ⟨_, x, y, h3, h4, h5⟩⟩ | h
            · cases h
            · exact .inl ⟨h1, h2, .inr ⟨rfl, x, y, h3, NBbelow h4 b9, h5⟩⟩
            · exact .inr h)
          clear b9 HPK A8 HN8 x0 x1 x2 x3 x4 x5 y0 y1 y2 y3 y4 y5 h0 h1 h2 h3 h4 h5
          go_wp2_with fail
          refine ⟨⟨b', e', ww', true, k', t1, t2, t3, t4, o', n', c', rfl, rfl, unhide A9, unhide HBD6, unhide HN9⟩, ?_⟩
          rw [(unhide A9).tx.cellI, unhide HM0, unhide HNE]
          exact row_next (unhide HN9) hlt (unhide HL)
        | true =>
          have HX : Hid (∃ (x : Ex) (y : Rx), Sim x.rx y ∧ RexN (NM w gb gm) W7 (.agg #[.int .i64 k, .int .u64 s1, .int .u64 s2, .int .u64 s3, .int .u64 s4, .slice o n c]) y ∧ r = rowL s grp x b) := hide (by
            rcases unhide HBS with ⟨h, _⟩ | ⟨_, x, y, h1, h2, h3⟩
            · cases h
            · exact ⟨x, y, h1, (unhide T7) _ _ (NBstep h2 (unhide HG6) (unhide A).lt), h3⟩)
          have HY : Hid ((e' = 0 ∧ b < b' ∧ b' ≤ s.size ∧ ∃ (y : Ex) (z : Rx), Sim y.rx z ∧ RexN (NM w gb gm) W7 (.agg #[.int .i64 k', .int .u64 t1, .int .u64 t2, .int .u64 t3, .int .u64 t4, .slice o' n' c']) z ∧ pieceR s grp b = .ok y b') ∨ (e' ≠ 0 ∧ pieceR s grp b = .err e' ww')) := hide (by
            rcases unhide HV6 with ⟨h1, h2, h3, y, z, h4, h5, h6⟩ | h
            · exact .inl ⟨h1, h2, h3, y, z, h4, (unhide T7) _ _ h5, h6⟩
            · exact .inr h)
          have HL : Hid (e' = 0 → b < b') := hide (fun h => by
            rcases unhide HV6 with ⟨_, h2, _⟩ | ⟨h1, _⟩
            · exact h2
            · exact absurd h h1)
          clear HBS HV6 T7
          obtain ⟨x0, x1, x2, x3, x4, x5⟩ := (unhide M7).cells
          dsimp only at x1 x2 x3 x4
          obtain ⟨y0, y1, y2, y3, y4, y5⟩ := (unhide A7).box.cells
          dsimp only at y1 y2 y3 y4
          have hg7 := (unhide A7).gsz
          go_wp2_with fail
          clear hW7 hgm
          refine (node_any 4 _ 2 2 _).mono ?_
          rintro e8 w8 ⟨rfl, b8⟩
          have A8 := hide (((unhide A7).alloc _).below b8)
          have M8 := hide (((unhide M7).below ((Below.refl _ _).alloc (Nat.le_refl _) _)).below b8)
          have H8 := hide (heap_of b8)
          have hgm8 : gm < w8.heap.size := by have := b8.size; simp at this; omega
          have HXY : Hid ((e' = 0 ∧ b < b' ∧ b' ≤ s.size ∧ ∃ (x : Ex) (y : Rx), Sim x.rx y ∧ RexN (NM w gb gm) w8 (.agg #[.int .i64 4, .int .u64 0, .int .u64 0, .int .u64 0, .int .u64 0, .slice (some ⟨W7.heap.size, 0, none⟩) 2 2]) y ∧ r = rowL s grp x b') ∨ (e' ≠ 0 ∧ r = .err e' ww')) := hide (by
            obtain ⟨x, y, hx1, hx2, hx3⟩ := unhide HX
            rcases unhide HY with ⟨h1, h2, h3, y2, z, h4, h5, h6⟩ | ⟨h1, h2⟩
            · exact .inl ⟨h1, h2, h3, .cat x y2, _, hx1.two h4, rexN_two (s := ⟨s1, s2, s3, s4⟩) (s' := ⟨t1, t2, t3, t4⟩) (NMbelow (NMbelow hx2 ((Below.refl _ _).alloc (Nat.le_refl _) _)) b8) (NMbelow (NMbelow h5 ((Below.refl _ _).alloc (Nat.le_refl _) _)) b8) ⟨(unhide A7).toDt0.sz, (Nat.ne_of_lt hg7).symm, (Nat.ne_of_lt hgm7).symm⟩ (unhide H8) (k := 4) (by omega), by rw [hx3, rowL_go hgood hb (unhide HRE) h6]⟩
            · exact .inr ⟨h1, by rw [hx3, rowL_err (unhide HRE) h2]⟩)
          obtain ⟨gk, hgk⟩ : ∃ gk, W7.heap.size = gk := ⟨_, rfl⟩
          rw [hgk] at HXY ⊢
          clear b8 HX HY H8 A7 M7 hg7 hgk x0 x1 x2 x3 x4 x5 y0 y1 y2 y3 y4 y5 hgm7
          -- x = ..
          obtain ⟨j0, j1, j2, j3, j4, j5⟩ := (unhide M8).frozen
          obtain ⟨m0, m1, m2, m3, m4, m5⟩ := (unhide M8).cells
          dsimp only at m1 m2 m3 m4
          obtain ⟨M9', p9⟩ := (unhide M8).put 4 0 0 0 0 (.slice (some ⟨gk, 0, none⟩) 2 2)
          have M9 := hide M9'
          have A9 := hide ((unhide A8).other p9 hwz6 (by omega))
          have HX9 : Hid ((e' = 0 ∧ b < b' ∧ b' ≤ s.size ∧ ∃ (x : Ex) (y : Rx), Sim x.rx y ∧ RexN (NM w gb gm) (put6 w8 gm 4 0 0 0 0 (.slice (some ⟨gk, 0, none⟩) 2 2)) (.agg #[.int .i64 4, .int .u64 0, .int .u64 0, .int .u64 0, .int .u64 0, .slice (some ⟨gk, 0, none⟩) 2 2]) y ∧ r = rowL s grp x b') ∨ (e' ≠ 0 ∧ r = .err e' ww')) := hide (by
            rcases unhide HXY with ⟨h1, h2, h3, x, y, h4, h5, h6⟩ | h
            · exact .inl ⟨h1, h2, h3, x, y, h4, NMput h5 p9, h6⟩
            · exact .inr h)
          obtain ⟨W9, hW9⟩ : ∃ W, (((((w8.setCell ⟨gm, 0, none⟩ (.int .i64 4)).setCell ⟨gm, 1, none⟩ (.int .u64 0)).setCell ⟨gm, 2, none⟩ (.int .u64 0)).setCell ⟨gm, 3, none⟩ (.int .u64 0)).setCell ⟨gm, 4, none⟩ (.int .u64 0)).setCell ⟨gm, 5, none⟩ (.slice (some ⟨gk, 0, none⟩) 2 2) = W := ⟨_, rfl⟩
          have hW9' : put6 w8 gm 4 0 0 0 0 (.slice (some ⟨gk, 0, none⟩) 2 2) = W9 := hW9
          rw [hW9'] at M9 A9 HX9
          clear M9' p9 hW9' HXY A8 M8
          -- out = x
          obtain ⟨x0, x1, x2, x3, x4, x5⟩ := (unhide M9).cells
          dsimp only at x1 x2 x3 x4
          obtain ⟨h0, h1, h2, h3, h4, h5⟩ := (unhide A9).box.frozen
          obtain ⟨y0, y1, y2, y3, y4, y5⟩ := (unhide A9).box.cells
          dsimp only at y1 y2 y3 y4
          obtain ⟨AA', pA⟩ := (unhide A9).put 4 0 0 0 0 (.slice (some ⟨gk, 0, none⟩) 2 2)
          have AA := hide AA'
          have HN8 : Hid (RowSt w (put6 W9 gb 4 0 0 0 0 (.slice (some ⟨gk, 0, none⟩) 2 2)) s grp r a gb b' e' ww' true (.agg #[.int .i64 4, .int .u64 0, .int .u64 0, .int .u64 0, .int .u64 0, .slice (some ⟨gk, 0, none⟩) 2 2])) := hide (by
            rcases unhide HX9 with ⟨h1, h2, h3, x, y, h4, h5, h6⟩ | h
            · exact .inl ⟨h1, h3, .inr ⟨rfl, x, y, h4, NBput (NMtoNB h5) pA, h6⟩⟩
            · exact .inr h)
          obtain ⟨WA, hWA⟩ : ∃ W, (((((W9.setCell ⟨gb, 0, none⟩ (.int .i64 4)).setCell ⟨gb, 1, none⟩ (.int .u64 0)).setCell ⟨gb, 2, none⟩ (.int .u64 0)).setCell ⟨gb, 3, none⟩ (.int .u64 0)).setCell ⟨gb, 4, none⟩ (.int .u64 0)).setCell ⟨gb, 5, none⟩ (.slice (some ⟨gk, 0, none⟩) 2 2) = W := ⟨_, rfl⟩
          have hWA' : put6 W9 gb 4 0 0 0 0 (.slice (some ⟨gk, 0, none⟩) 2 2) = WA := hWA
          rw [hWA'] at AA HN8
          clear AA' pA hWA' HX9 A9
          have HPK := hide (peek_any WA B g s _ (unhide AA).tx hs (by have := unhide HBD6; show b' ≤ _; omega))
          go_wp2_with fail
          clear hW9 hWA
          refine (unhide HPK).mono ?_; rintro e9 w9 ⟨rfl, b9⟩
          have AE := hide ((unhide AA).below b9)
          have HN9 : Hid (RowSt w w9 s grp r a gb b' e' ww' true (.agg #[.int .i64 4, .int .u64 0, .int .u64 0, .int .u64 0, .int .u64 0, .slice (some ⟨gk, 0, none⟩) 2 2])) := hide (by
            rcases unhide HN8 with ⟨h1, h2, ⟨h, _⟩ | ⟨_, x, y, h3, h4, h5⟩⟩ | h
            · cases h
            · exact .inl ⟨h1, h2, .inr ⟨rfl, x, y, h3, NBbelow h4 b9, h5⟩⟩
            · exact .inr h)
          clear b9 HPK AA HN8 M9 x0 x1 x2 x3 x4 x5 y0 y1 y2 y3 y4 y5 h0 h1 h2 h3 h4 h5 j0 j1 j2 j3 j4 j5 m0 m1 m2 m3 m4 m5
          go_wp2_with fail
          refine ⟨⟨b', e', ww', true, 4, 0, 0, 0, 0, some ⟨gk, 0, none⟩, 2, 2, rfl, rfl, unhide AE, unhide HBD6, unhide HN9⟩, ?_⟩
          rw [(unhide AE).tx.cellI, unhide HM0, unhide HNE]
          exact row_next (unhide HN9) hlt (unhide HL)
    · have V6 : Hid (RsD (fun q => w.heap.size < q) wr r (.agg #[.int .i64 k, .int .u64 s1, .int .u64 s2, .int .u64 s3, .int .u64 s4, .slice o n c]) ⟨b, op, e, ww⟩) := hide (by
        rw [hrr]; exact ⟨rfl, hz, rfl, k, ⟨s1, s2, s3, s4⟩, o, n, c, rfl⟩)
      rw [pk_err hz]
      clear hz hrr
      obtain ⟨u0, u1, u2, u3, u4, u5⟩ := (unhide A).box.cells
      dsimp only at u1 u2 u3 u4
      have hg6 := (unhide A).gsz
      have hg7 := (unhide A).hgb
      obtain ⟨y0, y1, y2, y3, y4, y5⟩ := (unhide A).toDt0.rb.cells
      obtain ⟨h0, h1, h2, h3, h4, h5⟩ := (unhide A).toDt0.rb.frozen
      dsimp only at y1 y2 y3 y4
      have F := hide ((unhide A).toDt0.fin (unhide V6))
      go_wp2_with fail
      (try simp only [Exit.inBlock, Exit.then])
      refine bodyPost_ret_by (v := .agg #[.int .i64 k, .int .u64 s1, .int .u64 s2, .int .u64 s3, .int .u64 s4, .slice o n c]) ?_ rfl ⟨_, _, rfl, (unhide F).2.1, (unhide F).2.2.2, rfl, unhide HBD, (unhide F).2.2.1⟩
      exact results_cell_d (ty := 27) rfl _ _ w.heap.size _ rfl (unhide F).1
end Go.Proofs.Ytjecopdbcaojcaa

/- The document's reading of expressions: brackets; choices. -/
namespace Go.Proofs.Ytjecopdbcaojcaa
open Go.RowKit Kb
set_option linter.unusedVariables false
set_option maxRecDepth 20000

set_option maxHeartbeats 8000000 in
theorem datom_open (w : World) (B g : Nat) (s : ByteArray) (a op ww : Nat) (h : Txt w B g s ⟨a, op, 0, ww⟩) (hs : s.size ≤ 200) (ha : a ≤ s.size) (hop : op ≤ 20) (hk : pkB s a = 40) (hop2 : op < 20) (d : Nat) (HA : DrC 17 s (op + 1) (altR s (grpR s d))) :
    Calls Try.prog 46 #[.pointer (some ⟨g, 0, none⟩)] w (DrP w B g s op (grpR s (d + 1) a)) := by
  have A0 := hide (Dt0.start h)
  have HPK := hide (peek_any _ B g s _ (unhide A0).tx hs (by show a ≤ _; omega))
  have q40 := pk_dec (s := s) (a := a) (op := op) (ww := ww) 40 (by decide)
  have q46 := pk_dec (s := s) (a := a) (op := op) (ww := ww) 46 (by decide)
  have q94 := pk_dec (s := s) (a := a) (op := op) (ww := ww) 94 (by decide)
  have q36 := pk_dec (s := s) (a := a) (op := op) (ww := ww) 36 (by decide)
  have q91 := pk_dec (s := s) (a := a) (op := op) (ww := ww) 91 (by decide)
  obtain ⟨c, hc⟩ : ∃ c, pk s ⟨a, op, 0, ww⟩ = c := ⟨_, rfl⟩
  rw [hc] at HPK q40 q46 q94 q36 q91
  rw [decide_eq_true hk] at q40
  clear q46
  clear q94
  clear q36
  clear q91
  have hlt := pk_some hk (by decide)
  clear hk
  clear hc h
  go_enter Try.func46, Try.ntmps46
  go_wp2_with fail
  refine (unhide HPK).mono ?_; rintro e w1 ⟨rfl, b1⟩
  have A1 := hide ((unhide A0).below b1)
  clear b1 A0 HPK
  obtain ⟨op1, hop1⟩ : ∃ n, op + 1 = n := ⟨_, rfl⟩
  have hopI : ¬ (op : Int) = 20 := by omega
  have hopI2 : (((op : Int) == 20) : Bool) = false := by simp; omega
  have f1 := World.ownsRow.frozenAt (unhide A1).tx 1
  obtain ⟨c0, c1, c2, c3, c4⟩ := (unhide A1).tx.cells
  dsimp only at c0 c1 c2 c3 c4
  have A2 := hide ((unhide A1).at_ (a + 1)).1
  obtain ⟨W2, hW2⟩ : ∃ W, w1.setCell ⟨g, 1, none⟩ (.int .i64 ((a + 1 : Nat) : Int)) = W := ⟨_, rfl⟩
  rw [hW2] at A2
  rw [Int.natCast_add, Int.cast_ofNat_Int] at hW2
  have f2 := World.ownsRow.frozenAt (unhide A2).tx 2
  obtain ⟨d0, d1, d2, d3, d4⟩ := (unhide A2).tx.cells
  dsimp only at d0 d1 d2 d3 d4
  have A3 := hide ((unhide A2).op_ op1).1
  obtain ⟨W3, hW3⟩ : ∃ W, W2.setCell ⟨g, 2, none⟩ (.int .i64 (op1 : Int)) = W := ⟨_, rfl⟩
  rw [hW3] at A3
  rw [show (op1 : Int) = (op : Int) + 1 by omega] at hW3
  rw [hop1] at HA
  have HC := hide (HA W3 B g (a + 1) ww (unhide A3).tx hlt)
  clear HA
  go_wp2_with fail
  clear hW2 hW3 c0 c1 c2 c3 c4 d0 d1 d2 d3 d4 f1 f2 A1 A2 hopI hopI2
  refine (unhide HC).mono ?_; rintro e4 w4 ⟨rv, ⟨b', op2, e', ww'⟩, rfl, g4, V4, ho, hbd, t4⟩
  dsimp only at ho hbd
  subst ho
  have A4 := hide ((unhide A3).step g4 t4)
  have V5 := hide ((unhide A3).up V4)
  obtain ⟨k, ⟨s1, s2, s3, s4⟩, o, n, c, rfl⟩ := V4.form
  have HBD := hide hbd
  have hb200 : b' ≤ 1000 := by omega
  clear g4 t4 V4 HC A3 hbd
  have A5 := hide (Dt1.start (unhide A4) k ⟨s1, s2, s3, s4⟩ (.slice o n c))
  have V6 : Hid (RsD (NB w w4.heap.size) (w4.alloc (.cells #[.int .i64 k, .int .u64 s1, .int .u64 s2, .int .u64 s3, .int .u64 s4, .slice o n c] 27)) (altR s (grpR s d) (a + 1)) (.agg #[.int .i64 k, .int .u64 s1, .int .u64 s2, .int .u64 s3, .int .u64 s4, .slice o n c]) ⟨b', op2, e', ww'⟩) := hide ((unhide V5).move (by simp) fun j hj hl => ⟨((Below.refl _ w4).alloc (Nat.le_refl _) _).block j hl, hj, by omega⟩)
  obtain ⟨gb, hgb⟩ : ∃ gb, w4.heap.size = gb := ⟨_, rfl⟩
  dsimp only at A5
  obtain ⟨W5, hW5⟩ : ∃ W, w4.alloc (.cells #[.int .i64 k, .int .u64 s1, .int .u64 s2, .int .u64 s3, .int .u64 s4, .slice o n c] 27) = W := ⟨_, rfl⟩
  rw [hW5, hgb] at A5 V6
  -- open--
  have f2 := World.ownsRow.frozenAt (unhide A5).tx 2
  obtain ⟨d0, d1, d2, d3, d4⟩ := (unhide A5).tx.cells
  dsimp only at d0 d1 d2 d3 d4
  obtain ⟨A6', g6⟩ := (unhide A5).op_ op
  have A6 := hide A6'
  have V7 : Hid (RsD (NB w gb) (W5.setCell ⟨g, 2, none⟩ (.int .i64 (op : Int))) (altR s (grpR s d) (a + 1)) (.agg #[.int .i64 k, .int .u64 s1, .int .u64 s2, .int .u64 s3, .int .u64 s4, .slice o n c]) ⟨b', op2, e', ww'⟩) := hide ((unhide V6).grown g6 fun q hq _ => ⟨fun e => by cases e; have := (unhide A5).lt; have := hq.1; omega, hq⟩)
  obtain ⟨W6, hW6⟩ : ∃ W, W5.setCell ⟨g, 2, none⟩ (.int .i64 (op : Int)) = W := ⟨_, rfl⟩
  rw [hW6] at A6 V7
  rw [show (op : Int) = (op2 : Int) - 1 by omega] at hW6
  have HPK := hide (peek_any W6 B g s _ (unhide A6).tx hs (by show b' ≤ _; omega))
  clear A6' g6 V5 V6
  by_cases h41 : e' = 0 ∧ pkB s b' = 41
  · obtain ⟨rfl, h41⟩ := h41
    have hlt2 := pk_some h41 (by decide)
    have q41 := pk_dec (s := s) (a := b') (op := op) (ww := ww') 41 (by decide)
    rw [decide_eq_true h41] at q41
    obtain ⟨ch, hch⟩ : ∃ c, pk s ⟨b', op, 0, ww'⟩ = c := ⟨_, rfl⟩
    rw [hch] at HPK q41
    have V8 : Hid (RsD (NB w gb) W6 (grpR s (d + 1) a) (.agg #[.int .i64 k, .int .u64 s1, .int .u64 s2, .int .u64 s3, .int .u64 s4, .slice o n c]) ⟨b' + 1, op, 0, ww'⟩) := hide (by
      have V := unhide V7
      rw [grpR]
      obtain ⟨q, hq⟩ : ∃ q, altR s (grpR s d) (a + 1) = q := ⟨_, rfl⟩
      rw [hq] at V ⊢
      cases q with
      | ok x b =>
        obtain ⟨v1, v2, y, v3, v4⟩ := V
        dsimp only at v1 v2
        subst v2
        dsimp only
        rw [if_pos h41]
        exact ⟨rfl, rfl, y, v3, v4⟩
      | err e b =>
        obtain ⟨v1, v2, _⟩ := V
        exact absurd v1.symm v2)
    clear hch h41 V7
    go_wp2_with fail
    clear hW5 hW6 hgb d0 d1 d2 d3 d4 f2 A5 A4
    refine (unhide HPK).mono ?_; rintro e7 w7 ⟨rfl, b7⟩
    have A7 := hide ((unhide A6).below b7)
    have V9 := hide ((unhide V8).move b7.size fun j hj hl => ⟨b7.block j hl, hj⟩)
    clear b7 HPK A6 V8
    have f1 := World.ownsRow.frozenAt (unhide A7).tx 1
    obtain ⟨c0, c1, c2, c3, c4⟩ := (unhide A7).tx.cells
    dsimp only at c0 c1 c2 c3 c4
    obtain ⟨A8', G8'⟩ := (unhide A7).at_ (b' + 1)
    have A8 := hide A8'
    have G8 := hide G8'
    obtain ⟨W8, hW8⟩ : ∃ W, w7.setCell ⟨g, 1, none⟩ (.int .i64 ((b' + 1 : Nat) : Int)) = W := ⟨_, rfl⟩
    rw [hW8] at A8 G8
    rw [Int.natCast_add, Int.cast_ofNat_Int] at hW8
    clear A8' G8'
    have V10 : Hid (RsD (fun q => w.heap.size < q) W8 (grpR s (d + 1) a) (.agg #[.int .i64 k, .int .u64 s1, .int .u64 s2, .int .u64 s3, .int .u64 s4, .slice o n c]) ⟨b' + 1, op, 0, ww'⟩) := hide ((unhide V9).grown (unhide G8) fun q hq _ => ⟨fun e => by cases e; have := (unhide A7).lt; have := hq.1; omega, hq.1⟩)
    clear V9 G8
    obtain ⟨u0, u1, u2, u3, u4, u5⟩ := (unhide A8).box.cells
    dsimp only at u1 u2 u3 u4
    obtain ⟨u0, u1, u2, u3, u4, u5⟩ := (unhide A8).box.cells
    dsimp only at u1 u2 u3 u4
    have hg6 := (unhide A8).gsz
    have hg7 := (unhide A8).hgb
    obtain ⟨y0, y1, y2, y3, y4, y5⟩ := (unhide A8).toDt0.rb.cells
    obtain ⟨h0, h1, h2, h3, h4, h5⟩ := (unhide A8).toDt0.rb.frozen
    dsimp only at y1 y2 y3 y4
    have F := hide ((unhide A8).toDt0.fin (unhide V10))
    go_wp2_with fail
    (try simp only [Exit.inBlock, Exit.then])
    refine bodyPost_ret_by (v := .agg #[.int .i64 k, .int .u64 s1, .int .u64 s2, .int .u64 s3, .int .u64 s4, .slice o n c]) ?_ rfl ⟨_, _, rfl, (unhide F).2.1, (unhide F).2.2.2, rfl, (by have := unhide HBD; show b' + 1 ≤ _; omega), (unhide F).2.2.1⟩
    exact results_cell_d (ty := 27) rfl _ _ w.heap.size _ rfl (unhide F).1
  · have hf : ((pk s ⟨b', op, e', ww'⟩).toList == [41]) = false := by
      by_cases he : e' = 0
      · subst he
        rw [pk_dec 41 (by decide), decide_eq_false (fun h => h41 ⟨rfl, h⟩)]
      · rw [pk_err he, Lib.toList_data]; rfl
    obtain ⟨ch, hch⟩ : ∃ c, pk s ⟨b', op, e', ww'⟩ = c := ⟨_, rfl⟩
    rw [hch] at HPK hf
    obtain ⟨e9, ww9, hwr⟩ : ∃ e9 ww9, wrongT ⟨b', op, e', ww'⟩ 3 b' = ⟨b', op, e9, ww9⟩ := by
      unfold wrongT
      split
      · exact ⟨_, _, rfl⟩
      · exact ⟨_, _, rfl⟩
    have V8 : Hid (∀ W, RsD (fun q => w.heap.size < q) W (grpR s (d + 1) a) (.agg #[.int .i64 k, .int .u64 s1, .int .u64 s2, .int .u64 s3, .int .u64 s4, .slice o n c]) ⟨b' + 1, op, e9, ww9⟩) := hide (fun W => by
      have V := unhide V7
      rw [grpR]
      obtain ⟨q, hq⟩ : ∃ q, altR s (grpR s d) (a + 1) = q := ⟨_, rfl⟩
      rw [hq] at V ⊢
      cases q with
      | ok x b =>
        obtain ⟨v1, v2, y, v3, v4⟩ := V
        dsimp only at v1 v2
        subst v1 v2
        rw [show wrongT ⟨b', op, 0, ww'⟩ 3 b' = ⟨b', op, 3, b'⟩ from if_pos rfl] at hwr
        cases hwr
        dsimp only
        rw [if_neg (fun h => h41 ⟨rfl, h⟩)]
        exact derr_ok (by decide)
      | err e b =>
        obtain ⟨v1, v2, v3, _⟩ := V
        dsimp only at v1 v3
        subst v1 v3
        rw [show wrongT ⟨b', op, e', ww'⟩ 3 b' = ⟨b', op, e', ww'⟩ from if_neg v2] at hwr
        cases hwr
        exact derr_ok v2)
    have HWRE := hide hwr
    clear hch h41 V7 hwr
    go_wp2_with fail
    clear hW5 hW6 hgb d0 d1 d2 d3 d4 f2 A5 A4
    refine (unhide HPK).mono ?_; rintro e7 w7 ⟨rfl, b7⟩
    have A7 := hide ((unhide A6).below b7)
    clear b7 HPK A6
    have HWR := hide (wrong_any w7 B g s _ (unhide A7).tx 3 b')
    rw [unhide HWRE] at HWR
    obtain ⟨d0, d1, d2, d3, d4⟩ := (unhide A7).tx.cells
    dsimp only at d0 d1 d2 d3 d4
    go_wp2_with fail
    clear d0 d1 d2 d3 d4 hf
    refine (unhide HWR).mono ?_; rintro e10 w10 ⟨rfl, g10, t10⟩
    have AA := hide ((unhide A7).step g10 t10)
    clear g10 t10 HWR A7
    have f1 := World.ownsRow.frozenAt (unhide AA).tx 1
    obtain ⟨c0, c1, c2, c3, c4⟩ := (unhide AA).tx.cells
    dsimp only at c0 c1 c2 c3 c4
    obtain ⟨A8', G8'⟩ := (unhide AA).at_ (b' + 1)
    have A8 := hide A8'
    have G8 := hide G8'
    obtain ⟨W8, hW8⟩ : ∃ W, w10.setCell ⟨g, 1, none⟩ (.int .i64 ((b' + 1 : Nat) : Int)) = W := ⟨_, rfl⟩
    rw [hW8] at A8 G8
    rw [Int.natCast_add, Int.cast_ofNat_Int] at hW8
    clear A8' G8'
    have V10 := hide ((unhide V8) W8)
    clear V8 G8
    obtain ⟨u0, u1, u2, u3, u4, u5⟩ := (unhide A8).box.cells
    dsimp only at u1 u2 u3 u4
    have hg6 := (unhide A8).gsz
    have hg7 := (unhide A8).hgb
    obtain ⟨y0, y1, y2, y3, y4, y5⟩ := (unhide A8).toDt0.rb.cells
    obtain ⟨h0, h1, h2, h3, h4, h5⟩ := (unhide A8).toDt0.rb.frozen
    dsimp only at y1 y2 y3 y4
    have F := hide ((unhide A8).toDt0.fin (unhide V10))
    go_wp2_with fail
    (try simp only [Exit.inBlock, Exit.then])
    refine bodyPost_ret_by (v := .agg #[.int .i64 k, .int .u64 s1, .int .u64 s2, .int .u64 s3, .int .u64 s4, .slice o n c]) ?_ rfl ⟨_, _, rfl, (unhide F).2.1, (unhide F).2.2.2, rfl, (by have := unhide HBD; show b' + 1 ≤ _; omega), (unhide F).2.2.1⟩
    exact results_cell_d (ty := 27) rfl _ _ w.heap.size _ rfl (unhide F).1
/-- an atom -/
theorem datom_any (s : ByteArray) (hs : s.size ≤ 200) (op d : Nat) (hod : op + d = 20) (HA : ∀ d', d = d' + 1 → DrC 17 s (op + 1) (altR s (grpR s d'))) : DrC 46 s op (atomR s (grpR s d)) := by
  intro w B g a ww h ha
  have hop : op ≤ 20 := by omega
  unfold atomR
  by_cases h40 : pkB s a = 40
  · rw [if_pos h40]
    cases d with
    | zero => exact datom_deep w B g s a op ww h hs ha hop h40 (by omega)
    | succ d => exact datom_open w B g s a op ww h hs ha hop h40 (by omega) d (HA d rfl)
  rw [if_neg h40]
  by_cases h91 : pkB s a = 91
  · rw [if_pos h91]; exact datom_cls w B g s a op ww h hs ha hop h91
  rw [if_neg h91]
  by_cases h46 : pkB s a = 46
  · rw [if_pos h46]; exact datom_dot w B g s a op ww h hs ha hop h46
  rw [if_neg h46]
  by_cases h94 : pkB s a = 94
  · rw [if_pos h94]; exact datom_beg w B g s a op ww h hs ha hop h94
  rw [if_neg h94]
  by_cases h36 : pkB s a = 36
  · rw [if_pos h36]; exact datom_end w B g s a op ww h hs ha hop h36
  rw [if_neg h36]
  exact datom_item w B g s a op ww h hs ha hop h40 h91 h46 h94 h36
def errI (w : World) (g : Nat) : Int := intOf ((w.cell? ⟨g, 3, none⟩).getD undef)
theorem Txt.errI {w : World} {B g : Nat} {s : ByteArray} {t : Td} (h : Txt w B g s t) : errI w g = t.e := by
  unfold Go.Proofs.Ytjecopdbcaojcaa.errI
  rw [h.cells.2.2.2.1]; simp [intOf]
/-- where the reading of a choice stands -/
def AltSt (w W : World) (s : ByteArray) (grp : Nat → Rs) (r : Rs) (gb b : Nat) (e : Int) (ww : Nat) (rv : Value) : Prop :=
  (e = 0 ∧ b ≤ s.size ∧ ∃ (x : Ex) (y : Rx), Sim x.rx y ∧ RexN (NB w gb) W rv y ∧ r = altL s grp x b) ∨ (e ≠ 0 ∧ r = .err e ww)
set_option maxHeartbeats 16000000 in
theorem dalt_any (s : ByteArray) (hs : s.size ≤ 200) (op : Nat) (hop : op ≤ 20) (grp : Nat → Rs) (hgood : GoodG s grp) (HA : DrC 32 s op (rowR s grp)) : DrC 17 s op (altR s grp) := by
  intro w B g a ww h ha
  have A0 := hide (Dt0.start h)
  obtain ⟨r, hr⟩ : ∃ r, altR s grp a = r := ⟨_, rfl⟩
  rw [hr]
  have HC := hide (HA _ B g a ww (unhide A0).tx ha)
  have HRC := hide HA
  have hgd := rowR_le hgood a ha
  have HR : Hid ((∀ x b, rowR s grp a = .ok x b → r = altL s grp x b) ∧ (∀ e b, rowR s grp a = .err e b → r = .err e b)) := hide ⟨fun x b h => by rw [← hr, altR, h], fun e b h => by rw [← hr, altR, h]⟩
  obtain ⟨q, hq⟩ : ∃ q, rowR s grp a = q := ⟨_, rfl⟩
  rw [hq] at HR HC hgd
  clear hr h hq HA
  go_enter Try.func17, Try.ntmps17
  go_wp2_with fail
  refine (unhide HC).mono ?_
  rintro e w2 ⟨rv, ⟨b0, op2, e0, ww0⟩, rfl, g2, V2, ho, hbd, t2⟩
  dsimp only at ho hbd
  subst ho
  have A2 := hide ((unhide A0).step g2 t2)
  obtain ⟨k, ⟨s1, s2, s3, s4⟩, o, n, c, rfl⟩ := V2.form
  have A3 := hide (Dt1.start (unhide A2) k ⟨s1, s2, s3, s4⟩ (.slice o n c))
  obtain ⟨gb, hgb⟩ : ∃ gb, w2.heap.size = gb := ⟨_, rfl⟩
  obtain ⟨W3, hW3⟩ : ∃ W3, w2.alloc (.cells #[.int .i64 k, .int .u64 s1, .int .u64 s2, .int .u64 s3, .int .u64 s4, .slice o n c] 27) = W3 := ⟨_, rfl⟩
  have HST2 : Hid (b0 ≤ s.size + 100 - op2 ∧ AltSt w W3 s grp r gb b0 e0 ww0 (.agg #[.int .i64 k, .int .u64 s1, .int .u64 s2, .int .u64 s3, .int .u64 s4, .slice o n c])) := hide (by
    refine ⟨hbd, ?_⟩
    cases q with
    | ok x b =>
      obtain ⟨v1, v2, y, v3, v4⟩ := V2
      dsimp only at v1 v2
      subst v1 v2
      refine .inl ⟨rfl, hgd.2, x, y, v3, ?_, (unhide HR).1 x _ rfl⟩
      rw [← hW3]
      refine NBalloc (v4.move (Nat.le_refl _) fun j hj hl => ⟨rfl, ?_, ?_⟩) _
      · have := (unhide A0).sz; omega
      · omega
    | err e b =>
      obtain ⟨v1, v2, v3, _⟩ := V2
      dsimp only at v1 v3
      subst v1 v3
      exact .inr ⟨v2, (unhide HR).2 _ _ rfl⟩)
  dsimp only at A3
  rw [hW3, hgb] at A3
  clear g2 t2 V2 HC HR A0 A2 hgd hbd
  go_wp2_with fail
  clear hW3 hgb
  go_loopw [] (fun wr => ∃ (b : Nat) (e : Int) (ww : Nat) (k s1 s2 s3 s4 : Int) (o : Option Addr) (n c : Nat), Dt1 w wr B g s ⟨b, op2, e, ww⟩ gb k ⟨s1, s2, s3, s4⟩ (.slice o n c) ∧ b ≤ s.size + 100 - op2 ∧ AltSt w wr s grp r gb b e ww (.agg #[.int .i64 k, .int .u64 s1, .int .u64 s2, .int .u64 s3, .int .u64 s4, .slice o n c])) (fun wr => if errI wr g = 0 then s.size + 1 - cellI wr g 1 else 0)
  case atStart => exact ⟨b0, e0, ww0, k, s1, s2, s3, s4, o, n, c, unhide A3, unhide HST2⟩
  case round =>
    clear HST2 A3
    obtain ⟨b, e, ww, k, s1, s2, s3, s4, o, n, c, hA, hb100, hst⟩ := hrel
    have A := hide hA
    have HM0 : Hid (cellI wr g 1 = b ∧ errI wr g = e) := hide ⟨hA.tx.cellI, hA.tx.errI⟩
    have HBD : Hid (b ≤ s.size + 100 - op2) := hide hb100
    have HPK := hide (peek_any wr B g s _ hA.tx hs (by show b ≤ _; omega))
    clear hA hb100
    by_cases h124 : e = 0 ∧ pkB s b = 124
    · obtain ⟨rfl, h124⟩ := h124
      have hlt := pk_some h124 (by decide)
      have q124 := pk_dec (s := s) (a := b) (op := op2) (ww := ww) 124 (by decide)
      rw [decide_eq_true h124] at q124
      obtain ⟨ch, hch⟩ : ∃ c, pk s ⟨b, op2, 0, ww⟩ = c := ⟨_, rfl⟩
      rw [hch] at HPK q124
      have HX : Hid (∃ (x : Ex) (y : Rx), Sim x.rx y ∧ RexN (NB w gb) wr (.agg #[.int .i64 k, .int .u64 s1, .int .u64 s2, .int .u64 s3, .int .u64 s4, .slice o n c]) y ∧ r = altL s grp x b) := hide (by
        rcases hst with ⟨_, _, x⟩ | ⟨h, _⟩
        · exact x
        · exact absurd rfl h)
      have HK := hide h124
      have hgr := rowR_le hgood (b + 1) hlt
      have HQ : Hid (∀ y c, rowR s grp (b + 1) = .ok y c → b < c ∧ c ≤ s.size) := hide (fun y c h => by rw [h] at hgr; have := hgr.1; exact ⟨by omega, hgr.2⟩)
      clear hst hch h124 hgr
      go_wp2_with fail
      refine (unhide HPK).mono ?_; rintro e3 w3 ⟨rfl, b3⟩
      have A3 := hide ((unhide A).below b3)
      have T3 := hide (fun (v : Value) (y : Rx) (V : RexN (NB w gb) wr v y) => NBbelow V b3)
      clear b3 A HPK
      -- at++
      have f1 := World.ownsRow.frozenAt (unhide A3).tx 1
      obtain ⟨c0, c1, c2, c3, c4⟩ := (unhide A3).tx.cells
      dsimp only at c0 c1 c2 c3 c4
      obtain ⟨A4', g4⟩ := (unhide A3).at_ (b + 1)
      have A4 := hide A4'
      have HX4 : Hid (∃ (x : Ex) (y : Rx), Sim x.rx y ∧ RexN (NB w gb) (w3.setCell ⟨g, 1, none⟩ (.int .i64 ((b + 1 : Nat) : Int))) (.agg #[.int .i64 k, .int .u64 s1, .int .u64 s2, .int .u64 s3, .int .u64 s4, .slice o n c]) y ∧ r = altL s grp x b) := hide (by
        obtain ⟨x, y, h1, h2, h3⟩ := unhide HX
        exact ⟨x, y, h1, NBstep ((unhide T3) _ _ h2) g4 (unhide A3).lt, h3⟩)
      obtain ⟨W4, hW4⟩ : ∃ W, w3.setCell ⟨g, 1, none⟩ (.int .i64 ((b + 1 : Nat) : Int)) = W := ⟨_, rfl⟩
      rw [hW4] at A4 HX4
      rw [Int.natCast_add, Int.cast_ofNat_Int] at hW4
      have Ad := hide (unhide A4).drew
      have HXd : Hid (∃ (x : Ex) (y : Rx), Sim x.rx y ∧ RexN (NB w gb) W4.drew (.agg #[.int .i64 k, .int .u64 s1, .int .u64 s2, .int .u64 s3, .int .u64 s4, .slice o n c]) y ∧ r = altL s grp x b) := hide (by
        obtain ⟨x, y, h1, h2, h3⟩ := unhide HX4
        exact ⟨x, y, h1, NBbelow h2 (Below.refl _ _).drew, h3⟩)
      obtain ⟨y0, y1, y2, y3, y4, y5⟩ := (unhide A4).box.cells
      dsimp only at y1 y2 y3 y4
      clear A4' g4 HX T3 HX4
      go_wp2_with fail
      clear q124 A4
      go_region_law (first | (go_simp; go_at_call 32; refine ((unhide HRC) _ B g (b + 1) ww (unhide Ad).tx hlt).mono ?_; rintro e w6 ⟨rv, ⟨b', op3, e', ww'⟩, rfl, g6, V6, ho, hbd, t6⟩; dsimp only at ho hbd; subst ho; have A6 := hide ((unhide Ad).step g6 t6); have T6 := hide (fun (v : Value) (y : Rx) (V : RexN (NB w gb) W4.drew v y) => NBstep V g6 (unhide Ad).lt); obtain ⟨k', ⟨t1, t2, t3, t4⟩, o', n', c', rfl⟩ := V6.form; have HV6 := hide V6; have HBD6 := hide hbd; clear g6 t6 V6 hbd y0 y1 y2 y3 y4 y5; obtain ⟨y0, y1, y2, y3, y4, y5⟩ := (unhide A6).box.cells; dsimp only at y1 y2 y3 y4; have hg5 := (unhide A6).gsz) | (go_simp; go_at_call 34; refine (node_any 5 _ 2 2 _).mono ?_; rintro e w7 ⟨rfl, b7⟩; have A7 := hide (((unhide A6).alloc _).below b7); have HB7 := hide b7; clear b7 y0 y1 y2 y3 y4 y5; obtain ⟨y0, y1, y2, y3, y4, y5⟩ := (unhide A7).box.cells; obtain ⟨h0, h1, h2, h3, h4, h5⟩ := (unhide A7).box.frozen; dsimp only at y1 y2 y3 y4; have hg6 := (unhide A7).gsz))
      all_goals (
        have HS7 : Hid ((e' = 0 ∧ b < b' ∧ b' ≤ s.size ∧ ∃ (x : Ex) (y : Rx), Sim x.rx y ∧ RexN (NB w gb) w7 (.agg #[.int .i64 5, .int .u64 0, .int .u64 0, .int .u64 0, .int .u64 0, .slice (some ⟨w6.heap.size, 0, none⟩) 2 2]) y ∧ r = altL s grp x b') ∨ (e' ≠ 0 ∧ r = .err e' ww')) := hide (by
          obtain ⟨x, y, x1, x2, x3⟩ := unhide HXd
          have V := unhide HV6
          obtain ⟨q, hq⟩ : ∃ q, rowR s grp (b + 1) = q := ⟨_, rfl⟩
          rw [hq] at V
          cases q with
          | ok z cc =>
            obtain ⟨v1, v2, z', v3, v4⟩ := V
            dsimp only at v1 v2
            subst v1 v2
            have hcc := (unhide HQ) z _ hq
            refine .inl ⟨rfl, hcc.1, hcc.2, .alt x z, _, x1.two v3, ?_, by rw [x3, altL_go hgood (unhide HK) hq]⟩
            exact rexN_two (s := ⟨s1, s2, s3, s4⟩) (s' := ⟨t1, t2, t3, t4⟩) (NBbelow (NBalloc ((unhide T6) _ _ x2) _) (unhide HB7)) (NBbelow (NBalloc (v4.mono fun q hq => ⟨by have := (unhide Ad).toDt0.sz; omega, by have := (unhide Ad).gsz; omega⟩) _) (unhide HB7)) ⟨(unhide A6).toDt0.sz, (Nat.ne_of_lt (unhide A6).gsz).symm⟩ (heap_of (unhide HB7)) (k := 5) (by omega)
          | err e9 c9 =>
            obtain ⟨v1, v2, v3, _⟩ := V
            dsimp only at v1 v3
            subst v1 v3
            exact .inr ⟨v2, by rw [x3, altL_err (unhide HK) hq]⟩)
        clear HV6 T6 HB7 A6 HXd HQ
        go_wp2_with fail
        obtain ⟨A8, p8⟩ := (unhide A7).put 5 0 0 0 0 (.slice (some ⟨w6.heap.size, 0, none⟩) 2 2)
        refine ⟨⟨b', e', ww', 5, 0, 0, 0, 0, some ⟨w6.heap.size, 0, none⟩, 2, 2, A8, unhide HBD6, ?_⟩, ?_⟩
        · rcases unhide HS7 with ⟨h1, h2, h3, x, y, h4, h5, h6⟩ | h
          · exact .inl ⟨h1, h3, x, y, h4, NBput h5 p8, h6⟩
          · exact .inr h
        · rw [(unhide HM0).1, (unhide HM0).2]
          show (if errI (put6 w7 gb 5 0 0 0 0 (.slice (some ⟨w6.heap.size, 0, none⟩) 2 2)) g = 0 then s.size + 1 - cellI (put6 w7 gb 5 0 0 0 0 (.slice (some ⟨w6.heap.size, 0, none⟩) 2 2)) g 1 else 0) < _
          rw [A8.tx.cellI, A8.tx.errI, if_pos rfl]
          dsimp only
          rcases unhide HS7 with ⟨h1, h2, h3, _⟩ | ⟨h1, _⟩
          · rw [if_pos h1]; omega
          · rw [if_neg h1]; omega)
    · have hf : ((pk s ⟨b, op2, e, ww⟩).toList == [124]) = false := by
        by_cases he : e = 0
        · subst he
          rw [pk_dec 124 (by decide), decide_eq_false (fun h => h124 ⟨rfl, h⟩)]
        · rw [pk_err he, Lib.toList_data]; rfl
      obtain ⟨ch, hch⟩ : ∃ c, pk s ⟨b, op2, e, ww⟩ = c := ⟨_, rfl⟩
      rw [hch] at HPK hf
      have V5 : Hid (RsD (NB w gb) wr r (.agg #[.int .i64 k, .int .u64 s1, .int .u64 s2, .int .u64 s3, .int .u64 s4, .slice o n c]) ⟨b, op2, e, ww⟩) := hide (by
        rcases hst with ⟨rfl, hb, x, y, x1, x2, x3⟩ | ⟨hz, hrr⟩
        · rw [x3, altL_end (fun h => h124 ⟨rfl, h⟩)]; exact ⟨rfl, rfl, y, x1, x2⟩
        · rw [hrr]; exact derr_ok hz)
      clear hst hch h124
      go_wp2_with fail
      refine (unhide HPK).mono ?_; rintro e3 w3 ⟨rfl, b3⟩
      have A3 := hide ((unhide A).below b3)
      have V6 := hide ((unhide V5).move (N' := fun q => w.heap.size < q) b3.size fun j hj hl => ⟨b3.block j hl, hj.1⟩)
      clear b3 A HPK V5
      obtain ⟨u0, u1, u2, u3, u4, u5⟩ := (unhide A3).box.cells
      dsimp only at u1 u2 u3 u4
      have hg6 := (unhide A3).gsz
      have hg7 := (unhide A3).hgb
      obtain ⟨y0, y1, y2, y3, y4, y5⟩ := (unhide A3).toDt0.rb.cells
      obtain ⟨h0, h1, h2, h3, h4, h5⟩ := (unhide A3).toDt0.rb.frozen
      dsimp only at y1 y2 y3 y4
      have F := hide ((unhide A3).toDt0.fin (unhide V6))
      go_wp2_with fail
      (try simp only [Exit.inBlock, Exit.then])
      refine bodyPost_ret_by (v := .agg #[.int .i64 k, .int .u64 s1, .int .u64 s2, .int .u64 s3, .int .u64 s4, .slice o n c]) ?_ rfl ⟨_, _, rfl, (unhide F).2.1, (unhide F).2.2.2, rfl, unhide HBD, (unhide F).2.2.1⟩
      exact results_cell_d (ty := 27) rfl _ _ w.heap.size _ rfl (unhide F).1
/-- a whole expression, where d brackets may still be opened -/
theorem dalt_all (s : ByteArray) (hs : s.size ≤ 200) (d : Nat) : ∀ op, op + d = 20 → DrC 17 s op (altR s (grpR s d)) := by
  induction d with
  | zero =>
    intro op hop
    exact dalt_any s hs op (by omega) _ (grpR_good s 0) (drow_any s hs op (by omega) _ (grpR_good s 0) (dpiece_any s hs op (by omega) _ (grpR_good s 0) (datom_any s hs op 0 hop fun d' h => by omega)))
  | succ d ih =>
    intro op hop
    exact dalt_any s hs op (by omega) _ (grpR_good s (d + 1)) (drow_any s hs op (by omega) _ (grpR_good s (d + 1)) (dpiece_any s hs op (by omega) _ (grpR_good s (d + 1)) (datom_any s hs op (d + 1) hop fun d' h => by cases h; exact ih (op + 1) (by omega))))
end Go.Proofs.Ytjecopdbcaojcaa
