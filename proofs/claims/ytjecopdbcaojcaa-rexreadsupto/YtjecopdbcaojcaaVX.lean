/- The document's reading of expressions: item. -/
import Derived.Test.YtjecopdbcaojcaaHh
import Derived.Test.YtjecopdbcaojcaaHd
import Derived.Test.YtjecopdbcaojcaaKi
import Derived.Deep.RegionWith
import Derived.Test.YtjecopdbcaojcaaWa
import Derived.Test.YtjecopdbcaojcaaKk
import Derived.Deep.QuietTactic
import Derived.BigQuiet
import Derived.Deep.CutRange
namespace Go.Proofs.Ytjecopdbcaojcaa
open Go.RowKit Kb
set_option linter.unusedVariables false
set_option maxRecDepth 20000

theorem results_ttc {fn : Func} {u v p : Tmp} {ty : TypeId} (h : fn.results = #[.tmp u, .tmp v, .cell p ty]) (tmps : Array Value) (w : World) (g : Nat) (z x y : Value)
    (hx : tmps.getD u undef = x) (hy : tmps.getD v undef = y) (hp : tmps.getD p undef = .pointer (some ⟨g, 0, none⟩)) (hl : (loadVar ty ⟨g, 0, none⟩).run Try.prog w = .ok z w) :
    (results fn tmps).run Try.prog w = .ok (.tuple #[x, y, z]) w := by
  have hp' : tmps[p]?.getD undef = .pointer (some ⟨g, 0, none⟩) := by simpa using hp
  have hx' : tmps[u]?.getD undef = x := by simpa using hx
  have hy' : tmps[v]?.getD undef = y := by simpa using hy
  simp [results, h, hp', hx', hy', asAddr, hl, Result.andThen]
theorem Txt.below {w w' : World} {B g : Nat} {s : ByteArray} {t : Td} (h : Txt w B g s t) (b : Below w.heap.size w w') : Txt w' B g s t := own_below h b
/-- the world behind a store of a set -/
def putQ (w : World) (g : Nat) (s : Se) : World := (((w.setCell ⟨g, 0, none⟩ (.int .u64 s.a)).setCell ⟨g, 1, none⟩ (.int .u64 s.b)).setCell ⟨g, 2, none⟩ (.int .u64 s.c)).setCell ⟨g, 3, none⟩ (.int .u64 s.d)
/-- where a call stands that reads a text and will answer a set -/
structure IS (w : World) (B g : Nat) (s : ByteArray) (t : Td) (W : World) : Prop where
  tx : Txt W B g s t
  ba : W.ownsRow w.heap.size 24 4 (.slice (some ⟨w.heap.size, 0, none⟩) 1 1) 1 (cellsW ⟨0, 0, 0, 0⟩)
  gr : w.grownBy W (some g)
  ne : g < w.heap.size
theorem IS.start {w : World} {B g : Nat} {s : ByteArray} {t : Td} (h : Txt w B g s t) : IS w B g s t (w.alloc (.cells #[.int .u64 0, .int .u64 0, .int .u64 0, .int .u64 0] 24)) :=
  ⟨h.below ((Below.refl _ w).alloc (Nat.le_refl _) _), World.ownsRow_lit (e := 24) (size := 4) w #[.int .u64 0, .int .u64 0, .int .u64 0, .int .u64 0] 1 (Nat.le_refl w.heap.size) (by unfold maxLen; omega) rfl, World.grownBy_alloc w _ (some g), h.lt.2⟩
theorem IS.below {w W W' : World} {B g : Nat} {s : ByteArray} {t : Td} (h : IS w B g s t W) (b : Below W.heap.size W W') : IS w B g s t W' :=
  ⟨h.tx.below b, own_below h.ba b, h.gr.trans (grown_below' b (some g)), h.ne⟩
theorem IS.wrong {w W W' : World} {B g : Nat} {s : ByteArray} {t t' : Td} (h : IS w B g s t W) (k : W.grownBy W' (some g)) (hT : Txt W' B g s t') : IS w B g s t' W' :=
  ⟨hT, h.ba.kept k (.inr (by simp [Value.ownBlock]; have := h.ne; omega)), h.gr.trans k, h.ne⟩
theorem IS.at_ {w W : World} {B g : Nat} {s : ByteArray} {a op ww : Nat} {e : Int} (h : IS w B g s ⟨a, op, e, ww⟩ W) (n : Nat) : IS w B g s ⟨n, op, e, ww⟩ (W.setCell ⟨g, 1, none⟩ (.int .i64 n)) := by
  obtain ⟨s1, g1⟩ := World.ownsRow.stored h.tx 1 (.int .i64 n)
  exact h.wrong g1 s1
theorem IS.cells {w W : World} {B g : Nat} {s : ByteArray} {t : Td} (h : IS w B g s t W) : W.cell? ⟨w.heap.size, 0, none⟩ = some (.int .u64 0) ∧ W.cell? ⟨w.heap.size, 1, none⟩ = some (.int .u64 0) ∧ W.cell? ⟨w.heap.size, 2, none⟩ = some (.int .u64 0) ∧ W.cell? ⟨w.heap.size, 3, none⟩ = some (.int .u64 0)
    ∧ W.frozen? ⟨w.heap.size, 0, none⟩ = false ∧ W.frozen? ⟨w.heap.size, 1, none⟩ = false ∧ W.frozen? ⟨w.heap.size, 2, none⟩ = false ∧ W.frozen? ⟨w.heap.size, 3, none⟩ = false :=
  ⟨h.ba.cellAt 0 (by omega), h.ba.cellAt 1 (by omega), h.ba.cellAt 2 (by omega), h.ba.cellAt 3 (by omega), h.ba.frozenAt 0, h.ba.frozenAt 1, h.ba.frozenAt 2, h.ba.frozenAt 3⟩
theorem IS.fin {w W : World} {B g : Nat} {s : ByteArray} {t : Td} (h : IS w B g s t W) (q : Se) :
    Txt (putQ W w.heap.size q) B g s t ∧ w.grownBy (putQ W w.heap.size q) (some g) ∧ (loadVar 24 ⟨w.heap.size, 0, none⟩).run Try.prog (putQ W w.heap.size q) = .ok (setV q) (putQ W w.heap.size q) := by
  obtain ⟨v1, m1⟩ := h.ba.stored 0 (.int .u64 q.a)
  obtain ⟨v2, m2⟩ := v1.stored 1 (.int .u64 q.b)
  obtain ⟨v3, m3⟩ := v2.stored 2 (.int .u64 q.c)
  obtain ⟨v4, m4⟩ := v3.stored 3 (.int .u64 q.d)
  have mm := ((m1.trans m2).trans m3).trans m4
  obtain ⟨fr, hh⟩ := own_one v4
  refine ⟨World.ownsRow.kept h.tx mm (.inr (by simp [Value.ownBlock]; have := h.ne; omega)), World.grownBy.andThen h.gr mm (fun j hj => by cases hj; exact .inl (Nat.le_refl _)), ?_⟩
  exact load_set hh
/-- what an item of the document is -/
def ItD (s : ByteArray) (t t' : Td) (lo : Int) (q : Se) : Prop :=
  t'.op = t.op ∧ t'.at_ ≤ t.at_ + 4 ∧ (t.e ≠ 0 → lo = 0 ∧ t'.e = t.e ∧ t'.ww = t.ww) ∧
  (t.e = 0 → (∃ p, clsP s t.at_ = some p ∧ lo = -1 ∧ (∀ j, j < 256 → bit q j = p j) ∧ t'.e = 0 ∧ t'.at_ = t.at_ + 2)
    ∨ (clsP s t.at_ = none ∧ ∃ x b, charR s t.at_ = (some x, b) ∧ lo = (x : Int) ∧ t'.e = 0 ∧ t'.at_ = b)
    ∨ (clsP s t.at_ = none ∧ ∃ b, charR s t.at_ = (none, b) ∧ lo = 0 ∧ t'.e = 3 ∧ t'.ww = b))
theorem pk_no {s : ByteArray} {a op ww : Nat} {e : Int} (h : ¬ (e = 0 ∧ a < s.size)) : pk s ⟨a, op, e, ww⟩ = ⟨#[]⟩ := if_neg h
theorem pk_yes {s : ByteArray} {a op ww : Nat} (h : a < s.size) : pk s ⟨a, op, 0, ww⟩ = ⟨#[pkB s a]⟩ := by
  unfold pk
  rw [if_pos ⟨rfl, h⟩, Kb.one_byte s a h]
  unfold pkB
  rw [dif_pos h]
theorem pkB_end {s : ByteArray} {a : Nat} (h : ¬ a < s.size) : pkB s a = 0 := by unfold pkB; rw [dif_neg h]
theorem one_t {y k : UInt8} (h : y = k) : ((⟨#[y]⟩ : ByteArray).toList == [k]) = true := by rw [h, Lib.toList_data]; simp
theorem one_f {y k : UInt8} (h : y ≠ k) : ((⟨#[y]⟩ : ByteArray).toList == [k]) = false := by rw [Lib.toList_data]; simpa using h
set_option maxHeartbeats 1000000 in
/-- nothing is there -/
theorem ditem_none (w : World) (B g : Nat) (s : ByteArray) (a op ww : Nat) (z : Int) (h : Txt w B g s ⟨a, op, z, ww⟩) (hs : s.size ≤ 200) (ha : a ≤ 100000) (hn : ¬ (z = 0 ∧ a < s.size)) :
    Calls Try.prog 58 #[.pointer (some ⟨g, 0, none⟩)] w fun e w' => e = .returned (.tuple #[.int .i64 0, .int .i64 a, setV ⟨0, 0, 0, 0⟩]) ∧ w.grownBy w' (some g) ∧ Txt w' B g s (wrongT ⟨a + 1, op, z, ww⟩ 3 a) := by
  have S0 := hide (IS.start h)
  obtain ⟨W0, hW0⟩ : ∃ W0, w.alloc (.cells #[.int .u64 0, .int .u64 0, .int .u64 0, .int .u64 0] 24) = W0 := ⟨_, rfl⟩
  rw [hW0] at S0
  have HP := hide (peek_any W0 B g s _ (unhide S0).tx hs (by show a ≤ _; omega))
  rw [pk_no hn] at HP
  obtain ⟨c0, c1, c2, c3, c4⟩ := (unhide S0).tx.cells
  dsimp only at c0 c1 c2 c3 c4
  clear h hn
  go_enter Try.func58, Try.ntmps58
  go_wp2_with fail
  clear hW0 c0 c1 c2 c3 c4
  refine (unhide HP).mono ?_; rintro e w1 ⟨rfl, b1⟩
  have S1 := hide ((unhide S0).below b1)
  clear b1 HP S0
  obtain ⟨c0, c1, c2, c3, c4⟩ := (unhide S1).tx.cells
  dsimp only at c0 c1 c2 c3 c4
  have f1 := World.ownsRow.frozenAt (unhide S1).tx 1
  have S2 := hide ((unhide S1).at_ (a + 1))
  obtain ⟨W2, hW2⟩ : ∃ W2, w1.setCell ⟨g, 1, none⟩ (.int .i64 ((a + 1 : Nat) : Int)) = W2 := ⟨_, rfl⟩
  rw [hW2] at S2
  rw [Int.natCast_add, Int.cast_ofNat_Int] at hW2
  have HW := hide (wrong_any W2 B g s _ (unhide S2).tx 3 a)
  go_wp2_with fail
  clear hW2 c0 c1 c2 c3 c4 f1 S1
  refine (unhide HW).mono ?_; rintro e w3 ⟨rfl, g3, t3⟩
  have S3 := hide ((unhide S2).wrong g3 t3)
  clear g3 t3 HW S2
  obtain ⟨q0, q1, q2, q3, k0, k1, k2, k3⟩ := (unhide S3).cells
  obtain ⟨r1, r2, r3⟩ := (unhide S3).fin ⟨0, 0, 0, 0⟩
  have R := hide (And.intro r1 (And.intro r2 r3))
  clear r1 r2 r3
  go_wp2_with fail
  (try simp only [Exit.inBlock, Exit.then])
  refine bodyPost_ret_by (v := .tuple #[.int .i64 0, .int .i64 a, setV ⟨0, 0, 0, 0⟩]) ?_ rfl ⟨rfl, (unhide R).2.1, (unhide R).1⟩
  exact results_ttc (ty := 24) rfl _ _ w.heap.size _ _ _ rfl rfl rfl (unhide R).2.2/-- BRANCHES -/
theorem branches : True := trivial
set_option maxHeartbeats 1000000 in
theorem ditem_plain (w : World) (B g : Nat) (s : ByteArray) (a op ww : Nat) (h : Txt w B g s ⟨a, op, 0, ww⟩) (hs : s.size ≤ 200) (ha : a < s.size) (x : UInt8) (hx : pkB s a = x) (h92 : x ≠ 92) (hp : plR x = true) :
    Calls Try.prog 58 #[.pointer (some ⟨g, 0, none⟩)] w fun e w' => e = .returned (.tuple #[.int .i64 x.toNat, .int .i64 a, setV ⟨0, 0, 0, 0⟩]) ∧ w.grownBy w' (some g) ∧ Txt w' B g s ⟨a + 1, op, 0, ww⟩ := by
  have S0 := hide (IS.start h)
  obtain ⟨W0, hW0⟩ : ∃ W0, w.alloc (.cells #[.int .u64 0, .int .u64 0, .int .u64 0, .int .u64 0] 24) = W0 := ⟨_, rfl⟩
  rw [hW0] at S0
  have HP := hide (peek_any W0 B g s _ (unhide S0).tx hs (by show a ≤ _; omega))
  rw [pk_yes ha] at HP
  obtain ⟨c0, c1, c2, c3, c4⟩ := (unhide S0).tx.cells
  dsimp only at c0 c1 c2 c3 c4
  rw [hx] at HP
  have hb92 : (x == 92) = false := by simpa using h92
  have hbe : (⟨#[x]⟩ : ByteArray).toList.isEmpty = false := by rw [Lib.toList_data]; rfl
  have hix : (⟨#[x]⟩ : ByteArray)[0]'(Nat.zero_lt_one) = x := rfl
  unfold plR at hp
  simp only [Bool.and_eq_true, decide_eq_true_eq, Bool.not_eq_true'] at hp
  obtain ⟨⟨p1, p2⟩, p3⟩ := hp
  have HI := hide (fun W => in_any x ⟨#[40, 41, 91, 93, 124, 42, 43, 63, 46, 94, 36, 45, 92]⟩ W (by decide))
  rw [show has (⟨#[40, 41, 91, 93, 124, 42, 43, 63, 46, 94, 36, 45, 92]⟩ : ByteArray).data.toList x = has specs x from rfl, p3] at HI
  have i1 : ¬ ((x.toNat : Int) < 33) := by omega
  have i2 : ¬ (126 < (x.toNat : Int)) := by omega
  clear h hx h92 p3
  go_enter Try.func58, Try.ntmps58
  go_wp2_with fail
  clear hW0 c0 c1 c2 c3 c4
  refine (unhide HP).mono ?_; rintro e w1 ⟨rfl, b1⟩
  have S1 := hide ((unhide S0).below b1)
  clear b1 HP S0
  obtain ⟨c0, c1, c2, c3, c4⟩ := (unhide S1).tx.cells
  dsimp only at c0 c1 c2 c3 c4
  have f1 := World.ownsRow.frozenAt (unhide S1).tx 1
  have S2 := hide ((unhide S1).at_ (a + 1))
  obtain ⟨W2, hW2⟩ : ∃ W2, w1.setCell ⟨g, 1, none⟩ (.int .i64 ((a + 1 : Nat) : Int)) = W2 := ⟨_, rfl⟩
  rw [hW2] at S2
  rw [Int.natCast_add, Int.cast_ofNat_Int] at hW2
  go_wp2_with fail
  refine ((unhide HI) _).mono ?_; rintro e wx ⟨rfl, rfl⟩
  clear hW2 c0 c1 c2 c3 c4 f1
  obtain ⟨q0, q1, q2, q3, k0, k1, k2, k3⟩ := (unhide S2).cells
  obtain ⟨r1, r2, r3⟩ := (unhide S2).fin ⟨0, 0, 0, 0⟩
  have R := hide (And.intro r1 (And.intro r2 r3))
  clear r1 r2 r3
  go_wp2_with fail
  (try simp only [Exit.inBlock, Exit.then])
  refine bodyPost_ret_by (v := .tuple #[.int .i64 x.toNat, .int .i64 a, setV ⟨0, 0, 0, 0⟩]) ?_ rfl ⟨rfl, (unhide R).2.1, (unhide R).1⟩
  exact results_ttc (ty := 24) rfl _ _ w.heap.size _ _ _ rfl rfl rfl (unhide R).2.2
set_option maxHeartbeats 1000000 in
theorem ditem_low (w : World) (B g : Nat) (s : ByteArray) (a op ww : Nat) (h : Txt w B g s ⟨a, op, 0, ww⟩) (hs : s.size ≤ 200) (ha : a < s.size) (x : UInt8) (hx : pkB s a = x) (h92 : x ≠ 92) (hp : x.toNat < 33) :
    Calls Try.prog 58 #[.pointer (some ⟨g, 0, none⟩)] w fun e w' => e = .returned (.tuple #[.int .i64 0, .int .i64 a, setV ⟨0, 0, 0, 0⟩]) ∧ w.grownBy w' (some g) ∧ Txt w' B g s (wrongT ⟨a + 1, op, 0, ww⟩ 3 a) := by
  have S0 := hide (IS.start h)
  obtain ⟨W0, hW0⟩ : ∃ W0, w.alloc (.cells #[.int .u64 0, .int .u64 0, .int .u64 0, .int .u64 0] 24) = W0 := ⟨_, rfl⟩
  rw [hW0] at S0
  have HP := hide (peek_any W0 B g s _ (unhide S0).tx hs (by show a ≤ _; omega))
  rw [pk_yes ha] at HP
  obtain ⟨c0, c1, c2, c3, c4⟩ := (unhide S0).tx.cells
  dsimp only at c0 c1 c2 c3 c4
  rw [hx] at HP
  have hb92 : (x == 92) = false := by simpa using h92
  have hbe : (⟨#[x]⟩ : ByteArray).toList.isEmpty = false := by rw [Lib.toList_data]; rfl
  have hix : (⟨#[x]⟩ : ByteArray)[0]'(Nat.zero_lt_one) = x := rfl
  have i1 : (x.toNat : Int) < 33 := by omega
  clear h hx h92
  go_enter Try.func58, Try.ntmps58
  go_wp2_with fail
  clear hW0 c0 c1 c2 c3 c4
  refine (unhide HP).mono ?_; rintro e w1 ⟨rfl, b1⟩
  have S1 := hide ((unhide S0).below b1)
  clear b1 HP S0
  obtain ⟨c0, c1, c2, c3, c4⟩ := (unhide S1).tx.cells
  dsimp only at c0 c1 c2 c3 c4
  have f1 := World.ownsRow.frozenAt (unhide S1).tx 1
  have S2 := hide ((unhide S1).at_ (a + 1))
  obtain ⟨W2, hW2⟩ : ∃ W2, w1.setCell ⟨g, 1, none⟩ (.int .i64 ((a + 1 : Nat) : Int)) = W2 := ⟨_, rfl⟩
  rw [hW2] at S2
  rw [Int.natCast_add, Int.cast_ofNat_Int] at hW2
  have HW := hide (wrong_any W2 B g s _ (unhide S2).tx 3 a)
  go_wp2_with fail
  clear hW2 c0 c1 c2 c3 c4 f1 S1
  refine (unhide HW).mono ?_; rintro e w3 ⟨rfl, g3, t3⟩
  have S3 := hide ((unhide S2).wrong g3 t3)
  clear g3 t3 HW S2
  obtain ⟨q0, q1, q2, q3, k0, k1, k2, k3⟩ := (unhide S3).cells
  obtain ⟨r1, r2, r3⟩ := (unhide S3).fin ⟨0, 0, 0, 0⟩
  have R := hide (And.intro r1 (And.intro r2 r3))
  clear r1 r2 r3
  go_wp2_with fail
  (try simp only [Exit.inBlock, Exit.then])
  refine bodyPost_ret_by (v := .tuple #[.int .i64 0, .int .i64 a, setV ⟨0, 0, 0, 0⟩]) ?_ rfl ⟨rfl, (unhide R).2.1, (unhide R).1⟩
  exact results_ttc (ty := 24) rfl _ _ w.heap.size _ _ _ rfl rfl rfl (unhide R).2.2
set_option maxHeartbeats 1000000 in
theorem ditem_high (w : World) (B g : Nat) (s : ByteArray) (a op ww : Nat) (h : Txt w B g s ⟨a, op, 0, ww⟩) (hs : s.size ≤ 200) (ha : a < s.size) (x : UInt8) (hx : pkB s a = x) (h92 : x ≠ 92) (hp : 126 < x.toNat) :
    Calls Try.prog 58 #[.pointer (some ⟨g, 0, none⟩)] w fun e w' => e = .returned (.tuple #[.int .i64 0, .int .i64 a, setV ⟨0, 0, 0, 0⟩]) ∧ w.grownBy w' (some g) ∧ Txt w' B g s (wrongT ⟨a + 1, op, 0, ww⟩ 3 a) := by
  have S0 := hide (IS.start h)
  obtain ⟨W0, hW0⟩ : ∃ W0, w.alloc (.cells #[.int .u64 0, .int .u64 0, .int .u64 0, .int .u64 0] 24) = W0 := ⟨_, rfl⟩
  rw [hW0] at S0
  have HP := hide (peek_any W0 B g s _ (unhide S0).tx hs (by show a ≤ _; omega))
  rw [pk_yes ha] at HP
  obtain ⟨c0, c1, c2, c3, c4⟩ := (unhide S0).tx.cells
  dsimp only at c0 c1 c2 c3 c4
  rw [hx] at HP
  have hb92 : (x == 92) = false := by simpa using h92
  have hbe : (⟨#[x]⟩ : ByteArray).toList.isEmpty = false := by rw [Lib.toList_data]; rfl
  have hix : (⟨#[x]⟩ : ByteArray)[0]'(Nat.zero_lt_one) = x := rfl
  have i1 : ¬ ((x.toNat : Int) < 33) := by omega
  have i2 : 126 < (x.toNat : Int) := by omega
  clear h hx h92
  go_enter Try.func58, Try.ntmps58
  go_wp2_with fail
  clear hW0 c0 c1 c2 c3 c4
  refine (unhide HP).mono ?_; rintro e w1 ⟨rfl, b1⟩
  have S1 := hide ((unhide S0).below b1)
  clear b1 HP S0
  obtain ⟨c0, c1, c2, c3, c4⟩ := (unhide S1).tx.cells
  dsimp only at c0 c1 c2 c3 c4
  have f1 := World.ownsRow.frozenAt (unhide S1).tx 1
  have S2 := hide ((unhide S1).at_ (a + 1))
  obtain ⟨W2, hW2⟩ : ∃ W2, w1.setCell ⟨g, 1, none⟩ (.int .i64 ((a + 1 : Nat) : Int)) = W2 := ⟨_, rfl⟩
  rw [hW2] at S2
  rw [Int.natCast_add, Int.cast_ofNat_Int] at hW2
  have HW := hide (wrong_any W2 B g s _ (unhide S2).tx 3 a)
  go_wp2_with fail
  clear hW2 c0 c1 c2 c3 c4 f1 S1
  refine (unhide HW).mono ?_; rintro e w3 ⟨rfl, g3, t3⟩
  have S3 := hide ((unhide S2).wrong g3 t3)
  clear g3 t3 HW S2
  obtain ⟨q0, q1, q2, q3, k0, k1, k2, k3⟩ := (unhide S3).cells
  obtain ⟨r1, r2, r3⟩ := (unhide S3).fin ⟨0, 0, 0, 0⟩
  have R := hide (And.intro r1 (And.intro r2 r3))
  clear r1 r2 r3
  go_wp2_with fail
  (try simp only [Exit.inBlock, Exit.then])
  refine bodyPost_ret_by (v := .tuple #[.int .i64 0, .int .i64 a, setV ⟨0, 0, 0, 0⟩]) ?_ rfl ⟨rfl, (unhide R).2.1, (unhide R).1⟩
  exact results_ttc (ty := 24) rfl _ _ w.heap.size _ _ _ rfl rfl rfl (unhide R).2.2
set_option maxHeartbeats 1000000 in
theorem ditem_spec (w : World) (B g : Nat) (s : ByteArray) (a op ww : Nat) (h : Txt w B g s ⟨a, op, 0, ww⟩) (hs : s.size ≤ 200) (ha : a < s.size) (x : UInt8) (hx : pkB s a = x) (h92 : x ≠ 92) (p1 : 33 ≤ x.toNat) (p2 : x.toNat ≤ 126) (p3 : has specs x = true) :
    Calls Try.prog 58 #[.pointer (some ⟨g, 0, none⟩)] w fun e w' => e = .returned (.tuple #[.int .i64 0, .int .i64 a, setV ⟨0, 0, 0, 0⟩]) ∧ w.grownBy w' (some g) ∧ Txt w' B g s (wrongT ⟨a + 1, op, 0, ww⟩ 3 a) := by
  have S0 := hide (IS.start h)
  obtain ⟨W0, hW0⟩ : ∃ W0, w.alloc (.cells #[.int .u64 0, .int .u64 0, .int .u64 0, .int .u64 0] 24) = W0 := ⟨_, rfl⟩
  rw [hW0] at S0
  have HP := hide (peek_any W0 B g s _ (unhide S0).tx hs (by show a ≤ _; omega))
  rw [pk_yes ha] at HP
  obtain ⟨c0, c1, c2, c3, c4⟩ := (unhide S0).tx.cells
  dsimp only at c0 c1 c2 c3 c4
  rw [hx] at HP
  have hb92 : (x == 92) = false := by simpa using h92
  have hbe : (⟨#[x]⟩ : ByteArray).toList.isEmpty = false := by rw [Lib.toList_data]; rfl
  have hix : (⟨#[x]⟩ : ByteArray)[0]'(Nat.zero_lt_one) = x := rfl
  have HI := hide (fun W => in_any x ⟨#[40, 41, 91, 93, 124, 42, 43, 63, 46, 94, 36, 45, 92]⟩ W (by decide))
  rw [show has (⟨#[40, 41, 91, 93, 124, 42, 43, 63, 46, 94, 36, 45, 92]⟩ : ByteArray).data.toList x = has specs x from rfl, p3] at HI
  have i1 : ¬ ((x.toNat : Int) < 33) := by omega
  have i2 : ¬ (126 < (x.toNat : Int)) := by omega
  clear p3
  clear h hx h92
  go_enter Try.func58, Try.ntmps58
  go_wp2_with fail
  clear hW0 c0 c1 c2 c3 c4
  refine (unhide HP).mono ?_; rintro e w1 ⟨rfl, b1⟩
  have S1 := hide ((unhide S0).below b1)
  clear b1 HP S0
  obtain ⟨c0, c1, c2, c3, c4⟩ := (unhide S1).tx.cells
  dsimp only at c0 c1 c2 c3 c4
  have f1 := World.ownsRow.frozenAt (unhide S1).tx 1
  have S2 := hide ((unhide S1).at_ (a + 1))
  obtain ⟨W2, hW2⟩ : ∃ W2, w1.setCell ⟨g, 1, none⟩ (.int .i64 ((a + 1 : Nat) : Int)) = W2 := ⟨_, rfl⟩
  rw [hW2] at S2
  rw [Int.natCast_add, Int.cast_ofNat_Int] at hW2
  have HW := hide (wrong_any W2 B g s _ (unhide S2).tx 3 a)
  go_wp2_with fail
  refine ((unhide HI) _).mono ?_; rintro e wx ⟨rfl, rfl⟩
  go_wp2_with fail
  clear hW2 c0 c1 c2 c3 c4 f1 S1
  refine (unhide HW).mono ?_; rintro e w3 ⟨rfl, g3, t3⟩
  have S3 := hide ((unhide S2).wrong g3 t3)
  clear g3 t3 HW S2
  obtain ⟨q0, q1, q2, q3, k0, k1, k2, k3⟩ := (unhide S3).cells
  obtain ⟨r1, r2, r3⟩ := (unhide S3).fin ⟨0, 0, 0, 0⟩
  have R := hide (And.intro r1 (And.intro r2 r3))
  clear r1 r2 r3
  go_wp2_with fail
  (try simp only [Exit.inBlock, Exit.then])
  refine bodyPost_ret_by (v := .tuple #[.int .i64 0, .int .i64 a, setV ⟨0, 0, 0, 0⟩]) ?_ rfl ⟨rfl, (unhide R).2.1, (unhide R).1⟩
  exact results_ttc (ty := 24) rfl _ _ w.heap.size _ _ _ rfl rfl rfl (unhide R).2.2
/-- behind a sign -/
theorem branches2 : True := trivial
set_option maxHeartbeats 2000000 in
theorem ditem_n (w : World) (B g : Nat) (s : ByteArray) (a op ww : Nat) (h : Txt w B g s ⟨a, op, 0, ww⟩) (hs : s.size ≤ 200) (ha : a < s.size) (hx : pkB s a = 92) (ha2 : a + 1 < s.size) (y : UInt8) (hyb : pkB s (a + 1) = y) (hy : y = 110) :
    Calls Try.prog 58 #[.pointer (some ⟨g, 0, none⟩)] w fun e w' => e = .returned (.tuple #[.int .i64 10, .int .i64 a, setV ⟨0, 0, 0, 0⟩]) ∧ w.grownBy w' (some g) ∧ Txt w' B g s ⟨a + 2, op, 0, ww⟩ := by
  have S0 := hide (IS.start h)
  obtain ⟨W0, hW0⟩ : ∃ W0, w.alloc (.cells #[.int .u64 0, .int .u64 0, .int .u64 0, .int .u64 0] 24) = W0 := ⟨_, rfl⟩
  rw [hW0] at S0
  have HP := hide (peek_any W0 B g s _ (unhide S0).tx hs (by show a ≤ _; omega))
  rw [pk_yes ha] at HP
  obtain ⟨c0, c1, c2, c3, c4⟩ := (unhide S0).tx.cells
  dsimp only at c0 c1 c2 c3 c4
  rw [hx] at HP
  clear hx
  obtain ⟨b, hb⟩ : ∃ b, a + 1 = b := ⟨_, rfl⟩
  have HBB := hide hb
  rw [show a + 2 = b + 1 by omega]
  rw [hb] at ha2 hyb
  have y100 : (y == 100) = false := by rw [hy]; rfl
  have y119 : (y == 119) = false := by rw [hy]; rfl
  have y115 : (y == 115) = false := by rw [hy]; rfl
  have y110 : (y == 110) = true := by rw [hy]; rfl
  have hbe : (⟨#[y]⟩ : ByteArray).toList.isEmpty = false := by rw [Lib.toList_data]; rfl
  have hix : (⟨#[y]⟩ : ByteArray)[0]'(Nat.zero_lt_one) = y := rfl
  have hyl := y.toNat_lt
  clear h hb
  go_enter Try.func58, Try.ntmps58
  go_wp2_with fail
  clear hW0 c0 c1 c2 c3 c4
  refine (unhide HP).mono ?_; rintro e w1 ⟨rfl, b1⟩
  have S1 := hide ((unhide S0).below b1)
  clear b1 HP S0
  obtain ⟨c0, c1, c2, c3, c4⟩ := (unhide S1).tx.cells
  dsimp only at c0 c1 c2 c3 c4
  have f1 := World.ownsRow.frozenAt (unhide S1).tx 1
  have S2 := hide ((unhide S1).at_ b)
  obtain ⟨W2, hW2⟩ : ∃ W2, w1.setCell ⟨g, 1, none⟩ (.int .i64 (b : Int)) = W2 := ⟨_, rfl⟩
  rw [hW2] at S2
  rw [show (b : Int) = (a : Int) + 1 by have := unhide HBB; omega] at hW2
  have HP2 := hide (peek_any W2 B g s _ (unhide S2).tx hs (by show b ≤ _; have := unhide HBB; omega))
  rw [pk_yes ha2, hyb] at HP2
  have hb200 : b ≤ 1000 := by have := unhide HBB; omega
  go_wp2_with fail
  clear hW2 c0 c1 c2 c3 c4 f1 S1
  refine (unhide HP2).mono ?_; rintro e w3 ⟨rfl, b3⟩
  have S3 := hide ((unhide S2).below b3)
  clear b3 HP2 S2
  obtain ⟨c0, c1, c2, c3, c4⟩ := (unhide S3).tx.cells
  dsimp only at c0 c1 c2 c3 c4
  have f1 := World.ownsRow.frozenAt (unhide S3).tx 1
  have S4 := hide ((unhide S3).at_ (b + 1))
  obtain ⟨W4, hW4⟩ : ∃ W4, w3.setCell ⟨g, 1, none⟩ (.int .i64 ((b + 1 : Nat) : Int)) = W4 := ⟨_, rfl⟩
  rw [hW4] at S4
  rw [Int.natCast_add, Int.cast_ofNat_Int] at hW4
  clear hy
  obtain ⟨q0, q1, q2, q3, k0, k1, k2, k3⟩ := (unhide S4).cells
  obtain ⟨r1, r2, r3⟩ := (unhide S4).fin ⟨0, 0, 0, 0⟩
  have R := hide (And.intro r1 (And.intro r2 r3))
  clear r1 r2 r3
  go_wp2_with fail
  (try simp only [Exit.inBlock, Exit.then])
  refine bodyPost_ret_by (v := .tuple #[.int .i64 10, .int .i64 a, setV ⟨0, 0, 0, 0⟩]) ?_ rfl ⟨rfl, (unhide R).2.1, (unhide R).1⟩
  exact results_ttc (ty := 24) rfl _ _ w.heap.size _ _ _ rfl rfl rfl (unhide R).2.2
set_option maxHeartbeats 2000000 in
theorem ditem_t (w : World) (B g : Nat) (s : ByteArray) (a op ww : Nat) (h : Txt w B g s ⟨a, op, 0, ww⟩) (hs : s.size ≤ 200) (ha : a < s.size) (hx : pkB s a = 92) (ha2 : a + 1 < s.size) (y : UInt8) (hyb : pkB s (a + 1) = y) (hy : y = 116) :
    Calls Try.prog 58 #[.pointer (some ⟨g, 0, none⟩)] w fun e w' => e = .returned (.tuple #[.int .i64 9, .int .i64 a, setV ⟨0, 0, 0, 0⟩]) ∧ w.grownBy w' (some g) ∧ Txt w' B g s ⟨a + 2, op, 0, ww⟩ := by
  have S0 := hide (IS.start h)
  obtain ⟨W0, hW0⟩ : ∃ W0, w.alloc (.cells #[.int .u64 0, .int .u64 0, .int .u64 0, .int .u64 0] 24) = W0 := ⟨_, rfl⟩
  rw [hW0] at S0
  have HP := hide (peek_any W0 B g s _ (unhide S0).tx hs (by show a ≤ _; omega))
  rw [pk_yes ha] at HP
  obtain ⟨c0, c1, c2, c3, c4⟩ := (unhide S0).tx.cells
  dsimp only at c0 c1 c2 c3 c4
  rw [hx] at HP
  clear hx
  obtain ⟨b, hb⟩ : ∃ b, a + 1 = b := ⟨_, rfl⟩
  have HBB := hide hb
  rw [show a + 2 = b + 1 by omega]
  rw [hb] at ha2 hyb
  have y100 : (y == 100) = false := by rw [hy]; rfl
  have y119 : (y == 119) = false := by rw [hy]; rfl
  have y115 : (y == 115) = false := by rw [hy]; rfl
  have y110 : (y == 110) = false := by rw [hy]; rfl
  have y116 : (y == 116) = true := by rw [hy]; rfl
  have hbe : (⟨#[y]⟩ : ByteArray).toList.isEmpty = false := by rw [Lib.toList_data]; rfl
  have hix : (⟨#[y]⟩ : ByteArray)[0]'(Nat.zero_lt_one) = y := rfl
  have hyl := y.toNat_lt
  clear h hb
  go_enter Try.func58, Try.ntmps58
  go_wp2_with fail
  clear hW0 c0 c1 c2 c3 c4
  refine (unhide HP).mono ?_; rintro e w1 ⟨rfl, b1⟩
  have S1 := hide ((unhide S0).below b1)
  clear b1 HP S0
  obtain ⟨c0, c1, c2, c3, c4⟩ := (unhide S1).tx.cells
  dsimp only at c0 c1 c2 c3 c4
  have f1 := World.ownsRow.frozenAt (unhide S1).tx 1
  have S2 := hide ((unhide S1).at_ b)
  obtain ⟨W2, hW2⟩ : ∃ W2, w1.setCell ⟨g, 1, none⟩ (.int .i64 (b : Int)) = W2 := ⟨_, rfl⟩
  rw [hW2] at S2
  rw [show (b : Int) = (a : Int) + 1 by have := unhide HBB; omega] at hW2
  have HP2 := hide (peek_any W2 B g s _ (unhide S2).tx hs (by show b ≤ _; have := unhide HBB; omega))
  rw [pk_yes ha2, hyb] at HP2
  have hb200 : b ≤ 1000 := by have := unhide HBB; omega
  go_wp2_with fail
  clear hW2 c0 c1 c2 c3 c4 f1 S1
  refine (unhide HP2).mono ?_; rintro e w3 ⟨rfl, b3⟩
  have S3 := hide ((unhide S2).below b3)
  clear b3 HP2 S2
  obtain ⟨c0, c1, c2, c3, c4⟩ := (unhide S3).tx.cells
  dsimp only at c0 c1 c2 c3 c4
  have f1 := World.ownsRow.frozenAt (unhide S3).tx 1
  have S4 := hide ((unhide S3).at_ (b + 1))
  obtain ⟨W4, hW4⟩ : ∃ W4, w3.setCell ⟨g, 1, none⟩ (.int .i64 ((b + 1 : Nat) : Int)) = W4 := ⟨_, rfl⟩
  rw [hW4] at S4
  rw [Int.natCast_add, Int.cast_ofNat_Int] at hW4
  clear hy
  obtain ⟨q0, q1, q2, q3, k0, k1, k2, k3⟩ := (unhide S4).cells
  obtain ⟨r1, r2, r3⟩ := (unhide S4).fin ⟨0, 0, 0, 0⟩
  have R := hide (And.intro r1 (And.intro r2 r3))
  clear r1 r2 r3
  go_wp2_with fail
  (try simp only [Exit.inBlock, Exit.then])
  refine bodyPost_ret_by (v := .tuple #[.int .i64 9, .int .i64 a, setV ⟨0, 0, 0, 0⟩]) ?_ rfl ⟨rfl, (unhide R).2.1, (unhide R).1⟩
  exact results_ttc (ty := 24) rfl _ _ w.heap.size _ _ _ rfl rfl rfl (unhide R).2.2
set_option maxHeartbeats 2000000 in
theorem ditem_r (w : World) (B g : Nat) (s : ByteArray) (a op ww : Nat) (h : Txt w B g s ⟨a, op, 0, ww⟩) (hs : s.size ≤ 200) (ha : a < s.size) (hx : pkB s a = 92) (ha2 : a + 1 < s.size) (y : UInt8) (hyb : pkB s (a + 1) = y) (hy : y = 114) :
    Calls Try.prog 58 #[.pointer (some ⟨g, 0, none⟩)] w fun e w' => e = .returned (.tuple #[.int .i64 13, .int .i64 a, setV ⟨0, 0, 0, 0⟩]) ∧ w.grownBy w' (some g) ∧ Txt w' B g s ⟨a + 2, op, 0, ww⟩ := by
  have S0 := hide (IS.start h)
  obtain ⟨W0, hW0⟩ : ∃ W0, w.alloc (.cells #[.int .u64 0, .int .u64 0, .int .u64 0, .int .u64 0] 24) = W0 := ⟨_, rfl⟩
  rw [hW0] at S0
  have HP := hide (peek_any W0 B g s _ (unhide S0).tx hs (by show a ≤ _; omega))
  rw [pk_yes ha] at HP
  obtain ⟨c0, c1, c2, c3, c4⟩ := (unhide S0).tx.cells
  dsimp only at c0 c1 c2 c3 c4
  rw [hx] at HP
  clear hx
  obtain ⟨b, hb⟩ : ∃ b, a + 1 = b := ⟨_, rfl⟩
  have HBB := hide hb
  rw [show a + 2 = b + 1 by omega]
  rw [hb] at ha2 hyb
  have y100 : (y == 100) = false := by rw [hy]; rfl
  have y119 : (y == 119) = false := by rw [hy]; rfl
  have y115 : (y == 115) = false := by rw [hy]; rfl
  have y110 : (y == 110) = false := by rw [hy]; rfl
  have y116 : (y == 116) = false := by rw [hy]; rfl
  have y114 : (y == 114) = true := by rw [hy]; rfl
  have hbe : (⟨#[y]⟩ : ByteArray).toList.isEmpty = false := by rw [Lib.toList_data]; rfl
  have hix : (⟨#[y]⟩ : ByteArray)[0]'(Nat.zero_lt_one) = y := rfl
  have hyl := y.toNat_lt
  clear h hb
  go_enter Try.func58, Try.ntmps58
  go_wp2_with fail
  clear hW0 c0 c1 c2 c3 c4
  refine (unhide HP).mono ?_; rintro e w1 ⟨rfl, b1⟩
  have S1 := hide ((unhide S0).below b1)
  clear b1 HP S0
  obtain ⟨c0, c1, c2, c3, c4⟩ := (unhide S1).tx.cells
  dsimp only at c0 c1 c2 c3 c4
  have f1 := World.ownsRow.frozenAt (unhide S1).tx 1
  have S2 := hide ((unhide S1).at_ b)
  obtain ⟨W2, hW2⟩ : ∃ W2, w1.setCell ⟨g, 1, none⟩ (.int .i64 (b : Int)) = W2 := ⟨_, rfl⟩
  rw [hW2] at S2
  rw [show (b : Int) = (a : Int) + 1 by have := unhide HBB; omega] at hW2
  have HP2 := hide (peek_any W2 B g s _ (unhide S2).tx hs (by show b ≤ _; have := unhide HBB; omega))
  rw [pk_yes ha2, hyb] at HP2
  have hb200 : b ≤ 1000 := by have := unhide HBB; omega
  go_wp2_with fail
  clear hW2 c0 c1 c2 c3 c4 f1 S1
  refine (unhide HP2).mono ?_; rintro e w3 ⟨rfl, b3⟩
  have S3 := hide ((unhide S2).below b3)
  clear b3 HP2 S2
  obtain ⟨c0, c1, c2, c3, c4⟩ := (unhide S3).tx.cells
  dsimp only at c0 c1 c2 c3 c4
  have f1 := World.ownsRow.frozenAt (unhide S3).tx 1
  have S4 := hide ((unhide S3).at_ (b + 1))
  obtain ⟨W4, hW4⟩ : ∃ W4, w3.setCell ⟨g, 1, none⟩ (.int .i64 ((b + 1 : Nat) : Int)) = W4 := ⟨_, rfl⟩
  rw [hW4] at S4
  rw [Int.natCast_add, Int.cast_ofNat_Int] at hW4
  clear hy
  obtain ⟨q0, q1, q2, q3, k0, k1, k2, k3⟩ := (unhide S4).cells
  obtain ⟨r1, r2, r3⟩ := (unhide S4).fin ⟨0, 0, 0, 0⟩
  have R := hide (And.intro r1 (And.intro r2 r3))
  clear r1 r2 r3
  go_wp2_with fail
  (try simp only [Exit.inBlock, Exit.then])
  refine bodyPost_ret_by (v := .tuple #[.int .i64 13, .int .i64 a, setV ⟨0, 0, 0, 0⟩]) ?_ rfl ⟨rfl, (unhide R).2.1, (unhide R).1⟩
  exact results_ttc (ty := 24) rfl _ _ w.heap.size _ _ _ rfl rfl rfl (unhide R).2.2
set_option maxHeartbeats 2000000 in
theorem ditem_sign (w : World) (B g : Nat) (s : ByteArray) (a op ww : Nat) (h : Txt w B g s ⟨a, op, 0, ww⟩) (hs : s.size ≤ 200) (ha : a < s.size) (hx : pkB s a = 92) (ha2 : a + 1 < s.size) (y : UInt8) (hyb : pkB s (a + 1) = y) (h100 : y ≠ 100) (h119 : y ≠ 119) (h115 : y ≠ 115) (h110 : y ≠ 110) (h116 : y ≠ 116) (h114 : y ≠ 114) (h120 : y ≠ 120) (hp : has specs y = true) :
    Calls Try.prog 58 #[.pointer (some ⟨g, 0, none⟩)] w fun e w' => e = .returned (.tuple #[.int .i64 y.toNat, .int .i64 a, setV ⟨0, 0, 0, 0⟩]) ∧ w.grownBy w' (some g) ∧ Txt w' B g s ⟨a + 2, op, 0, ww⟩ := by
  have S0 := hide (IS.start h)
  obtain ⟨W0, hW0⟩ : ∃ W0, w.alloc (.cells #[.int .u64 0, .int .u64 0, .int .u64 0, .int .u64 0] 24) = W0 := ⟨_, rfl⟩
  rw [hW0] at S0
  have HP := hide (peek_any W0 B g s _ (unhide S0).tx hs (by show a ≤ _; omega))
  rw [pk_yes ha] at HP
  obtain ⟨c0, c1, c2, c3, c4⟩ := (unhide S0).tx.cells
  dsimp only at c0 c1 c2 c3 c4
  rw [hx] at HP
  clear hx
  obtain ⟨b, hb⟩ : ∃ b, a + 1 = b := ⟨_, rfl⟩
  have HBB := hide hb
  rw [show a + 2 = b + 1 by omega]
  rw [hb] at ha2 hyb
  have y100 : (y == 100) = false := by simpa using h100
  have y119 : (y == 119) = false := by simpa using h119
  have y115 : (y == 115) = false := by simpa using h115
  have y110 : (y == 110) = false := by simpa using h110
  have y116 : (y == 116) = false := by simpa using h116
  have y114 : (y == 114) = false := by simpa using h114
  have y120 : (y == 120) = false := by simpa using h120
  have hbe : (⟨#[y]⟩ : ByteArray).toList.isEmpty = false := by rw [Lib.toList_data]; rfl
  have hix : (⟨#[y]⟩ : ByteArray)[0]'(Nat.zero_lt_one) = y := rfl
  have hyl := y.toNat_lt
  have HI := hide (fun W => in_any y ⟨#[40, 41, 91, 93, 124, 42, 43, 63, 46, 94, 36, 45, 92]⟩ W (by decide))
  rw [show has (⟨#[40, 41, 91, 93, 124, 42, 43, 63, 46, 94, 36, 45, 92]⟩ : ByteArray).data.toList y = has specs y from rfl, hp] at HI
  clear hp h100 h119 h115 h110 h116 h114 h120
  clear h hb
  go_enter Try.func58, Try.ntmps58
  go_wp2_with fail
  clear hW0 c0 c1 c2 c3 c4
  refine (unhide HP).mono ?_; rintro e w1 ⟨rfl, b1⟩
  have S1 := hide ((unhide S0).below b1)
  clear b1 HP S0
  obtain ⟨c0, c1, c2, c3, c4⟩ := (unhide S1).tx.cells
  dsimp only at c0 c1 c2 c3 c4
  have f1 := World.ownsRow.frozenAt (unhide S1).tx 1
  have S2 := hide ((unhide S1).at_ b)
  obtain ⟨W2, hW2⟩ : ∃ W2, w1.setCell ⟨g, 1, none⟩ (.int .i64 (b : Int)) = W2 := ⟨_, rfl⟩
  rw [hW2] at S2
  rw [show (b : Int) = (a : Int) + 1 by have := unhide HBB; omega] at hW2
  have HP2 := hide (peek_any W2 B g s _ (unhide S2).tx hs (by show b ≤ _; have := unhide HBB; omega))
  rw [pk_yes ha2, hyb] at HP2
  have hb200 : b ≤ 1000 := by have := unhide HBB; omega
  go_wp2_with fail
  clear hW2 c0 c1 c2 c3 c4 f1 S1
  refine (unhide HP2).mono ?_; rintro e w3 ⟨rfl, b3⟩
  have S3 := hide ((unhide S2).below b3)
  clear b3 HP2 S2
  obtain ⟨c0, c1, c2, c3, c4⟩ := (unhide S3).tx.cells
  dsimp only at c0 c1 c2 c3 c4
  have f1 := World.ownsRow.frozenAt (unhide S3).tx 1
  have S4 := hide ((unhide S3).at_ (b + 1))
  obtain ⟨W4, hW4⟩ : ∃ W4, w3.setCell ⟨g, 1, none⟩ (.int .i64 ((b + 1 : Nat) : Int)) = W4 := ⟨_, rfl⟩
  rw [hW4] at S4
  rw [Int.natCast_add, Int.cast_ofNat_Int] at hW4
  go_wp2_with fail
  refine ((unhide HI) _).mono ?_; rintro e wx ⟨rfl, rfl⟩
  clear hW4 c0 c1 c2 c3 c4 f1 S3
  obtain ⟨q0, q1, q2, q3, k0, k1, k2, k3⟩ := (unhide S4).cells
  obtain ⟨r1, r2, r3⟩ := (unhide S4).fin ⟨0, 0, 0, 0⟩
  have R := hide (And.intro r1 (And.intro r2 r3))
  clear r1 r2 r3
  go_wp2_with fail
  (try simp only [Exit.inBlock, Exit.then])
  refine bodyPost_ret_by (v := .tuple #[.int .i64 y.toNat, .int .i64 a, setV ⟨0, 0, 0, 0⟩]) ?_ rfl ⟨rfl, (unhide R).2.1, (unhide R).1⟩
  exact results_ttc (ty := 24) rfl _ _ w.heap.size _ _ _ rfl rfl rfl (unhide R).2.2
set_option maxHeartbeats 2000000 in
theorem ditem_nosign (w : World) (B g : Nat) (s : ByteArray) (a op ww : Nat) (h : Txt w B g s ⟨a, op, 0, ww⟩) (hs : s.size ≤ 200) (ha : a < s.size) (hx : pkB s a = 92) (ha2 : a + 1 < s.size) (y : UInt8) (hyb : pkB s (a + 1) = y) (h100 : y ≠ 100) (h119 : y ≠ 119) (h115 : y ≠ 115) (h110 : y ≠ 110) (h116 : y ≠ 116) (h114 : y ≠ 114) (h120 : y ≠ 120) (hp : has specs y = false) :
    Calls Try.prog 58 #[.pointer (some ⟨g, 0, none⟩)] w fun e w' => e = .returned (.tuple #[.int .i64 0, .int .i64 a, setV ⟨0, 0, 0, 0⟩]) ∧ w.grownBy w' (some g) ∧ Txt w' B g s (wrongT ⟨a + 2, op, 0, ww⟩ 3 (a + 1)) := by
  have S0 := hide (IS.start h)
  obtain ⟨W0, hW0⟩ : ∃ W0, w.alloc (.cells #[.int .u64 0, .int .u64 0, .int .u64 0, .int .u64 0] 24) = W0 := ⟨_, rfl⟩
  rw [hW0] at S0
  have HP := hide (peek_any W0 B g s _ (unhide S0).tx hs (by show a ≤ _; omega))
  rw [pk_yes ha] at HP
  obtain ⟨c0, c1, c2, c3, c4⟩ := (unhide S0).tx.cells
  dsimp only at c0 c1 c2 c3 c4
  rw [hx] at HP
  clear hx
  obtain ⟨b, hb⟩ : ∃ b, a + 1 = b := ⟨_, rfl⟩
  have HBB := hide hb
  rw [show a + 2 = b + 1 by omega]
  rw [hb] at ha2 hyb
  rw [hb]
  have y100 : (y == 100) = false := by simpa using h100
  have y119 : (y == 119) = false := by simpa using h119
  have y115 : (y == 115) = false := by simpa using h115
  have y110 : (y == 110) = false := by simpa using h110
  have y116 : (y == 116) = false := by simpa using h116
  have y114 : (y == 114) = false := by simpa using h114
  have y120 : (y == 120) = false := by simpa using h120
  have hbe : (⟨#[y]⟩ : ByteArray).toList.isEmpty = false := by rw [Lib.toList_data]; rfl
  have hix : (⟨#[y]⟩ : ByteArray)[0]'(Nat.zero_lt_one) = y := rfl
  have hyl := y.toNat_lt
  have HI := hide (fun W => in_any y ⟨#[40, 41, 91, 93, 124, 42, 43, 63, 46, 94, 36, 45, 92]⟩ W (by decide))
  rw [show has (⟨#[40, 41, 91, 93, 124, 42, 43, 63, 46, 94, 36, 45, 92]⟩ : ByteArray).data.toList y = has specs y from rfl, hp] at HI
  clear hp h100 h119 h115 h110 h116 h114 h120
  clear h hb
  go_enter Try.func58, Try.ntmps58
  go_wp2_with fail
  clear hW0 c0 c1 c2 c3 c4
  refine (unhide HP).mono ?_; rintro e w1 ⟨rfl, b1⟩
  have S1 := hide ((unhide S0).below b1)
  clear b1 HP S0
  obtain ⟨c0, c1, c2, c3, c4⟩ := (unhide S1).tx.cells
  dsimp only at c0 c1 c2 c3 c4
  have f1 := World.ownsRow.frozenAt (unhide S1).tx 1
  have S2 := hide ((unhide S1).at_ b)
  obtain ⟨W2, hW2⟩ : ∃ W2, w1.setCell ⟨g, 1, none⟩ (.int .i64 (b : Int)) = W2 := ⟨_, rfl⟩
  rw [hW2] at S2
  rw [show (b : Int) = (a : Int) + 1 by have := unhide HBB; omega] at hW2
  have HP2 := hide (peek_any W2 B g s _ (unhide S2).tx hs (by show b ≤ _; have := unhide HBB; omega))
  rw [pk_yes ha2, hyb] at HP2
  have hb200 : b ≤ 1000 := by have := unhide HBB; omega
  go_wp2_with fail
  clear hW2 c0 c1 c2 c3 c4 f1 S1
  refine (unhide HP2).mono ?_; rintro e w3 ⟨rfl, b3⟩
  have S3 := hide ((unhide S2).below b3)
  clear b3 HP2 S2
  obtain ⟨c0, c1, c2, c3, c4⟩ := (unhide S3).tx.cells
  dsimp only at c0 c1 c2 c3 c4
  have f1 := World.ownsRow.frozenAt (unhide S3).tx 1
  have S4 := hide ((unhide S3).at_ (b + 1))
  obtain ⟨W4, hW4⟩ : ∃ W4, w3.setCell ⟨g, 1, none⟩ (.int .i64 ((b + 1 : Nat) : Int)) = W4 := ⟨_, rfl⟩
  rw [hW4] at S4
  rw [Int.natCast_add, Int.cast_ofNat_Int] at hW4
  have HW := hide (wrong_any W4 B g s _ (unhide S4).tx 3 b)
  obtain ⟨d0, d1, d2, d3, d4⟩ := (unhide S4).tx.cells
  dsimp only at d0 d1 d2 d3 d4
  go_wp2_with fail
  refine ((unhide HI) _).mono ?_; rintro e wx ⟨rfl, rfl⟩
  go_wp2_with fail
  refine (unhide HW).mono ?_; rintro e w5 ⟨rfl, g5, t5⟩
  have S5 := hide ((unhide S4).wrong g5 t5)
  clear g5 t5 HW S4 hW4 c0 c1 c2 c3 c4 f1 S3 d0 d1 d2 d3 d4
  obtain ⟨q0, q1, q2, q3, k0, k1, k2, k3⟩ := (unhide S5).cells
  obtain ⟨r1, r2, r3⟩ := (unhide S5).fin ⟨0, 0, 0, 0⟩
  have R := hide (And.intro r1 (And.intro r2 r3))
  clear r1 r2 r3
  go_wp2_with fail
  (try simp only [Exit.inBlock, Exit.then])
  refine bodyPost_ret_by (v := .tuple #[.int .i64 0, .int .i64 a, setV ⟨0, 0, 0, 0⟩]) ?_ rfl ⟨rfl, (unhide R).2.1, (unhide R).1⟩
  exact results_ttc (ty := 24) rfl _ _ w.heap.size _ _ _ rfl rfl rfl (unhide R).2.2
set_option maxHeartbeats 2000000 in
theorem ditem_end (w : World) (B g : Nat) (s : ByteArray) (a op ww : Nat) (h : Txt w B g s ⟨a, op, 0, ww⟩) (hs : s.size ≤ 200) (ha : a < s.size) (hx : pkB s a = 92) (ha2 : ¬ a + 1 < s.size) :
    Calls Try.prog 58 #[.pointer (some ⟨g, 0, none⟩)] w fun e w' => e = .returned (.tuple #[.int .i64 0, .int .i64 a, setV ⟨0, 0, 0, 0⟩]) ∧ w.grownBy w' (some g) ∧ Txt w' B g s (wrongT ⟨a + 2, op, 0, ww⟩ 3 (a + 1)) := by
  have S0 := hide (IS.start h)
  obtain ⟨W0, hW0⟩ : ∃ W0, w.alloc (.cells #[.int .u64 0, .int .u64 0, .int .u64 0, .int .u64 0] 24) = W0 := ⟨_, rfl⟩
  rw [hW0] at S0
  have HP := hide (peek_any W0 B g s _ (unhide S0).tx hs (by show a ≤ _; omega))
  rw [pk_yes ha] at HP
  obtain ⟨c0, c1, c2, c3, c4⟩ := (unhide S0).tx.cells
  dsimp only at c0 c1 c2 c3 c4
  rw [hx] at HP
  clear hx
  obtain ⟨b, hb⟩ : ∃ b, a + 1 = b := ⟨_, rfl⟩
  have HBB := hide hb
  rw [show a + 2 = b + 1 by omega]
  rw [hb] at ha2
  rw [hb]
  clear h hb
  go_enter Try.func58, Try.ntmps58
  go_wp2_with fail
  clear hW0 c0 c1 c2 c3 c4
  refine (unhide HP).mono ?_; rintro e w1 ⟨rfl, b1⟩
  have S1 := hide ((unhide S0).below b1)
  clear b1 HP S0
  obtain ⟨c0, c1, c2, c3, c4⟩ := (unhide S1).tx.cells
  dsimp only at c0 c1 c2 c3 c4
  have f1 := World.ownsRow.frozenAt (unhide S1).tx 1
  have S2 := hide ((unhide S1).at_ b)
  obtain ⟨W2, hW2⟩ : ∃ W2, w1.setCell ⟨g, 1, none⟩ (.int .i64 (b : Int)) = W2 := ⟨_, rfl⟩
  rw [hW2] at S2
  rw [show (b : Int) = (a : Int) + 1 by have := unhide HBB; omega] at hW2
  have HP2 := hide (peek_any W2 B g s _ (unhide S2).tx hs (by show b ≤ _; have := unhide HBB; omega))
  rw [pk_no (fun h => ha2 h.2)] at HP2
  have hb200 : b ≤ 1000 := by have := unhide HBB; omega
  go_wp2_with fail
  clear hW2 c0 c1 c2 c3 c4 f1 S1
  refine (unhide HP2).mono ?_; rintro e w3 ⟨rfl, b3⟩
  have S3 := hide ((unhide S2).below b3)
  clear b3 HP2 S2
  obtain ⟨c0, c1, c2, c3, c4⟩ := (unhide S3).tx.cells
  dsimp only at c0 c1 c2 c3 c4
  have f1 := World.ownsRow.frozenAt (unhide S3).tx 1
  have S4 := hide ((unhide S3).at_ (b + 1))
  obtain ⟨W4, hW4⟩ : ∃ W4, w3.setCell ⟨g, 1, none⟩ (.int .i64 ((b + 1 : Nat) : Int)) = W4 := ⟨_, rfl⟩
  rw [hW4] at S4
  rw [Int.natCast_add, Int.cast_ofNat_Int] at hW4
  have HW := hide (wrong_any W4 B g s _ (unhide S4).tx 3 b)
  obtain ⟨d0, d1, d2, d3, d4⟩ := (unhide S4).tx.cells
  dsimp only at d0 d1 d2 d3 d4
  go_wp2_with fail
  refine (unhide HW).mono ?_; rintro e w5 ⟨rfl, g5, t5⟩
  have S5 := hide ((unhide S4).wrong g5 t5)
  clear g5 t5 HW S4 hW4 c0 c1 c2 c3 c4 f1 S3 d0 d1 d2 d3 d4
  obtain ⟨q0, q1, q2, q3, k0, k1, k2, k3⟩ := (unhide S5).cells
  obtain ⟨r1, r2, r3⟩ := (unhide S5).fin ⟨0, 0, 0, 0⟩
  have R := hide (And.intro r1 (And.intro r2 r3))
  clear r1 r2 r3
  go_wp2_with fail
  (try simp only [Exit.inBlock, Exit.then])
  refine bodyPost_ret_by (v := .tuple #[.int .i64 0, .int .i64 a, setV ⟨0, 0, 0, 0⟩]) ?_ rfl ⟨rfl, (unhide R).2.1, (unhide R).1⟩
  exact results_ttc (ty := 24) rfl _ _ w.heap.size _ _ _ rfl rfl rfl (unhide R).2.2
end Go.Proofs.Ytjecopdbcaojcaa

/- The document's reading of expressions: item at sets of many bytes, and at two digits. -/
namespace Go.Proofs.Ytjecopdbcaojcaa
open Go.RowKit Kb
set_option linter.unusedVariables false
set_option maxRecDepth 20000

theorem i1_any (b : Nat) (W : World) (hb : b < 256) :
    Calls Try.prog 73 (#[.int .i64 b] ++ #[]) W fun e W' => e = .returned (.bool (betw 48 57 b)) ∧ Below W.heap.size W W' := by
  obtain ⟨r, hr⟩ : ∃ r, betw 48 57 b = r := ⟨_, rfl⟩
  rw [hr]
  unfold betw at hr
  by_cases h1 : 48 ≤ b
  · by_cases h2 : b ≤ 57
    · rw [decide_eq_true ⟨h1, h2⟩] at hr
      subst hr
      have i1 : (48 : Int) ≤ b := by omega
      have i2 : (b : Int) ≤ 57 := by omega
      go_enter Try.func73, Try.ntmps73
      go_wp2_with fail
      go_ret
      exact ⟨by first | rfl | (simp; done) | (simp; omega), Below.refl _ _⟩
    · rw [decide_eq_false (fun h => h2 h.2)] at hr
      subst hr
      have i1 : (48 : Int) ≤ b := by omega
      have i2 : ¬ (b : Int) ≤ 57 := by omega
      go_enter Try.func73, Try.ntmps73
      go_wp2_with fail
      go_ret
      exact ⟨by first | rfl | (simp; done) | (simp; omega), Below.refl _ _⟩
  · rw [decide_eq_false (fun h => h1 h.1)] at hr
    subst hr
    have i1 : ¬ (48 : Int) ≤ b := by omega
    go_enter Try.func73, Try.ntmps73
    go_wp2_with fail
    go_ret
    exact ⟨rfl, Below.refl _ _⟩
theorem word_has (b : Nat) (hb : b < 256) : has [97, 98, 99, 100, 101, 102, 103, 104, 105, 106, 107, 108, 109, 110, 111, 112, 113, 114, 115, 116, 117, 118, 119, 120, 121, 122, 65, 66, 67, 68, 69, 70, 71, 72, 73, 74, 75, 76, 77, 78, 79, 80, 81, 82, 83, 84, 85, 86, 87, 88, 89, 90, 48, 49, 50, 51, 52, 53, 54, 55, 56, 57, 95] (UInt8.ofNat b) = wordP b := by
  have h : (List.range 256).all (fun b => has [97, 98, 99, 100, 101, 102, 103, 104, 105, 106, 107, 108, 109, 110, 111, 112, 113, 114, 115, 116, 117, 118, 119, 120, 121, 122, 65, 66, 67, 68, 69, 70, 71, 72, 73, 74, 75, 76, 77, 78, 79, 80, 81, 82, 83, 84, 85, 86, 87, 88, 89, 90, 48, 49, 50, 51, 52, 53, 54, 55, 56, 57, 95] (UInt8.ofNat b) == wordP b) = true := by decide +kernel
  have := List.all_eq_true.1 h b (List.mem_range.2 hb)
  simpa using this
theorem i2_any (b : Nat) (W : World) (hb : b < 256) :
    Calls Try.prog 74 (#[.int .i64 b] ++ #[]) W fun e W' => e = .returned (.bool (wordP b)) ∧ Below W.heap.size W W' := by
  have HI := hide (fun W => in_any (UInt8.ofNat b) ⟨#[97, 98, 99, 100, 101, 102, 103, 104, 105, 106, 107, 108, 109, 110, 111, 112, 113, 114, 115, 116, 117, 118, 119, 120, 121, 122, 65, 66, 67, 68, 69, 70, 71, 72, 73, 74, 75, 76, 77, 78, 79, 80, 81, 82, 83, 84, 85, 86, 87, 88, 89, 90, 48, 49, 50, 51, 52, 53, 54, 55, 56, 57, 95]⟩ W (by decide))
  rw [show (UInt8.ofNat b).toNat = b by simp [UInt8.toNat_ofNat', Nat.mod_eq_of_lt hb]] at HI
  have e := word_has b hb
  replace HI : Hid (∀ W, Calls Try.prog 71 #[.int .u8 b, .string ⟨#[97, 98, 99, 100, 101, 102, 103, 104, 105, 106, 107, 108, 109, 110, 111, 112, 113, 114, 115, 116, 117, 118, 119, 120, 121, 122, 65, 66, 67, 68, 69, 70, 71, 72, 73, 74, 75, 76, 77, 78, 79, 80, 81, 82, 83, 84, 85, 86, 87, 88, 89, 90, 48, 49, 50, 51, 52, 53, 54, 55, 56, 57, 95]⟩] W fun e w' => e = .returned (.bool (has [97, 98, 99, 100, 101, 102, 103, 104, 105, 106, 107, 108, 109, 110, 111, 112, 113, 114, 115, 116, 117, 118, 119, 120, 121, 122, 65, 66, 67, 68, 69, 70, 71, 72, 73, 74, 75, 76, 77, 78, 79, 80, 81, 82, 83, 84, 85, 86, 87, 88, 89, 90, 48, 49, 50, 51, 52, 53, 54, 55, 56, 57, 95] (UInt8.ofNat b))) ∧ w' = W) := HI
  rw [e] at HI
  clear e
  obtain ⟨r, hr⟩ : ∃ r, wordP b = r := ⟨_, rfl⟩
  rw [hr] at HI ⊢
  clear hr
  have hw8 : IntKind.u8.wrap (b : Int) = b := by simp [IntKind.wrap, IntKind.signed, IntKind.bits]; omega
  have hb8 : (b : Int) < 256 := by omega
  go_enter Try.func74, Try.ntmps74
  go_wp2_with fail
  refine ((unhide HI) _).mono ?_; rintro e wx ⟨rfl, rfl⟩
  go_wp2_with fail
  go_ret
  exact ⟨rfl, Below.refl _ _⟩
theorem i3_any (b : Nat) (W : World) (hb : b < 256) :
    Calls Try.prog 75 (#[.int .i64 b] ++ #[]) W fun e W' => e = .returned (.bool (blkP b)) ∧ Below W.heap.size W W' := by
  obtain ⟨r, hr⟩ : ∃ r, blkP b = r := ⟨_, rfl⟩
  rw [hr]
  unfold blkP betw at hr
  by_cases h1 : 9 ≤ b ∧ b ≤ 13
  · rw [decide_eq_true h1, Bool.or_true] at hr
    subst hr
    have i1 : (9 : Int) ≤ b := by omega
    have i2 : (b : Int) ≤ 13 := by omega
    obtain ⟨n1, n2⟩ := h1
    go_enter Try.func75, Try.ntmps75
    go_wp2_with fail
    go_ret
    exact ⟨by first | rfl | (simp; done) | (simp; omega), Below.refl _ _⟩
  · rw [decide_eq_false h1, Bool.or_false] at hr
    by_cases h3 : b = 32
    · subst h3
      subst hr
      go_enter Try.func75, Try.ntmps75
      go_wp2_with fail
      go_ret
      exact ⟨by first | rfl | simp, Below.refl _ _⟩
    · rw [decide_eq_false h3] at hr
      subst hr
      have i3 : ¬ (b : Int) = 32 := by omega
      by_cases h4 : 9 ≤ b
      · have i1 : (9 : Int) ≤ b := by omega
        have i2 : ¬ (b : Int) ≤ 13 := by omega
        have n2 : ¬ b ≤ 13 := by omega
        go_enter Try.func75, Try.ntmps75
        go_wp2_with fail
        go_ret
        exact ⟨by first | rfl | (simp; done) | (simp; omega), Below.refl _ _⟩
      · have i1 : ¬ (9 : Int) ≤ b := by omega
        go_enter Try.func75, Try.ntmps75
        go_wp2_with fail
        go_ret
        exact ⟨by first | rfl | (simp; done) | (simp; omega), Below.refl _ _⟩
set_option maxHeartbeats 2000000 in
theorem ditem_d (w : World) (B g : Nat) (s : ByteArray) (a op ww : Nat) (h : Txt w B g s ⟨a, op, 0, ww⟩) (hs : s.size ≤ 200) (ha : a < s.size) (hx : pkB s a = 92) (ha2 : a + 1 < s.size) (y : UInt8) (hyb : pkB s (a + 1) = y) (hy : y = 100) :
    Calls Try.prog 58 #[.pointer (some ⟨g, 0, none⟩)] w fun e w' => ∃ q : Se, e = .returned (.tuple #[.int .i64 (-1), .int .i64 a, setV q]) ∧ FitS q ∧ (∀ j, j < 256 → bit q j = betw 48 57 j) ∧ w.grownBy w' (some g) ∧ Txt w' B g s ⟨a + 2, op, 0, ww⟩ := by
  have HWH := hide (fun W => where_i1 #[] (betw 48 57) W (fun b W' hb _ => i1_any b W' hb))
  have S0 := hide (IS.start h)
  obtain ⟨W0, hW0⟩ : ∃ W0, w.alloc (.cells #[.int .u64 0, .int .u64 0, .int .u64 0, .int .u64 0] 24) = W0 := ⟨_, rfl⟩
  rw [hW0] at S0
  have HP := hide (peek_any W0 B g s _ (unhide S0).tx hs (by show a ≤ _; omega))
  rw [pk_yes ha] at HP
  obtain ⟨c0, c1, c2, c3, c4⟩ := (unhide S0).tx.cells
  dsimp only at c0 c1 c2 c3 c4
  rw [hx] at HP
  clear hx
  obtain ⟨b, hb⟩ : ∃ b, a + 1 = b := ⟨_, rfl⟩
  have HBB := hide hb
  rw [show a + 2 = b + 1 by omega]
  rw [hb] at ha2 hyb
  have y100 : (y == 100) = true := by rw [hy]; rfl
  have hbe : (⟨#[y]⟩ : ByteArray).toList.isEmpty = false := by rw [Lib.toList_data]; rfl
  have hix : (⟨#[y]⟩ : ByteArray)[0]'(Nat.zero_lt_one) = y := rfl
  have hyl := y.toNat_lt
  clear h hb
  go_enter Try.func58, Try.ntmps58
  go_wp2_with fail
  clear hW0 c0 c1 c2 c3 c4
  refine (unhide HP).mono ?_; rintro e w1 ⟨rfl, b1⟩
  have S1 := hide ((unhide S0).below b1)
  clear b1 HP S0
  obtain ⟨c0, c1, c2, c3, c4⟩ := (unhide S1).tx.cells
  dsimp only at c0 c1 c2 c3 c4
  have f1 := World.ownsRow.frozenAt (unhide S1).tx 1
  have S2 := hide ((unhide S1).at_ b)
  obtain ⟨W2, hW2⟩ : ∃ W2, w1.setCell ⟨g, 1, none⟩ (.int .i64 (b : Int)) = W2 := ⟨_, rfl⟩
  rw [hW2] at S2
  rw [show (b : Int) = (a : Int) + 1 by have := unhide HBB; omega] at hW2
  have HP2 := hide (peek_any W2 B g s _ (unhide S2).tx hs (by show b ≤ _; have := unhide HBB; omega))
  rw [pk_yes ha2, hyb] at HP2
  have hb200 : b ≤ 1000 := by have := unhide HBB; omega
  go_wp2_with fail
  clear hW2 c0 c1 c2 c3 c4 f1 S1
  refine (unhide HP2).mono ?_; rintro e w3 ⟨rfl, b3⟩
  have S3 := hide ((unhide S2).below b3)
  clear b3 HP2 S2
  obtain ⟨c0, c1, c2, c3, c4⟩ := (unhide S3).tx.cells
  dsimp only at c0 c1 c2 c3 c4
  have f1 := World.ownsRow.frozenAt (unhide S3).tx 1
  have S4 := hide ((unhide S3).at_ (b + 1))
  obtain ⟨W4, hW4⟩ : ∃ W4, w3.setCell ⟨g, 1, none⟩ (.int .i64 ((b + 1 : Nat) : Int)) = W4 := ⟨_, rfl⟩
  rw [hW4] at S4
  rw [Int.natCast_add, Int.cast_ofNat_Int] at hW4
  clear hy
  go_wp2_with fail
  refine ((unhide HWH) W4).mono ?_; rintro e w5 ⟨⟨qa, qb, qc, qd⟩, rfl, fit, bits, b5⟩
  have S5 := hide ((unhide S4).below b5)
  have FT := hide (And.intro fit bits)
  clear fit bits b5 S4 hW4 c0 c1 c2 c3 c4 f1 S3
  unfold setV
  obtain ⟨q0, q1, q2, q3, k0, k1, k2, k3⟩ := (unhide S5).cells
  obtain ⟨r1, r2, r3⟩ := (unhide S5).fin ⟨qa, qb, qc, qd⟩
  have R := hide (And.intro r1 (And.intro r2 r3))
  clear r1 r2 r3
  go_wp2_with fail
  (try simp only [Exit.inBlock, Exit.then])
  refine bodyPost_ret_by (v := .tuple #[.int .i64 (-1), .int .i64 a, setV ⟨qa, qb, qc, qd⟩]) ?_ rfl ⟨⟨qa, qb, qc, qd⟩, rfl, (unhide FT).1, (unhide FT).2, (unhide R).2.1, (unhide R).1⟩
  exact results_ttc (ty := 24) rfl _ _ w.heap.size _ _ _ rfl rfl rfl (unhide R).2.2
set_option maxHeartbeats 2000000 in
theorem ditem_w (w : World) (B g : Nat) (s : ByteArray) (a op ww : Nat) (h : Txt w B g s ⟨a, op, 0, ww⟩) (hs : s.size ≤ 200) (ha : a < s.size) (hx : pkB s a = 92) (ha2 : a + 1 < s.size) (y : UInt8) (hyb : pkB s (a + 1) = y) (hy : y = 119) :
    Calls Try.prog 58 #[.pointer (some ⟨g, 0, none⟩)] w fun e w' => ∃ q : Se, e = .returned (.tuple #[.int .i64 (-1), .int .i64 a, setV q]) ∧ FitS q ∧ (∀ j, j < 256 → bit q j = wordP j) ∧ w.grownBy w' (some g) ∧ Txt w' B g s ⟨a + 2, op, 0, ww⟩ := by
  have HWH := hide (fun W => where_i2 #[] (wordP) W (fun b W' hb _ => i2_any b W' hb))
  have S0 := hide (IS.start h)
  obtain ⟨W0, hW0⟩ : ∃ W0, w.alloc (.cells #[.int .u64 0, .int .u64 0, .int .u64 0, .int .u64 0] 24) = W0 := ⟨_, rfl⟩
  rw [hW0] at S0
  have HP := hide (peek_any W0 B g s _ (unhide S0).tx hs (by show a ≤ _; omega))
  rw [pk_yes ha] at HP
  obtain ⟨c0, c1, c2, c3, c4⟩ := (unhide S0).tx.cells
  dsimp only at c0 c1 c2 c3 c4
  rw [hx] at HP
  clear hx
  obtain ⟨b, hb⟩ : ∃ b, a + 1 = b := ⟨_, rfl⟩
  have HBB := hide hb
  rw [show a + 2 = b + 1 by omega]
  rw [hb] at ha2 hyb
  have y100 : (y == 100) = false := by rw [hy]; rfl
  have y119 : (y == 119) = true := by rw [hy]; rfl
  have hbe : (⟨#[y]⟩ : ByteArray).toList.isEmpty = false := by rw [Lib.toList_data]; rfl
  have hix : (⟨#[y]⟩ : ByteArray)[0]'(Nat.zero_lt_one) = y := rfl
  have hyl := y.toNat_lt
  clear h hb
  go_enter Try.func58, Try.ntmps58
  go_wp2_with fail
  clear hW0 c0 c1 c2 c3 c4
  refine (unhide HP).mono ?_; rintro e w1 ⟨rfl, b1⟩
  have S1 := hide ((unhide S0).below b1)
  clear b1 HP S0
  obtain ⟨c0, c1, c2, c3, c4⟩ := (unhide S1).tx.cells
  dsimp only at c0 c1 c2 c3 c4
  have f1 := World.ownsRow.frozenAt (unhide S1).tx 1
  have S2 := hide ((unhide S1).at_ b)
  obtain ⟨W2, hW2⟩ : ∃ W2, w1.setCell ⟨g, 1, none⟩ (.int .i64 (b : Int)) = W2 := ⟨_, rfl⟩
  rw [hW2] at S2
  rw [show (b : Int) = (a : Int) + 1 by have := unhide HBB; omega] at hW2
  have HP2 := hide (peek_any W2 B g s _ (unhide S2).tx hs (by show b ≤ _; have := unhide HBB; omega))
  rw [pk_yes ha2, hyb] at HP2
  have hb200 : b ≤ 1000 := by have := unhide HBB; omega
  go_wp2_with fail
  clear hW2 c0 c1 c2 c3 c4 f1 S1
  refine (unhide HP2).mono ?_; rintro e w3 ⟨rfl, b3⟩
  have S3 := hide ((unhide S2).below b3)
  clear b3 HP2 S2
  obtain ⟨c0, c1, c2, c3, c4⟩ := (unhide S3).tx.cells
  dsimp only at c0 c1 c2 c3 c4
  have f1 := World.ownsRow.frozenAt (unhide S3).tx 1
  have S4 := hide ((unhide S3).at_ (b + 1))
  obtain ⟨W4, hW4⟩ : ∃ W4, w3.setCell ⟨g, 1, none⟩ (.int .i64 ((b + 1 : Nat) : Int)) = W4 := ⟨_, rfl⟩
  rw [hW4] at S4
  rw [Int.natCast_add, Int.cast_ofNat_Int] at hW4
  clear hy
  go_wp2_with fail
  refine ((unhide HWH) W4).mono ?_; rintro e w5 ⟨⟨qa, qb, qc, qd⟩, rfl, fit, bits, b5⟩
  have S5 := hide ((unhide S4).below b5)
  have FT := hide (And.intro fit bits)
  clear fit bits b5 S4 hW4 c0 c1 c2 c3 c4 f1 S3
  unfold setV
  obtain ⟨q0, q1, q2, q3, k0, k1, k2, k3⟩ := (unhide S5).cells
  obtain ⟨r1, r2, r3⟩ := (unhide S5).fin ⟨qa, qb, qc, qd⟩
  have R := hide (And.intro r1 (And.intro r2 r3))
  clear r1 r2 r3
  go_wp2_with fail
  (try simp only [Exit.inBlock, Exit.then])
  refine bodyPost_ret_by (v := .tuple #[.int .i64 (-1), .int .i64 a, setV ⟨qa, qb, qc, qd⟩]) ?_ rfl ⟨⟨qa, qb, qc, qd⟩, rfl, (unhide FT).1, (unhide FT).2, (unhide R).2.1, (unhide R).1⟩
  exact results_ttc (ty := 24) rfl _ _ w.heap.size _ _ _ rfl rfl rfl (unhide R).2.2
set_option maxHeartbeats 2000000 in
theorem ditem_s (w : World) (B g : Nat) (s : ByteArray) (a op ww : Nat) (h : Txt w B g s ⟨a, op, 0, ww⟩) (hs : s.size ≤ 200) (ha : a < s.size) (hx : pkB s a = 92) (ha2 : a + 1 < s.size) (y : UInt8) (hyb : pkB s (a + 1) = y) (hy : y = 115) :
    Calls Try.prog 58 #[.pointer (some ⟨g, 0, none⟩)] w fun e w' => ∃ q : Se, e = .returned (.tuple #[.int .i64 (-1), .int .i64 a, setV q]) ∧ FitS q ∧ (∀ j, j < 256 → bit q j = blkP j) ∧ w.grownBy w' (some g) ∧ Txt w' B g s ⟨a + 2, op, 0, ww⟩ := by
  have HWH := hide (fun W => where_i3 #[] (blkP) W (fun b W' hb _ => i3_any b W' hb))
  have S0 := hide (IS.start h)
  obtain ⟨W0, hW0⟩ : ∃ W0, w.alloc (.cells #[.int .u64 0, .int .u64 0, .int .u64 0, .int .u64 0] 24) = W0 := ⟨_, rfl⟩
  rw [hW0] at S0
  have HP := hide (peek_any W0 B g s _ (unhide S0).tx hs (by show a ≤ _; omega))
  rw [pk_yes ha] at HP
  obtain ⟨c0, c1, c2, c3, c4⟩ := (unhide S0).tx.cells
  dsimp only at c0 c1 c2 c3 c4
  rw [hx] at HP
  clear hx
  obtain ⟨b, hb⟩ : ∃ b, a + 1 = b := ⟨_, rfl⟩
  have HBB := hide hb
  rw [show a + 2 = b + 1 by omega]
  rw [hb] at ha2 hyb
  have y100 : (y == 100) = false := by rw [hy]; rfl
  have y119 : (y == 119) = false := by rw [hy]; rfl
  have y115 : (y == 115) = true := by rw [hy]; rfl
  have hbe : (⟨#[y]⟩ : ByteArray).toList.isEmpty = false := by rw [Lib.toList_data]; rfl
  have hix : (⟨#[y]⟩ : ByteArray)[0]'(Nat.zero_lt_one) = y := rfl
  have hyl := y.toNat_lt
  clear h hb
  go_enter Try.func58, Try.ntmps58
  go_wp2_with fail
  clear hW0 c0 c1 c2 c3 c4
  refine (unhide HP).mono ?_; rintro e w1 ⟨rfl, b1⟩
  have S1 := hide ((unhide S0).below b1)
  clear b1 HP S0
  obtain ⟨c0, c1, c2, c3, c4⟩ := (unhide S1).tx.cells
  dsimp only at c0 c1 c2 c3 c4
  have f1 := World.ownsRow.frozenAt (unhide S1).tx 1
  have S2 := hide ((unhide S1).at_ b)
  obtain ⟨W2, hW2⟩ : ∃ W2, w1.setCell ⟨g, 1, none⟩ (.int .i64 (b : Int)) = W2 := ⟨_, rfl⟩
  rw [hW2] at S2
  rw [show (b : Int) = (a : Int) + 1 by have := unhide HBB; omega] at hW2
  have HP2 := hide (peek_any W2 B g s _ (unhide S2).tx hs (by show b ≤ _; have := unhide HBB; omega))
  rw [pk_yes ha2, hyb] at HP2
  have hb200 : b ≤ 1000 := by have := unhide HBB; omega
  go_wp2_with fail
  clear hW2 c0 c1 c2 c3 c4 f1 S1
  refine (unhide HP2).mono ?_; rintro e w3 ⟨rfl, b3⟩
  have S3 := hide ((unhide S2).below b3)
  clear b3 HP2 S2
  obtain ⟨c0, c1, c2, c3, c4⟩ := (unhide S3).tx.cells
  dsimp only at c0 c1 c2 c3 c4
  have f1 := World.ownsRow.frozenAt (unhide S3).tx 1
  have S4 := hide ((unhide S3).at_ (b + 1))
  obtain ⟨W4, hW4⟩ : ∃ W4, w3.setCell ⟨g, 1, none⟩ (.int .i64 ((b + 1 : Nat) : Int)) = W4 := ⟨_, rfl⟩
  rw [hW4] at S4
  rw [Int.natCast_add, Int.cast_ofNat_Int] at hW4
  clear hy
  go_wp2_with fail
  refine ((unhide HWH) W4).mono ?_; rintro e w5 ⟨⟨qa, qb, qc, qd⟩, rfl, fit, bits, b5⟩
  have S5 := hide ((unhide S4).below b5)
  have FT := hide (And.intro fit bits)
  clear fit bits b5 S4 hW4 c0 c1 c2 c3 c4 f1 S3
  unfold setV
  obtain ⟨q0, q1, q2, q3, k0, k1, k2, k3⟩ := (unhide S5).cells
  obtain ⟨r1, r2, r3⟩ := (unhide S5).fin ⟨qa, qb, qc, qd⟩
  have R := hide (And.intro r1 (And.intro r2 r3))
  clear r1 r2 r3
  go_wp2_with fail
  (try simp only [Exit.inBlock, Exit.then])
  refine bodyPost_ret_by (v := .tuple #[.int .i64 (-1), .int .i64 a, setV ⟨qa, qb, qc, qd⟩]) ?_ rfl ⟨⟨qa, qb, qc, qd⟩, rfl, (unhide FT).1, (unhide FT).2, (unhide R).2.1, (unhide R).1⟩
  exact results_ttc (ty := 24) rfl _ _ w.heap.size _ _ _ rfl rfl rfl (unhide R).2.2
end Go.Proofs.Ytjecopdbcaojcaa

/- The document's reading of expressions: item at two digits; item. -/
namespace Go.Proofs.Ytjecopdbcaojcaa
open Go.RowKit Kb
set_option linter.unusedVariables false
set_option maxRecDepth 20000

theorem hv_dig (c : UInt8) : has [48, 49, 50, 51, 52, 53, 54, 55, 56, 57, 97, 98, 99, 100, 101, 102] c = decide (0 ≤ hv c) ∧ (0 ≤ hv c → Num.dig c.toNat = hv c) := by
  have h := u8_all (p := fun c => (has [48, 49, 50, 51, 52, 53, 54, 55, 56, 57, 97, 98, 99, 100, 101, 102] c == decide (0 ≤ hv c)) && (decide (hv c < 0) || decide (Num.dig c.toNat = hv c))) (by decide +kernel) c
  simp only [Bool.and_eq_true, beq_iff_eq, Bool.or_eq_true, decide_eq_true_eq] at h
  exact ⟨h.1, fun h0 => by rcases h.2 with h | h; omega; exact h⟩
/-- what is read of j digits -/
def hn (s : ByteArray) (p : Nat) : Nat → Int
  | 0 => 0
  | 1 => hv (pkB s p)
  | _ => hv (pkB s p) * 16 + hv (pkB s (p + 1))
set_option maxHeartbeats 4000000 in
theorem ditem_hex (w : World) (B g : Nat) (s : ByteArray) (a op ww : Nat) (h : Txt w B g s ⟨a, op, 0, ww⟩) (hs : s.size ≤ 200) (ha : a < s.size) (hx : pkB s a = 92) (ha2 : a + 1 < s.size) (y : UInt8) (hyb : pkB s (a + 1) = y) (hy : y = 120) :
    Calls Try.prog 58 #[.pointer (some ⟨g, 0, none⟩)] w fun e w' => ∃ (lo : Int) (t' : Td), e = .returned (.tuple #[.int .i64 lo, .int .i64 a, setV ⟨0, 0, 0, 0⟩]) ∧ w.grownBy w' (some g) ∧ Txt w' B g s t' ∧ ((∃ (x : Nat) (c : Nat), hexR s (a + 2) = (some x, c) ∧ lo = x ∧ t' = ⟨c, op, 0, ww⟩) ∨ (∃ c, hexR s (a + 2) = (none, c) ∧ lo = 0 ∧ t' = wrongT ⟨c, op, 0, ww⟩ 3 c)) := by
  have HIN := hide (fun (c : UInt8) W => in_any c ⟨#[48, 49, 50, 51, 52, 53, 54, 55, 56, 57, 97, 98, 99, 100, 101, 102]⟩ W (by decide))
  have HVA := hide (fun (c : UInt8) W => value_any c.toNat W (by omega) (by have := c.toNat_lt; omega))
  have S0 := hide (IS.start h)
  obtain ⟨W0, hW0⟩ : ∃ W0, w.alloc (.cells #[.int .u64 0, .int .u64 0, .int .u64 0, .int .u64 0] 24) = W0 := ⟨_, rfl⟩
  rw [hW0] at S0
  have HP := hide (peek_any W0 B g s _ (unhide S0).tx hs (by show a ≤ _; omega))
  rw [pk_yes ha] at HP
  obtain ⟨c0, c1, c2, c3, c4⟩ := (unhide S0).tx.cells
  dsimp only at c0 c1 c2 c3 c4
  rw [hx] at HP
  clear hx
  obtain ⟨b, hb⟩ : ∃ b, a + 1 = b := ⟨_, rfl⟩
  have HBB := hide hb
  rw [show a + 2 = b + 1 by omega]
  rw [hb] at ha2 hyb
  have y100 : (y == 100) = false := by rw [hy]; rfl
  have y119 : (y == 119) = false := by rw [hy]; rfl
  have y115 : (y == 115) = false := by rw [hy]; rfl
  have y110 : (y == 110) = false := by rw [hy]; rfl
  have y116 : (y == 116) = false := by rw [hy]; rfl
  have y114 : (y == 114) = false := by rw [hy]; rfl
  have y120 : (y == 120) = true := by rw [hy]; rfl
  have hbe : (⟨#[y]⟩ : ByteArray).toList.isEmpty = false := by rw [Lib.toList_data]; rfl
  have hix : (⟨#[y]⟩ : ByteArray)[0]'(Nat.zero_lt_one) = y := rfl
  have hyl := y.toNat_lt
  clear h hb
  go_enter Try.func58, Try.ntmps58
  go_wp2_with fail
  clear hW0 c0 c1 c2 c3 c4
  refine (unhide HP).mono ?_; rintro e w1 ⟨rfl, b1⟩
  have S1 := hide ((unhide S0).below b1)
  clear b1 HP S0
  obtain ⟨c0, c1, c2, c3, c4⟩ := (unhide S1).tx.cells
  dsimp only at c0 c1 c2 c3 c4
  have f1 := World.ownsRow.frozenAt (unhide S1).tx 1
  have S2 := hide ((unhide S1).at_ b)
  obtain ⟨W2, hW2⟩ : ∃ W2, w1.setCell ⟨g, 1, none⟩ (.int .i64 (b : Int)) = W2 := ⟨_, rfl⟩
  rw [hW2] at S2
  rw [show (b : Int) = (a : Int) + 1 by have := unhide HBB; omega] at hW2
  have HP2 := hide (peek_any W2 B g s _ (unhide S2).tx hs (by show b ≤ _; have := unhide HBB; omega))
  rw [pk_yes ha2, hyb] at HP2
  have hb200 : b ≤ 1000 := by have := unhide HBB; omega
  go_wp2_with fail
  clear hW2 c0 c1 c2 c3 c4 f1 S1
  refine (unhide HP2).mono ?_; rintro e w3 ⟨rfl, b3⟩
  have S3 := hide ((unhide S2).below b3)
  clear b3 HP2 S2
  obtain ⟨c0, c1, c2, c3, c4⟩ := (unhide S3).tx.cells
  dsimp only at c0 c1 c2 c3 c4
  have f1 := World.ownsRow.frozenAt (unhide S3).tx 1
  have S4 := hide ((unhide S3).at_ (b + 1))
  obtain ⟨W4, hW4⟩ : ∃ W4, w3.setCell ⟨g, 1, none⟩ (.int .i64 ((b + 1 : Nat) : Int)) = W4 := ⟨_, rfl⟩
  rw [hW4] at S4
  rw [Int.natCast_add, Int.cast_ofNat_Int] at hW4
  clear hy
  go_wp2_with fail
  clear hW4 c0 c1 c2 c3 c4 f1 S3
  go_loopw [7, 8] (fun n i wr => ∃ j : Nat, i = .int .i64 j ∧ j ≤ 2 ∧ n = .int .i64 (hn s (b + 1) j) ∧ IS w B g s ⟨b + 1 + j, op, 0, ww⟩ wr ∧ ∀ k, k < j → 0 ≤ hv (pkB s (b + 1 + k)) ∧ b + 1 + k < s.size) (fun _ i _ => 2 - (intOf i).toNat)
  case atStart => exact ⟨0, rfl, by omega, rfl, unhide S4, fun k hk => by omega⟩
  case round =>
    obtain ⟨j, rfl, hj, rfl, hst, hall⟩ := hrel
    have HALL := hide hall
    clear hall
    have hcase : j = 0 ∨ j = 1 ∨ j = 2 := by omega
    rcases hcase with rfl | rfl | rfl
    · rw [show hn s (b + 1) 0 = 0 from rfl]
      obtain ⟨p, hp⟩ : ∃ p, b + 1 + 0 = p := ⟨_, rfl⟩
      have hpb : p ≤ 1000 := by omega
      rw [hp] at hst
      have SJ := hide hst
      have HPP := hide hp
      clear hst hp
      by_cases hlt : p < s.size
      · obtain ⟨c, hc⟩ : ∃ c, pkB s p = c := ⟨_, rfl⟩
        have HPJ := hide (peek_any wr B g s _ (unhide SJ).tx hs (by show p ≤ _; omega))
        rw [pk_yes hlt, hc] at HPJ
        have HIC := hide ((unhide HIN) c)
        rw [show has (⟨#[48, 49, 50, 51, 52, 53, 54, 55, 56, 57, 97, 98, 99, 100, 101, 102]⟩ : ByteArray).data.toList c = has [48, 49, 50, 51, 52, 53, 54, 55, 56, 57, 97, 98, 99, 100, 101, 102] c from rfl, (hv_dig c).1] at HIC
        have hbe : (⟨#[c]⟩ : ByteArray).toList.isEmpty = false := by rw [Lib.toList_data]; rfl
        have hix : (⟨#[c]⟩ : ByteArray)[0]'(Nat.zero_lt_one) = c := rfl
        by_cases hpos : 0 ≤ hv c
        · rw [decide_eq_true hpos] at HIC
          have HVC := hide ((unhide HVA) c)
          rw [(hv_dig c).2 hpos] at HVC
          have hle := (hv_le c).2
          obtain ⟨d, hd⟩ : ∃ d, hv c = d := ⟨_, rfl⟩
          rw [hd] at HVC hpos hle
          have HC := hide (And.intro hc hd)
          clear hc hd
          go_wp2_with fail
          refine (unhide HPJ).mono ?_; rintro e w5 ⟨rfl, b5⟩
          have S5 := hide ((unhide SJ).below b5)
          clear b5 HPJ SJ
          obtain ⟨c0, c1, c2, c3, c4⟩ := (unhide S5).tx.cells
          dsimp only at c0 c1 c2 c3 c4
          have f1 := World.ownsRow.frozenAt (unhide S5).tx 1
          have S7 := hide ((unhide S5).at_ (p + 1))
          obtain ⟨W7, hW7⟩ : ∃ W7, w5.setCell ⟨g, 1, none⟩ (.int .i64 ((p + 1 : Nat) : Int)) = W7 := ⟨_, rfl⟩
          rw [hW7] at S7
          rw [Int.natCast_add, Int.cast_ofNat_Int] at hW7
          go_wp2_with fail
          refine ((unhide HIC) _).mono ?_; rintro e wx ⟨rfl, rfl⟩
          go_wp2_with fail
          refine ((unhide HVC) _).mono ?_; rintro e wx ⟨rfl, rfl⟩
          go_wp2_with fail
          first
          | refine ⟨⟨1, by go_num, by omega, ?_, ?_, ?_⟩, by simp [intOf]⟩
          | (refine ⟨?_, by simp [intOf]⟩; (repeat apply Exists.intro); refine And.intro ⟨1, by go_num, by omega, ?_, ?_, ?_⟩ rfl)
          · have := unhide HPP
            congr 1
            show _ = hv (pkB s (b + 1))
            rw [show b + 1 = p by omega, (unhide HC).1, (unhide HC).2]
            try omega
          · have := unhide HPP
            rw [show b + 1 + 1 = p + 1 by omega]
            exact unhide S7
          · intro k hk
            have hpp := unhide HPP
            by_cases hkj : k < 0
            · exact (unhide HALL) k hkj
            · obtain rfl : k = 0 := by omega
              rw [hpp, (unhide HC).1, (unhide HC).2]; exact ⟨hpos, hlt⟩
        · rw [decide_eq_false hpos] at HIC
          have HNEG : Hid (hv (pkB s p) < 0) := hide (by rw [hc]; omega)
          clear hc hpos
          go_wp2_with fail
          refine (unhide HPJ).mono ?_; rintro e w5 ⟨rfl, b5⟩
          have S5 := hide ((unhide SJ).below b5)
          clear b5 HPJ SJ
          obtain ⟨c0, c1, c2, c3, c4⟩ := (unhide S5).tx.cells
          dsimp only at c0 c1 c2 c3 c4
          have HW := hide (wrong_any w5 B g s _ (unhide S5).tx 3 p)
          go_wp2_with fail
          refine ((unhide HIC) _).mono ?_; rintro e wx ⟨rfl, rfl⟩
          go_wp2_with fail
          refine (unhide HW).mono ?_; rintro e w6 ⟨rfl, g6, t6⟩
          have S6 := hide ((unhide S5).wrong g6 t6)
          clear g6 t6 HW S5 c0 c1 c2 c3 c4
          obtain ⟨q0, q1, q2, q3, k0, k1, k2, k3⟩ := (unhide S6).cells
          obtain ⟨r1, r2, r3⟩ := (unhide S6).fin ⟨0, 0, 0, 0⟩
          have R := hide (And.intro r1 (And.intro r2 r3))
          clear r1 r2 r3
          go_wp2_with fail
          (try simp only [Exit.inBlock, Exit.then])
          refine bodyPost_ret_by (v := .tuple #[.int .i64 0, .int .i64 a, setV ⟨0, 0, 0, 0⟩]) ?_ rfl ⟨_, _, rfl, (unhide R).2.1, (unhide R).1, .inr ⟨p, (by have := unhide HPP; unfold hexR; rw [show b + 1 = p by omega, if_pos (unhide HNEG)]), rfl, rfl⟩⟩
          exact results_ttc (ty := 24) rfl _ _ w.heap.size _ _ _ rfl rfl rfl (unhide R).2.2
      · have HPJ := hide (peek_any wr B g s _ (unhide SJ).tx hs (by show p ≤ _; omega))
        rw [pk_no (fun h => hlt h.2)] at HPJ
        have HNEG : Hid (hv (pkB s p) < 0) := hide (by rw [pkB_end hlt]; decide +kernel)
        go_wp2_with fail
        refine (unhide HPJ).mono ?_; rintro e w5 ⟨rfl, b5⟩
        have S5 := hide ((unhide SJ).below b5)
        clear b5 HPJ SJ
        obtain ⟨c0, c1, c2, c3, c4⟩ := (unhide S5).tx.cells
        dsimp only at c0 c1 c2 c3 c4
        have HW := hide (wrong_any w5 B g s _ (unhide S5).tx 3 p)
        go_wp2_with fail
        refine (unhide HW).mono ?_; rintro e w6 ⟨rfl, g6, t6⟩
        have S6 := hide ((unhide S5).wrong g6 t6)
        clear g6 t6 HW S5 c0 c1 c2 c3 c4
        obtain ⟨q0, q1, q2, q3, k0, k1, k2, k3⟩ := (unhide S6).cells
        obtain ⟨r1, r2, r3⟩ := (unhide S6).fin ⟨0, 0, 0, 0⟩
        have R := hide (And.intro r1 (And.intro r2 r3))
        clear r1 r2 r3
        go_wp2_with fail
        (try simp only [Exit.inBlock, Exit.then])
        refine bodyPost_ret_by (v := .tuple #[.int .i64 0, .int .i64 a, setV ⟨0, 0, 0, 0⟩]) ?_ rfl ⟨_, _, rfl, (unhide R).2.1, (unhide R).1, .inr ⟨p, (by have := unhide HPP; unfold hexR; rw [show b + 1 = p by omega, if_pos (unhide HNEG)]), rfl, rfl⟩⟩
        exact results_ttc (ty := 24) rfl _ _ w.heap.size _ _ _ rfl rfl rfl (unhide R).2.2
    · obtain ⟨v, hv1⟩ : ∃ v, hn s (b + 1) 1 = v := ⟨_, rfl⟩
      have hvb : 0 ≤ v ∧ v < 16 := by
        have h1 := (unhide HALL) 0 (by omega)
        have h2 := hv_le (pkB s (b + 1))
        simp only [Nat.add_zero] at h1
        rw [← hv1]; show 0 ≤ hv (pkB s (b + 1)) ∧ hv (pkB s (b + 1)) < 16; omega
      rw [hv1]
      have HV1 := hide hv1
      clear hv1
      obtain ⟨p, hp⟩ : ∃ p, b + 1 + 1 = p := ⟨_, rfl⟩
      have hpb : p ≤ 1000 := by omega
      rw [hp] at hst
      have SJ := hide hst
      have HPP := hide hp
      clear hst hp
      by_cases hlt : p < s.size
      · obtain ⟨c, hc⟩ : ∃ c, pkB s p = c := ⟨_, rfl⟩
        have HPJ := hide (peek_any wr B g s _ (unhide SJ).tx hs (by show p ≤ _; omega))
        rw [pk_yes hlt, hc] at HPJ
        have HIC := hide ((unhide HIN) c)
        rw [show has (⟨#[48, 49, 50, 51, 52, 53, 54, 55, 56, 57, 97, 98, 99, 100, 101, 102]⟩ : ByteArray).data.toList c = has [48, 49, 50, 51, 52, 53, 54, 55, 56, 57, 97, 98, 99, 100, 101, 102] c from rfl, (hv_dig c).1] at HIC
        have hbe : (⟨#[c]⟩ : ByteArray).toList.isEmpty = false := by rw [Lib.toList_data]; rfl
        have hix : (⟨#[c]⟩ : ByteArray)[0]'(Nat.zero_lt_one) = c := rfl
        by_cases hpos : 0 ≤ hv c
        · rw [decide_eq_true hpos] at HIC
          have HVC := hide ((unhide HVA) c)
          rw [(hv_dig c).2 hpos] at HVC
          have hle := (hv_le c).2
          obtain ⟨d, hd⟩ : ∃ d, hv c = d := ⟨_, rfl⟩
          rw [hd] at HVC hpos hle
          have HC := hide (And.intro hc hd)
          clear hc hd
          go_wp2_with fail
          refine (unhide HPJ).mono ?_; rintro e w5 ⟨rfl, b5⟩
          have S5 := hide ((unhide SJ).below b5)
          clear b5 HPJ SJ
          obtain ⟨c0, c1, c2, c3, c4⟩ := (unhide S5).tx.cells
          dsimp only at c0 c1 c2 c3 c4
          have f1 := World.ownsRow.frozenAt (unhide S5).tx 1
          have S7 := hide ((unhide S5).at_ (p + 1))
          obtain ⟨W7, hW7⟩ : ∃ W7, w5.setCell ⟨g, 1, none⟩ (.int .i64 ((p + 1 : Nat) : Int)) = W7 := ⟨_, rfl⟩
          rw [hW7] at S7
          rw [Int.natCast_add, Int.cast_ofNat_Int] at hW7
          go_wp2_with fail
          refine ((unhide HIC) _).mono ?_; rintro e wx ⟨rfl, rfl⟩
          go_wp2_with fail
          refine ((unhide HVC) _).mono ?_; rintro e wx ⟨rfl, rfl⟩
          go_wp2_with fail
          first
          | refine ⟨⟨2, by go_num, by omega, ?_, ?_, ?_⟩, by simp [intOf]⟩
          | (refine ⟨?_, by simp [intOf]⟩; (repeat apply Exists.intro); refine And.intro ⟨2, by go_num, by omega, ?_, ?_, ?_⟩ rfl)
          · have := unhide HPP
            congr 1
            show _ = hv (pkB s (b + 1)) * 16 + hv (pkB s (b + 1 + 1))
            rw [show b + 1 + 1 = p by omega, (unhide HC).1, (unhide HC).2]
            rw [show hv (pkB s (b + 1)) = v from unhide HV1]
          · have := unhide HPP
            rw [show b + 1 + 2 = p + 1 by omega]
            exact unhide S7
          · intro k hk
            have hpp := unhide HPP
            by_cases hkj : k < 1
            · exact (unhide HALL) k hkj
            · obtain rfl : k = 1 := by omega
              rw [hpp, (unhide HC).1, (unhide HC).2]; exact ⟨hpos, hlt⟩
        · rw [decide_eq_false hpos] at HIC
          have HNEG : Hid (hv (pkB s p) < 0) := hide (by rw [hc]; omega)
          clear hc hpos
          go_wp2_with fail
          refine (unhide HPJ).mono ?_; rintro e w5 ⟨rfl, b5⟩
          have S5 := hide ((unhide SJ).below b5)
          clear b5 HPJ SJ
          obtain ⟨c0, c1, c2, c3, c4⟩ := (unhide S5).tx.cells
          dsimp only at c0 c1 c2 c3 c4
          have HW := hide (wrong_any w5 B g s _ (unhide S5).tx 3 p)
          go_wp2_with fail
          refine ((unhide HIC) _).mono ?_; rintro e wx ⟨rfl, rfl⟩
          go_wp2_with fail
          refine (unhide HW).mono ?_; rintro e w6 ⟨rfl, g6, t6⟩
          have S6 := hide ((unhide S5).wrong g6 t6)
          clear g6 t6 HW S5 c0 c1 c2 c3 c4
          obtain ⟨q0, q1, q2, q3, k0, k1, k2, k3⟩ := (unhide S6).cells
          obtain ⟨r1, r2, r3⟩ := (unhide S6).fin ⟨0, 0, 0, 0⟩
          have R := hide (And.intro r1 (And.intro r2 r3))
          clear r1 r2 r3
          go_wp2_with fail
          (try simp only [Exit.inBlock, Exit.then])
          refine bodyPost_ret_by (v := .tuple #[.int .i64 0, .int .i64 a, setV ⟨0, 0, 0, 0⟩]) ?_ rfl ⟨_, _, rfl, (unhide R).2.1, (unhide R).1, .inr ⟨p, (by have := unhide HPP; unfold hexR; rw [if_neg (by have := unhide HALL; have := this 0 (by omega); simp only [Nat.add_zero] at this; omega), show b + 1 + 1 = p by omega, if_pos (unhide HNEG)]), rfl, rfl⟩⟩
          exact results_ttc (ty := 24) rfl _ _ w.heap.size _ _ _ rfl rfl rfl (unhide R).2.2
      · have HPJ := hide (peek_any wr B g s _ (unhide SJ).tx hs (by show p ≤ _; omega))
        rw [pk_no (fun h => hlt h.2)] at HPJ
        have HNEG : Hid (hv (pkB s p) < 0) := hide (by rw [pkB_end hlt]; decide +kernel)
        go_wp2_with fail
        refine (unhide HPJ).mono ?_; rintro e w5 ⟨rfl, b5⟩
        have S5 := hide ((unhide SJ).below b5)
        clear b5 HPJ SJ
        obtain ⟨c0, c1, c2, c3, c4⟩ := (unhide S5).tx.cells
        dsimp only at c0 c1 c2 c3 c4
        have HW := hide (wrong_any w5 B g s _ (unhide S5).tx 3 p)
        go_wp2_with fail
        refine (unhide HW).mono ?_; rintro e w6 ⟨rfl, g6, t6⟩
        have S6 := hide ((unhide S5).wrong g6 t6)
        clear g6 t6 HW S5 c0 c1 c2 c3 c4
        obtain ⟨q0, q1, q2, q3, k0, k1, k2, k3⟩ := (unhide S6).cells
        obtain ⟨r1, r2, r3⟩ := (unhide S6).fin ⟨0, 0, 0, 0⟩
        have R := hide (And.intro r1 (And.intro r2 r3))
        clear r1 r2 r3
        go_wp2_with fail
        (try simp only [Exit.inBlock, Exit.then])
        refine bodyPost_ret_by (v := .tuple #[.int .i64 0, .int .i64 a, setV ⟨0, 0, 0, 0⟩]) ?_ rfl ⟨_, _, rfl, (unhide R).2.1, (unhide R).1, .inr ⟨p, (by have := unhide HPP; unfold hexR; rw [if_neg (by have := unhide HALL; have := this 0 (by omega); simp only [Nat.add_zero] at this; omega), show b + 1 + 1 = p by omega, if_pos (unhide HNEG)]), rfl, rfl⟩⟩
        exact results_ttc (ty := 24) rfl _ _ w.heap.size _ _ _ rfl rfl rfl (unhide R).2.2
    · obtain ⟨v, hv2⟩ : ∃ v, hn s (b + 1) 2 = v := ⟨_, rfl⟩
      have hd0 := (unhide HALL) 0 (by omega)
      have hd1 := (unhide HALL) 1 (by omega)
      simp only [Nat.add_zero] at hd0
      have h2 := hv_le (pkB s (b + 1))
      have h3 := hv_le (pkB s (b + 1 + 1))
      have hvb : 0 ≤ v ∧ v < 256 := by rw [← hv2]; show 0 ≤ hv (pkB s (b + 1)) * 16 + hv (pkB s (b + 1 + 1)) ∧ hv (pkB s (b + 1)) * 16 + hv (pkB s (b + 1 + 1)) < 256; omega
      have HRES : Hid (hexR s (b + 1) = (some v.toNat, b + 1 + 2)) := hide (by
        unfold hexR
        rw [if_neg (by omega), if_neg (by omega)]
        have h4 : v = hv (pkB s (b + 1)) * 16 + hv (pkB s (b + 1 + 1)) := hv2.symm
        congr 2; omega)
      rw [hv2]
      clear hv2 hd0 hd1 h2 h3 HALL
      have S9 := hide hst
      clear hst
      obtain ⟨q0, q1, q2, q3, k0, k1, k2, k3⟩ := (unhide S9).cells
      obtain ⟨r1, r2, r3⟩ := (unhide S9).fin ⟨0, 0, 0, 0⟩
      have R := hide (And.intro r1 (And.intro r2 r3))
      clear r1 r2 r3
      go_wp2_with fail
      (try simp only [Exit.inBlock, Exit.then])
      refine bodyPost_ret_by (v := .tuple #[.int .i64 v, .int .i64 a, setV ⟨0, 0, 0, 0⟩]) ?_ rfl ⟨_, _, rfl, (unhide R).2.1, (unhide R).1, .inl ⟨v.toNat, b + 1 + 2, unhide HRES, by omega, rfl⟩⟩
      exact results_ttc (ty := 24) rfl _ _ w.heap.size _ _ _ rfl rfl rfl (unhide R).2.2
end Go.Proofs.Ytjecopdbcaojcaa

/- The document's reading of expressions: item, whole. -/
namespace Go.Proofs.Ytjecopdbcaojcaa
open Go.RowKit Kb
set_option linter.unusedVariables false
set_option maxRecDepth 20000

theorem cls_no {s : ByteArray} {a : Nat} (h : pkB s a ≠ 92) : clsP s a = none := by unfold clsP; rw [if_neg h]
theorem cls_not {s : ByteArray} {a : Nat} (h : pkB s a = 92) (h1 : pkB s (a + 1) ≠ 100) (h2 : pkB s (a + 1) ≠ 119) (h3 : pkB s (a + 1) ≠ 115) : clsP s a = none := by
  unfold clsP; rw [if_pos h, if_neg h1, if_neg h2, if_neg h3]
theorem itd_ok {s : ByteArray} {a op ww c x : Nat} {q : Se} (h1 : clsP s a = none) (h2 : charR s a = (some x, c)) (hc : c ≤ a + 4) : ItD s ⟨a, op, 0, ww⟩ ⟨c, op, 0, ww⟩ x q :=
  ⟨rfl, hc, fun h => absurd rfl h, fun _ => .inr (.inl ⟨h1, x, c, h2, rfl, rfl, rfl⟩)⟩
theorem itd_bad {s : ByteArray} {a op ww c d : Nat} {q : Se} (h1 : clsP s a = none) (h2 : charR s a = (none, c)) (hd : d ≤ a + 4) : ItD s ⟨a, op, 0, ww⟩ (wrongT ⟨d, op, 0, ww⟩ 3 c) 0 q := by
  have e : wrongT ⟨d, op, 0, ww⟩ 3 c = ⟨d, op, 3, c⟩ := if_pos rfl
  rw [e]
  exact ⟨rfl, hd, fun h => absurd rfl h, fun _ => .inr (.inr ⟨h1, c, h2, rfl, rfl, rfl⟩)⟩
theorem hex_le (s : ByteArray) (a : Nat) : (hexR s a).2 ≤ a + 2 := by
  unfold hexR
  split
  · dsimp only; omega
  · split <;> dsimp only <;> omega
theorem ditem_any (w : World) (B g : Nat) (s : ByteArray) (t : Td) (h : Txt w B g s t) (hs : s.size ≤ 200) (ha : t.at_ ≤ 100000) :
    Calls Try.prog 58 #[.pointer (some ⟨g, 0, none⟩)] w fun e w' => ∃ (lo : Int) (q : Se) (t' : Td), e = .returned (.tuple #[.int .i64 lo, .int .i64 t.at_, setV q]) ∧ FitS q ∧ ItD s t t' lo q ∧ w.grownBy w' (some g) ∧ Txt w' B g s t' := by
  obtain ⟨a, op, z, ww⟩ := t
  dsimp only at ha ⊢
  have f0 : FitS ⟨0, 0, 0, 0⟩ := by unfold FitS; decide
  by_cases hn : z = 0 ∧ a < s.size
  · obtain ⟨rfl, hlt⟩ := hn
    by_cases hx : pkB s a = 92
    · have hch : charR s a = escR s (a + 1) := by unfold charR; rw [if_pos hx]
      by_cases ha2 : a + 1 < s.size
      · by_cases h100 : pkB s (a + 1) = 100
        · refine (ditem_d w B g s a op ww h hs hlt hx ha2 _ rfl h100).mono ?_
          rintro e w' ⟨q, rfl, fit, bits, gr, tx⟩
          exact ⟨-1, q, ⟨a + 2, op, 0, ww⟩, rfl, fit, ⟨rfl, by show a + 2 ≤ a + 4; omega, fun h => absurd rfl h, fun _ => .inl ⟨_, by unfold clsP; rw [if_pos hx, if_pos h100], rfl, bits, rfl, rfl⟩⟩, gr, tx⟩
        by_cases h119 : pkB s (a + 1) = 119
        · refine (ditem_w w B g s a op ww h hs hlt hx ha2 _ rfl h119).mono ?_
          rintro e w' ⟨q, rfl, fit, bits, gr, tx⟩
          exact ⟨-1, q, ⟨a + 2, op, 0, ww⟩, rfl, fit, ⟨rfl, by show a + 2 ≤ a + 4; omega, fun h => absurd rfl h, fun _ => .inl ⟨_, by unfold clsP; rw [if_pos hx, if_neg h100, if_pos h119], rfl, bits, rfl, rfl⟩⟩, gr, tx⟩
        by_cases h115 : pkB s (a + 1) = 115
        · refine (ditem_s w B g s a op ww h hs hlt hx ha2 _ rfl h115).mono ?_
          rintro e w' ⟨q, rfl, fit, bits, gr, tx⟩
          exact ⟨-1, q, ⟨a + 2, op, 0, ww⟩, rfl, fit, ⟨rfl, by show a + 2 ≤ a + 4; omega, fun h => absurd rfl h, fun _ => .inl ⟨_, by unfold clsP; rw [if_pos hx, if_neg h100, if_neg h119, if_pos h115], rfl, bits, rfl, rfl⟩⟩, gr, tx⟩
        have hc := cls_not hx h100 h119 h115
        by_cases h120 : pkB s (a + 1) = 120
        · have he : charR s a = hexR s (a + 2) := by rw [hch]; unfold escR; rw [if_pos h120]
          have hl := hex_le s (a + 2)
          refine (ditem_hex w B g s a op ww h hs hlt hx ha2 _ rfl h120).mono ?_
          rintro e w' ⟨lo, t', rfl, gr, tx, ⟨x, c, h1, rfl, rfl⟩ | ⟨c, h1, rfl, rfl⟩⟩
          · rw [h1] at hl
            exact ⟨_, _, _, rfl, f0, itd_ok hc (he.trans h1) (by dsimp only at hl; omega), gr, tx⟩
          · rw [h1] at hl
            exact ⟨_, _, _, rfl, f0, itd_bad hc (he.trans h1) (by dsimp only at hl; omega), gr, tx⟩
        by_cases h110 : pkB s (a + 1) = 110
        · refine (ditem_n w B g s a op ww h hs hlt hx ha2 _ rfl h110).mono ?_
          rintro e w' ⟨rfl, gr, tx⟩
          exact ⟨_, _, _, rfl, f0, itd_ok (x := 10) hc (by rw [hch]; unfold escR; rw [if_neg h120, if_pos h110]) (by omega), gr, tx⟩
        by_cases h116 : pkB s (a + 1) = 116
        · refine (ditem_t w B g s a op ww h hs hlt hx ha2 _ rfl h116).mono ?_
          rintro e w' ⟨rfl, gr, tx⟩
          exact ⟨_, _, _, rfl, f0, itd_ok (x := 9) hc (by rw [hch]; unfold escR; rw [if_neg h120, if_neg h110, if_pos h116]) (by omega), gr, tx⟩
        by_cases h114 : pkB s (a + 1) = 114
        · refine (ditem_r w B g s a op ww h hs hlt hx ha2 _ rfl h114).mono ?_
          rintro e w' ⟨rfl, gr, tx⟩
          exact ⟨_, _, _, rfl, f0, itd_ok (x := 13) hc (by rw [hch]; unfold escR; rw [if_neg h120, if_neg h110, if_neg h116, if_pos h114]) (by omega), gr, tx⟩
        by_cases hp : has specs (pkB s (a + 1)) = true
        · refine (ditem_sign w B g s a op ww h hs hlt hx ha2 _ rfl h100 h119 h115 h110 h116 h114 h120 hp).mono ?_
          rintro e w' ⟨rfl, gr, tx⟩
          exact ⟨_, _, _, rfl, f0, itd_ok hc (by rw [hch]; unfold escR; rw [if_neg h120, if_neg h110, if_neg h116, if_neg h114, if_pos hp]) (by omega), gr, tx⟩
        · refine (ditem_nosign w B g s a op ww h hs hlt hx ha2 _ rfl h100 h119 h115 h110 h116 h114 h120 (by simpa using hp)).mono ?_
          rintro e w' ⟨rfl, gr, tx⟩
          exact ⟨_, _, _, rfl, f0, itd_bad hc (by rw [hch]; unfold escR; rw [if_neg h120, if_neg h110, if_neg h116, if_neg h114, if_neg hp]) (by omega), gr, tx⟩
      · have h0 := pkB_end ha2
        refine (ditem_end w B g s a op ww h hs hlt hx ha2).mono ?_
        rintro e w' ⟨rfl, gr, tx⟩
        exact ⟨_, _, _, rfl, f0, itd_bad (cls_not hx (by rw [h0]; decide) (by rw [h0]; decide) (by rw [h0]; decide)) (by rw [hch]; unfold escR; rw [h0]; rfl) (by omega), gr, tx⟩
    · have hc := cls_no hx
      by_cases hp : plR (pkB s a) = true
      · refine (ditem_plain w B g s a op ww h hs hlt _ rfl hx hp).mono ?_
        rintro e w' ⟨rfl, gr, tx⟩
        exact ⟨_, _, _, rfl, f0, itd_ok hc (by unfold charR; rw [if_neg hx, if_pos hp]) (by omega), gr, tx⟩
      · have hcr : charR s a = (none, a) := by unfold charR; rw [if_neg hx, if_neg hp]
        by_cases h1 : (pkB s a).toNat < 33
        · refine (ditem_low w B g s a op ww h hs hlt _ rfl hx h1).mono ?_
          rintro e w' ⟨rfl, gr, tx⟩
          exact ⟨_, _, _, rfl, f0, itd_bad hc hcr (by omega), gr, tx⟩
        by_cases h2 : 126 < (pkB s a).toNat
        · refine (ditem_high w B g s a op ww h hs hlt _ rfl hx h2).mono ?_
          rintro e w' ⟨rfl, gr, tx⟩
          exact ⟨_, _, _, rfl, f0, itd_bad hc hcr (by omega), gr, tx⟩
        · have h3 : has specs (pkB s a) = true := by
            unfold plR at hp
            cases hh : has specs (pkB s a) with
            | true => rfl
            | false => exfalso; apply hp; rw [hh, decide_eq_true (by omega), decide_eq_true (by omega)]; rfl
          refine (ditem_spec w B g s a op ww h hs hlt _ rfl hx (by omega) (by omega) h3).mono ?_
          rintro e w' ⟨rfl, gr, tx⟩
          exact ⟨_, _, _, rfl, f0, itd_bad hc hcr (by omega), gr, tx⟩
  · refine (ditem_none w B g s a op ww z h hs ha hn).mono ?_
    rintro e w' ⟨rfl, gr, tx⟩
    by_cases hz : z = 0
    · subst hz
      have hlt : ¬ a < s.size := fun h => hn ⟨rfl, h⟩
      have h0 := pkB_end hlt
      exact ⟨_, _, _, rfl, f0, itd_bad (cls_no (by rw [h0]; decide)) (by unfold charR; rw [h0]; rfl) (by omega), gr, tx⟩
    · have e : wrongT ⟨a + 1, op, z, ww⟩ 3 a = ⟨a + 1, op, z, ww⟩ := if_neg hz
      rw [e] at tx
      exact ⟨0, _, ⟨a + 1, op, z, ww⟩, rfl, f0, ⟨rfl, by show a + 1 ≤ a + 4; omega, fun _ => ⟨rfl, rfl, rfl⟩, fun h => absurd h hz⟩, gr, tx⟩
end Go.Proofs.Ytjecopdbcaojcaa

/- The document's reading of expressions: what a class needs. -/
namespace Go.Proofs.Ytjecopdbcaojcaa
open Go.RowKit Kb
set_option linter.unusedVariables false
set_option maxRecDepth 20000

set_option maxHeartbeats 1000000 in
theorem dpeekQ_any (w : World) (B g : Nat) (s : ByteArray) (t : Td) (h : Txt w B g s t) (hs : s.size ≤ 200) (ha : t.at_ ≤ 1000000) :
    Calls Try.prog 33 #[.pointer (some ⟨g, 0, none⟩)] w fun e w' => e = .returned (.string (pk s t)) ∧ ∃ m, w' = w.drewN m := by
  obtain ⟨c0, c1, c2, c3, c4⟩ := h.cells
  obtain ⟨a, op, e, ww⟩ := t
  dsimp only at *
  have HP : Hid (pk s ⟨a, op, e, ww⟩ = if e = 0 ∧ a < s.size then s.extract a (a + 1) else ⟨#[]⟩) := hide rfl
  generalize pk s ⟨a, op, e, ww⟩ = q at *
  clear h
  by_cases h0 : e = 0
  · have hb : (e == 0) = true := by rw [h0]; rfl
    by_cases h1 : a < s.size
    · have hI : (a : Int) < s.size := by omega
      rw [if_pos ⟨h0, h1⟩] at HP
      clear h0
      go_enter Try.func33, Try.ntmps33
      go_wp2
      go_quiet (fail)
      go_wp2
      go_quiet (fail)
      go_wp2
      go_ret
      exact ⟨by rw [unhide HP]; rfl, _, World.drewN_drewN _ _ _⟩
    · have hI : ¬ ((a : Int) < s.size) := by omega
      rw [if_neg (fun h => h1 h.2)] at HP
      clear h0
      go_enter Try.func33, Try.ntmps33
      go_wp2
      go_quiet (fail)
      go_wp2
      go_ret
      exact ⟨by rw [unhide HP]; rfl, _, rfl⟩
  · have hb : (e == 0) = false := by simp; exact h0
    rw [if_neg (fun h => h0 h.1)] at HP
    go_enter Try.func33, Try.ntmps33
    go_wp2
    go_quiet (fail)
    go_wp2
    go_ret
    exact ⟨by rw [unhide HP]; rfl, _, rfl⟩
/-- an array of marks, one a byte -/
def cellsV (f : Nat → Bool) : List Value := (List.range 256).map fun j => .bool (f j)
theorem cellsV_at (f : Nat → Bool) (j : Nat) (h : j < 256) : (cellsV f)[j]? = some (.bool (f j)) := by simp [cellsV, h]
theorem cellsV_set (f : Nat → Bool) (j : Nat) (v : Bool) : (cellsV f).set j (.bool v) = cellsV (fun i => if i = j then v else f i) := by
  refine List.ext_getElem? fun i => ?_
  rw [List.getElem?_set]
  by_cases h : i < 256
  · by_cases e : j = i
    · subst e; simp [cellsV, h]
    · simp [cellsV, h, e, Ne.symm e]
  · by_cases e : j = i
    · subst e; simp [cellsV, h]
    · simp [cellsV, h, e]
theorem cellsV_ext {f g : Nat → Bool} (h : ∀ j, j < 256 → f j = g j) : cellsV f = cellsV g := by
  unfold cellsV
  refine List.map_congr_left fun j hj => ?_
  rw [h j (List.mem_range.1 hj)]
theorem marksV_new (W : World) (B : Nat) (hB : B ≤ W.heap.size) : (W.alloc (.cells Try.zeroCells107 107)).ownsRow B 107 256 (.slice (some ⟨W.heap.size, 0, none⟩) 1 1) 1 (cellsV fun _ => false) := by
  have h := World.ownsRow_lit (e := 107) (size := 256) (base := B) W Try.zeroCells107 1 hB (by unfold maxLen; omega) (by kernel_rfl)
  have e : Try.zeroCells107.toList = cellsV (fun _ => false) := by kernel_rfl
  rw [e] at h; exact h
theorem cc1_any (f : Nat → Bool) (nb : Bool) (b g h N M : Nat) (W : World) (hb : b < 256) (h1 : W.ownsRow N 107 256 (.slice (some ⟨g, 0, none⟩) 1 1) 1 (cellsV f)) (h2 : W.cell? ⟨h, 0, none⟩ = some (.bool nb)) :
    Calls Try.prog 72 (#[.int .i64 b] ++ #[.pointer (some ⟨g, 0, none⟩), .pointer (some ⟨h, 0, none⟩)]) W fun e W' => e = .returned (.bool (f b != nb)) ∧ Below W.heap.size W W' := by
  have hc := h1.cellAt b (by omega)
  rw [cellsV_at f b hb] at hc
  have hbi : (b : Int) < 256 := by omega
  clear h1
  obtain ⟨x, hx⟩ : ∃ x, f b = x := ⟨_, rfl⟩
  rw [hx] at hc ⊢
  clear hx
  go_enter Try.func72, Try.ntmps72
  go_wp2_with fail
  first | go_quiet (fail) | skip
  go_wp2_with fail
  go_ret
  exact ⟨by cases x <;> cases nb <;> rfl, by first | exact Below.refl _ _ | exact Go.below_drewN (Below.refl _ _) _⟩
end Go.Proofs.Ytjecopdbcaojcaa

/- The document's reading of expressions: where a class stands; what its items are: plain. -/
namespace Go.Proofs.Ytjecopdbcaojcaa
open Go.RowKit Kb
set_option linter.unusedVariables false
set_option maxRecDepth 20000

/-- where the reading of a class stands -/
structure CS (w : World) (B g : Nat) (s : ByteArray) (t : Td) (M : Nat → Bool) (nb : Bool) (W : World) : Prop where
  tx : Txt W B g s t
  b2 : W.ownsRow w.heap.size 24 4 (.slice (some ⟨w.heap.size, 0, none⟩) 1 1) 1 (cellsW ⟨0, 0, 0, 0⟩)
  b3 : W.ownsRow w.heap.size 4 1 (.slice (some ⟨w.heap.size + 1, 0, none⟩) 1 1) 1 [.bool nb]
  b4 : W.ownsRow w.heap.size 107 256 (.slice (some ⟨w.heap.size + 2, 0, none⟩) 1 1) 1 (cellsV M)
  gr : w.grownBy W (some g)
  ne : g < w.heap.size
section
variable {w W W' : World} {B g : Nat} {s : ByteArray} {t t' : Td} {M : Nat → Bool} {nb : Bool}
theorem CS.below (h : CS w B g s t M nb W) (b : Below W.heap.size W W') : CS w B g s t M nb W' :=
  ⟨h.tx.below b, own_below h.b2 b, own_below h.b3 b, own_below h.b4 b, h.gr.trans (grown_below' b (some g)), h.ne⟩
theorem CS.wrong (h : CS w B g s t M nb W) (k : W.grownBy W' (some g)) (hT : Txt W' B g s t') : CS w B g s t' M nb W' :=
  ⟨hT, h.b2.kept k (.inr (by simp [Value.ownBlock]; have := h.ne; omega)), h.b3.kept k (.inr (by simp [Value.ownBlock]; have := h.ne; omega)), h.b4.kept k (.inr (by simp [Value.ownBlock]; have := h.ne; omega)), h.gr.trans k, h.ne⟩
theorem CS.at_ {a op ww : Nat} {e : Int} (h : CS w B g s ⟨a, op, e, ww⟩ M nb W) (n : Nat) : CS w B g s ⟨n, op, e, ww⟩ M nb (W.setCell ⟨g, 1, none⟩ (.int .i64 n)) := by
  obtain ⟨s1, g1⟩ := World.ownsRow.stored h.tx 1 (.int .i64 n)
  exact h.wrong g1 s1
theorem CS.mark (h : CS w B g s t M nb W) (j : Nat) (v : Bool) : CS w B g s t (fun i => if i = j then v else M i) nb (W.setCell ⟨w.heap.size + 2, j, none⟩ (.bool v)) := by
  obtain ⟨s1, g1⟩ := h.b4.stored j (.bool v)
  rw [cellsV_set] at s1
  exact ⟨World.ownsRow.kept h.tx g1 (.inr (by simp [Value.ownBlock]; have := h.ne; omega)), h.b2.kept g1 (.inr (by simp [Value.ownBlock])), h.b3.kept g1 (.inr (by simp [Value.ownBlock])), s1, World.grownBy.andThen h.gr g1 (fun k hk => by cases hk; exact .inl (by omega)), h.ne⟩
theorem CS.ext {N : Nat → Bool} (h : CS w B g s t M nb W) (e : ∀ j, j < 256 → M j = N j) : CS w B g s t N nb W :=
  ⟨h.tx, h.b2, h.b3, by rw [← cellsV_ext e]; exact h.b4, h.gr, h.ne⟩
theorem CS.nbc (h : CS w B g s t M nb W) : W.cell? ⟨w.heap.size + 1, 0, none⟩ = some (.bool nb) := h.b3.cellAt 0 (by omega)
theorem CS.zero (h : CS w B g s t M nb W) : W.cell? ⟨w.heap.size, 0, none⟩ = some (.int .u64 0) ∧ W.cell? ⟨w.heap.size, 1, none⟩ = some (.int .u64 0) ∧ W.cell? ⟨w.heap.size, 2, none⟩ = some (.int .u64 0) ∧ W.cell? ⟨w.heap.size, 3, none⟩ = some (.int .u64 0)
    ∧ W.frozen? ⟨w.heap.size, 0, none⟩ = false ∧ W.frozen? ⟨w.heap.size, 1, none⟩ = false ∧ W.frozen? ⟨w.heap.size, 2, none⟩ = false ∧ W.frozen? ⟨w.heap.size, 3, none⟩ = false :=
  ⟨h.b2.cellAt 0 (by omega), h.b2.cellAt 1 (by omega), h.b2.cellAt 2 (by omega), h.b2.cellAt 3 (by omega), h.b2.frozenAt 0, h.b2.frozenAt 1, h.b2.frozenAt 2, h.b2.frozenAt 3⟩
theorem CS.fin (h : CS w B g s t M nb W) (q : Se) :
    Txt (putQ W w.heap.size q) B g s t ∧ w.grownBy (putQ W w.heap.size q) (some g) ∧ (loadVar 24 ⟨w.heap.size, 0, none⟩).run Try.prog (putQ W w.heap.size q) = .ok (setV q) (putQ W w.heap.size q) := by
  obtain ⟨v1, m1⟩ := h.b2.stored 0 (.int .u64 q.a)
  obtain ⟨v2, m2⟩ := v1.stored 1 (.int .u64 q.b)
  obtain ⟨v3, m3⟩ := v2.stored 2 (.int .u64 q.c)
  obtain ⟨v4, m4⟩ := v3.stored 3 (.int .u64 q.d)
  have mm := ((m1.trans m2).trans m3).trans m4
  obtain ⟨fr, hh⟩ := own_one v4
  exact ⟨World.ownsRow.kept h.tx mm (.inr (by simp [Value.ownBlock]; have := h.ne; omega)), World.grownBy.andThen h.gr mm (fun j hj => by cases hj; exact .inl (Nat.le_refl _)), load_set hh⟩
end
/-- what the reading of a class has come to, behind n items -/
def ClsI (s : ByteArray) (a : Nat) (n : Nat) (t : Td) (M : Nat → Bool) : Prop :=
  (t.e = 0 ∧ t.at_ ≤ s.size ∧ n ≤ t.at_ ∧ ((n = 0 ∧ t.at_ = tkA s a 94 ∧ M = fun _ => false) ∨ (0 < n ∧ openR s (itemR s (tkA s a 94)) = loopR s M t.at_)))
  ∨ (t.e = 3 ∧ n ≤ s.size + 1 ∧ t.at_ ≤ s.size + 20 ∧ openR s (itemR s (tkA s a 94)) = (none, t.ww))
theorem cls_ok {s : ByteArray} {a n b op ww c op' ww' : Nat} {M N q : Nat → Bool} (h : ClsI s a n ⟨b, op, 0, ww⟩ M) (hc : n = 0 ∨ pkB s b ≠ 93) (hi : itemR s b = (some q, c)) (hN : N = fun j => M j || q j) : ClsI s a (n + 1) ⟨c, op', 0, ww'⟩ N := by
  rcases h with ⟨_, h2, h3, h4⟩ | ⟨h1, _⟩
  · dsimp only at h2 h3 h4
    have hl := itemR_le s b h2
    rw [hi] at hl
    have hl1 := hl.2 q rfl
    have hl2 := hl.1
    dsimp only at hl1 hl2
    refine .inl ⟨rfl, hl2, by show n + 1 ≤ c; omega, .inr ⟨by omega, ?_⟩⟩
    rcases h4 with ⟨rfl, hb, rfl⟩ | ⟨h5, h6⟩
    · rw [← hb, hi, hN]
      show loopR s q c = _
      congr 1
    · rcases hc with hc | hc
      · omega
      · rw [h6, loopR_go h2 hc hi, hN]
  · exact absurd (show (0 : Int) = 3 from h1) (by decide)
theorem cls_bad {s : ByteArray} {a n b op ww c d op' : Nat} {M N : Nat → Bool} (h : ClsI s a n ⟨b, op, 0, ww⟩ M) (hc : n = 0 ∨ pkB s b ≠ 93) (hi : itemR s b = (none, c)) (hd : d ≤ b + 20) : ClsI s a (n + 1) ⟨d, op', 3, c⟩ N := by
  rcases h with ⟨_, h2, h3, h4⟩ | ⟨h1, _⟩
  · dsimp only at h2 h3 h4
    refine .inr ⟨rfl, by omega, by show d ≤ _; omega, ?_⟩
    rcases h4 with ⟨rfl, hb, rfl⟩ | ⟨h5, h6⟩
    · rw [← hb, hi]; rfl
    · rcases hc with hc | hc
      · omega
      · rw [h6, loopR_err hc hi]
  · exact absurd (show (0 : Int) = 3 from h1) (by decide)
end Go.Proofs.Ytjecopdbcaojcaa

/- The document's reading of expressions: class. -/
namespace Go.Proofs.Ytjecopdbcaojcaa
open Go.RowKit Kb
set_option linter.unusedVariables false
set_option maxRecDepth 20000

theorem bit_wordV (s : Se) (i : Nat) (hi : i < 4) (j : Nat) (hj : j < 64) : bit s (64 * i + j) = (wordS s i).toNat.testBit j := by
  unfold bit
  rw [show (64 * i + j) / 64 = i by omega, show (64 * i + j) % 64 = j by omega]
theorem bits_extV {s t : Se} (hs : FitS s) (ht : FitS t) (h : ∀ j, j < 256 → bit s j = bit t j) : s = t := by
  have hw : ∀ i, i < 4 → wordS s i = wordS t i := by
    intro i hi
    have h1 := wordS_fit hs i hi
    have h2 := wordS_fit ht i hi
    have : (wordS s i).toNat = (wordS t i).toNat := by
      apply Nat.eq_of_testBit_eq
      intro j
      by_cases hj : j < 64
      · have := h (64 * i + j) (by omega)
        rw [bit_wordV s i hi j hj, bit_wordV t i hi j hj] at this
        exact this
      · have e : ∀ n : Nat, n < 18446744073709551616 → n.testBit j = false := fun n hn => Nat.testBit_lt_two_pow (Nat.lt_of_lt_of_le (by omega : n < 2 ^ 64) (Nat.pow_le_pow_right (by omega) (by omega)))
        rw [e _ (by omega), e _ (by omega)]
    omega
  have h0 := hw 0 (by omega)
  have h1 := hw 1 (by omega)
  have h2 := hw 2 (by omega)
  have h3 := hw 3 (by omega)
  obtain ⟨a, b, c, d⟩ := s
  obtain ⟨a', b', c', d'⟩ := t
  simp only [wordS] at h0 h1 h2 h3
  rw [h0, h1, h2, h3]
theorem results_cell_q {fn : Func} {p : Tmp} {ty : TypeId} (h : fn.results = #[.cell p ty]) (tmps : Array Value) (w : World) (g : Nat) (z : Value)
    (hp : tmps.getD p undef = .pointer (some ⟨g, 0, none⟩)) (hl : (loadVar ty ⟨g, 0, none⟩).run Try.prog w = .ok z w) : (results fn tmps).run Try.prog w = .ok z w := by
  have hp' : tmps[p]?.getD undef = .pointer (some ⟨g, 0, none⟩) := by simpa using hp
  simp [results, h, hp', asAddr, hl]
theorem set4 {w : World} {B g : Nat} {a b c d : Int} (h : w.ownsRow B 24 4 (.slice (some ⟨g, 0, none⟩) 1 1) 1 [.int .u64 a, .int .u64 b, .int .u64 c, .int .u64 d]) :
    w.cell? ⟨g, 0, none⟩ = some (.int .u64 a) ∧ w.cell? ⟨g, 1, none⟩ = some (.int .u64 b) ∧ w.cell? ⟨g, 2, none⟩ = some (.int .u64 c) ∧ w.cell? ⟨g, 3, none⟩ = some (.int .u64 d) :=
  ⟨h.cellAt 0 (by omega), h.cellAt 1 (by omega), h.cellAt 2 (by omega), h.cellAt 3 (by omega)⟩
theorem own_mono' {w : World} {B B' e size n g c : Nat} {xs : List Value} (h : w.ownsRow B e size (.slice (some ⟨g, 0, none⟩) n c) n xs) (hB : B' ≤ g) : w.ownsRow B' e size (.slice (some ⟨g, 0, none⟩) n c) n xs := by
  obtain ⟨h1, h2⟩ := h
  refine ⟨h1, ?_⟩
  rcases h2 with h2 | ⟨b, cap, cur, h3, h4, h5⟩
  · exact .inl h2
  · cases h3
    exact .inr ⟨_, _, cur, rfl, hB, h5⟩
theorem mark_rng (M : Nat → Bool) (x y i : Nat) : (M i || (decide (x ≤ i) && decide (i < y + 1))) = (M i || betw x y i) := by
  congr 1
  unfold betw
  rw [Bool.eq_iff_iff]; simp; omega
theorem mark_one (M : Nat → Bool) (x i : Nat) : (M i || (decide (x ≤ i) && decide (i < x + 1))) = (M i || decide (i = x)) := by
  congr 1
  rw [Bool.eq_iff_iff]; simp; omega
def dashR (x b : Nat) : Option Nat × Nat → Option (Nat → Bool) × Nat
  | (none, c) => (none, c)
  | (some y, c) => if y < x then (none, b) else (some (betw x y), c)
theorem item_dash {s : ByteArray} {b x b1 : Nat} (h1 : clsP s b = none) (h2 : charR s b = (some x, b1)) (h3 : pkB s b1 = 45) : itemR s b = dashR x (b1 + 1) (charR s (b1 + 1)) := by
  unfold itemR
  rw [h1, h2]
  dsimp only
  rw [if_pos h3]
  rcases charR s (b1 + 1) with ⟨_ | y, c⟩ <;> rfl
theorem cnt_zero {p : Nat → Bool} : ∀ n : Nat, (∀ j, j < n → p j = false) → Pop.cntN p n = 0
  | 0, _ => rfl
  | n + 1, h => by rw [Pop.cntN, cnt_zero n (fun j hj => h j (by omega)), h n (by omega)]; rfl
theorem cls_shut0 {M : Nat → Bool} {nb : Bool} {b : Nat} (h : ∀ j, j < 256 → bit ⟨0, 0, 0, 0⟩ j = (M j != nb)) : shutR nb (some M, b) = (none, b) := by
  show (if _ then _ else _) = _
  rw [if_pos (cnt_zero 256 (fun j hj => by rw [← h j hj, bit0]))]
theorem cls_shut {q : Se} {M : Nat → Bool} {nb : Bool} {b : Nat} (hf : FitS q) (h : ∀ j, j < 256 → bit q j = (M j != nb)) (hq : q ≠ ⟨0, 0, 0, 0⟩) : shutR nb (some M, b) = (some (fun j => M j != nb), b + 1) := by
  show (if _ then _ else _) = _
  rw [if_neg (fun hc => hq (bits_extV hf fit0 (fun j hj => by rw [h j hj, bit0, Pop.cntN_none hc j hj])))]
/-- what the reading of a class answers -/
def ClsD (s : ByteArray) (a : Nat) (t t' : Td) (q : Se) : Prop :=
  t'.op = t.op ∧ t'.at_ ≤ s.size + 21 ∧
  ((∃ p, itemsR s a = (some p, t'.at_) ∧ t'.e = 0 ∧ ∀ j, j < 256 → bit q j = p j) ∨ (∃ c, itemsR s a = (none, c) ∧ t'.e = 3 ∧ t'.ww = c))
end Go.Proofs.Ytjecopdbcaojcaa
