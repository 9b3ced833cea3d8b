/- The document's reading of expressions: the text that is read; peek and wrong. -/
import Derived.Test.YtjecopdbcaojcaaKc
import Derived.Lib.BufferOwn
namespace Go.Proofs.Ytjecopdbcaojcaa
open Go.RowKit Kb
set_option linter.unusedVariables false
set_option maxRecDepth 20000

/-- a text that is read: where, how many brackets are open, what went wrong and where -/
structure Td where
  at_ : Nat
  op : Nat
  e : Int
  ww : Nat
def txC (s : ByteArray) (t : Td) : List Value := [.string s, .int .i64 t.at_, .int .i64 t.op, .int .i64 t.e, .int .i64 t.ww]
def Txt (w : World) (B g : Nat) (s : ByteArray) (t : Td) : Prop := w.ownsRow B 55 5 (.slice (some ⟨g, 0, none⟩) 1 1) 1 (txC s t)
theorem Txt.cells {w : World} {B g : Nat} {s : ByteArray} {t : Td} (h : Txt w B g s t) : w.cell? ⟨g, 0, none⟩ = some (.string s) ∧ w.cell? ⟨g, 1, none⟩ = some (.int .i64 t.at_) ∧ w.cell? ⟨g, 2, none⟩ = some (.int .i64 t.op) ∧ w.cell? ⟨g, 3, none⟩ = some (.int .i64 t.e) ∧ w.cell? ⟨g, 4, none⟩ = some (.int .i64 t.ww) :=
  ⟨World.ownsRow.cellAt h 0 (by omega), World.ownsRow.cellAt h 1 (by omega), World.ownsRow.cellAt h 2 (by omega), World.ownsRow.cellAt h 3 (by omega), World.ownsRow.cellAt h 4 (by omega)⟩
theorem Txt.lt {w : World} {B g : Nat} {s : ByteArray} {t : Td} (h : Txt w B g s t) : B ≤ g ∧ g < w.heap.size := World.ownsRow.lt h g rfl
/-- the byte that comes next, as a text -/
def pk (s : ByteArray) (t : Td) : ByteArray := if t.e = 0 ∧ t.at_ < s.size then s.extract t.at_ (t.at_ + 1) else ⟨#[]⟩
set_option maxHeartbeats 1000000 in
theorem peek_any (w : World) (B g : Nat) (s : ByteArray) (t : Td) (h : Txt w B g s t) (hs : s.size ≤ 200) (ha : t.at_ ≤ 1000000) :
    Calls Try.prog 33 #[.pointer (some ⟨g, 0, none⟩)] w fun e w' => e = .returned (.string (pk s t)) ∧ Below w.heap.size w w' := by
  obtain ⟨c0, c1, c2, c3, c4⟩ := h.cells
  obtain ⟨a, op, e, ww⟩ := t
  dsimp only at *
  have HP : Hid (pk s ⟨a, op, e, ww⟩ = if e = 0 ∧ a < s.size then s.extract a (a + 1) else ⟨#[]⟩) := hide rfl
  generalize pk s ⟨a, op, e, ww⟩ = q at *
  clear h
  by_cases h0 : e = 0
  · have hb : (e == 0) = true := by rw [h0]; rfl
    by_cases h1 : a < s.size
    · have hI : (a : Int) < s.size := by omega
      rw [if_pos ⟨h0, h1⟩] at HP
      clear h0
      go_enter Try.func33, Try.ntmps33
      go_wp2
      go_quiet (fail)
      go_wp2
      go_quiet (fail)
      go_wp2
      go_ret
      exact ⟨by rw [unhide HP]; rfl, Go.below_drewN (Go.below_drewN (Below.refl _ _) _) _⟩
    · have hI : ¬ ((a : Int) < s.size) := by omega
      rw [if_neg (fun h => h1 h.2)] at HP
      clear h0
      go_enter Try.func33, Try.ntmps33
      go_wp2
      go_quiet (fail)
      go_wp2
      go_ret
      exact ⟨by rw [unhide HP]; rfl, Go.below_drewN (Below.refl _ _) _⟩
  · have hb : (e == 0) = false := by simp; exact h0
    rw [if_neg (fun h => h0 h.1)] at HP
    go_enter Try.func33, Try.ntmps33
    go_wp2
    go_quiet (fail)
    go_wp2
    go_ret
    exact ⟨by rw [unhide HP]; rfl, Go.below_drewN (Below.refl _ _) _⟩
/-- what is told of a fault: the first one stays -/
def wrongT (t : Td) (e : Int) (at_ : Nat) : Td := if t.e = 0 then { t with e := e, ww := at_ } else t
set_option maxHeartbeats 1000000 in
theorem wrong_any (w : World) (B g : Nat) (s : ByteArray) (t : Td) (h : Txt w B g s t) (x : Int) (y : Nat) :
    Calls Try.prog 18 #[.pointer (some ⟨g, 0, none⟩), .int .i64 x, .int .i64 y] w fun e w' => e = .returned (.tuple #[]) ∧ w.grownBy w' (some g) ∧ Txt w' B g s (wrongT t x y) := by
  obtain ⟨c0, c1, c2, c3, c4⟩ := h.cells
  have f3 := World.ownsRow.frozenAt h 3
  have f4 := World.ownsRow.frozenAt h 4
  obtain ⟨a, op, e, ww⟩ := t
  dsimp only at *
  have T := hide h
  clear h
  by_cases h0 : e = 0
  · have hb : (e == 0) = true := by rw [h0]; rfl
    have HW : Hid (wrongT ⟨a, op, e, ww⟩ x y = ⟨a, op, x, y⟩) := hide (by unfold wrongT; rw [if_pos h0])
    clear h0
    obtain ⟨s1, g1⟩ := World.ownsRow.stored (unhide T) 3 (.int .i64 x)
    obtain ⟨s2, g2⟩ := s1.stored 4 (.int .i64 y)
    have S2 := hide s2
    have G2 := hide (Go.Lib.grownBy_trans g1 g2)
    clear s1 s2 g1 g2
    go_enter Try.func18, Try.ntmps18
    go_wp2_with fail
    go_end0
    exact ⟨rfl, unhide G2, by rw [unhide HW]; exact unhide S2⟩
  · have hb : (e == 0) = false := by simp; exact h0
    have HW : Hid (wrongT ⟨a, op, e, ww⟩ x y = ⟨a, op, e, ww⟩) := hide (by unfold wrongT; rw [if_neg h0])
    go_enter Try.func18, Try.ntmps18
    go_wp2_with fail
    go_end0
    exact ⟨rfl, World.grownBy.refl _ _, by rw [unhide HW]; exact unhide T⟩
end Go.Proofs.Ytjecopdbcaojcaa
