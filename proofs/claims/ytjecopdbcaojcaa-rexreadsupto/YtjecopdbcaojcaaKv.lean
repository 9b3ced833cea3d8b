/- The program's reader: brackets; all of them. -/
import Derived.Test.YtjecopdbcaojcaaKu
namespace Go.Proofs.Ytjecopdbcaojcaa
open Go.RowKit Kb
set_option linter.unusedVariables false
set_option maxRecDepth 20000

section
variable {w wr w' : World} {B g : Nat} {s : ByteArray} {a b b' op op' gb : Nat} {k : Int} {sx : Se} {e : Value}
theorem At0.step2 (A : At0 w wr B g s b op) (g' : wr.grownBy w' (some g)) (r : Rd w' B g s b' op') : At0 w w' B g s b' op' :=
  ⟨A.rb.kept g' (fun e => by have := A.lt; cases e; omega), A.gr.trans g', r, A.lt⟩
theorem At1.step2 (A : At1 w wr B g s b op gb k sx e) (g' : wr.grownBy w' (some g)) (r : Rd w' B g s b' op') : At1 w w' B g s b' op' gb k sx e :=
  ⟨A.toAt0.step2 g' r, A.box.kept g' (fun e => by have := A.lt; have := A.hgb; cases e; omega), A.hgb⟩
end
set_option maxHeartbeats 4000000 in
theorem group_deep (s : ByteArray) (hs : s.size ≤ 100000) : RdC 48 s 20 (grpR s 0) (fun a => pkB s a = 40) := by
  intro w B g a h ha hp
  have A0 := hide (At0.start h)
  obtain ⟨l0, l1, l2⟩ := (unhide A0).rd.cells
  have V0 : Hid (RsP (fun q => w.heap.size < q) _ (grpR s 0 a) (.agg #[.int .i64 0, .int .u64 0, .int .u64 0, .int .u64 0, .int .u64 0, .slice none 0 0]) 11) := hide (err_ok (w := (w.alloc (.cells #[.int .i64 0, .int .u64 0, .int .u64 0, .int .u64 0, .int .u64 0, .slice none 0 0] 27))) (b := a) (by decide))
  have hgl := (unhide A0).lt
  obtain ⟨W0, hW0⟩ : ∃ W0, w.alloc (.cells #[.int .i64 0, .int .u64 0, .int .u64 0, .int .u64 0, .int .u64 0, .slice none 0 0] 27) = W0 := ⟨_, rfl⟩
  rw [hW0] at A0 V0 l0 l1 l2
  clear h hp
  obtain ⟨y0, y1, y2, y3, y4, y5⟩ := (unhide A0).rb.cells
  obtain ⟨h0, h1, h2, h3, h4, h5⟩ := (unhide A0).rb.frozen
  dsimp only at y1 y2 y3 y4
  have F := hide ((unhide A0).fin (unhide V0))
  go_enter Try.func48, Try.ntmps48
  go_wp2_with fail
  (try simp only [Exit.inBlock, Exit.then])
  refine bodyPost_ret_by (v := .tuple #[.agg #[.int .i64 0, .int .u64 0, .int .u64 0, .int .u64 0, .int .u64 0, .slice none 0 0], .int .i64 11]) ?_ rfl ⟨_, _, rfl, (unhide F).2.1, (unhide F).2.2.2, (unhide F).2.2.1⟩
  exact results_ct (ty := 27) rfl _ _ w.heap.size _ rfl (unhide F).1 _ rfl
set_option maxHeartbeats 8000000 in
theorem group_step (s : ByteArray) (hs : s.size ≤ 100000) (op d : Nat) (hop : op < 20) (HA : RdC 14 s (op + 1) (altR s (grpR s d)) (fun _ => True)) : RdC 48 s op (grpR s (d + 1)) (fun a => pkB s a = 40) := by
  intro w B g a h ha hp
  have hal := pk_some hp (by decide)
  have hgd := altR_le (grpR_good s d) (a + 1) hal
  have A0 := hide (At0.start h)
  obtain ⟨l0, l1, l2⟩ := (unhide A0).rd.cells
  have lf := (unhide A0).rd.frozen 1
  obtain ⟨W0, hW0⟩ : ∃ W0, w.alloc (.cells #[.int .i64 0, .int .u64 0, .int .u64 0, .int .u64 0, .int .u64 0, .slice none 0 0] 27) = W0 := ⟨_, rfl⟩
  rw [hW0] at A0 l0 l1 l2 lf
  obtain ⟨r1, g1⟩ := (unhide A0).rd.setAt (a + 1)
  rw [show ((a + 1 : Nat) : Int) = (a : Int) + 1 by omega] at r1 g1
  have A1 := hide ((unhide A0).step g1 r1)
  obtain ⟨W1, hW1⟩ : ∃ W1, W0.setCell ⟨g, 1, none⟩ (.int .i64 ((a : Int) + 1)) = W1 := ⟨_, rfl⟩
  rw [hW1] at A1
  obtain ⟨m0, m1, m2⟩ := (unhide A1).rd.cells
  have mf := (unhide A1).rd.frozen 2
  obtain ⟨r2, g2⟩ := (unhide A1).rd.setOp (op + 1)
  rw [show ((op + 1 : Nat) : Int) = (op : Int) + 1 by omega] at r2 g2
  have A2 := hide ((unhide A1).step2 g2 r2)
  obtain ⟨W2, hW2⟩ : ∃ W2, W1.setCell ⟨g, 2, none⟩ (.int .i64 ((op : Int) + 1)) = W2 := ⟨_, rfl⟩
  rw [hW2] at A2
  have HC := hide (HA W2 B g (a + 1) (unhide A2).rd hal trivial)
  obtain ⟨r, hr⟩ : ∃ r, grpR s (d + 1) a = r := ⟨_, rfl⟩
  rw [hr]
  have HR : Hid ((∀ x b, altR s (grpR s d) (a + 1) = .ok x b → r = if pkB s b = 41 then .ok x (b + 1) else .err 3 b) ∧ (∀ e b, altR s (grpR s d) (a + 1) = .err e b → r = .err e b)) := hide ⟨fun x b h => by rw [← hr, grpR, h], fun e b h => by rw [← hr, grpR, h]⟩
  obtain ⟨q, hq⟩ : ∃ q, altR s (grpR s d) (a + 1) = q := ⟨_, rfl⟩
  rw [hq] at HR HC hgd
  have hb20 : ((op : Int) == 20) = false := by rw [beq_eq_false_iff_ne]; omega
  clear r1 g1 r2 g2 h hp hr hq
  go_enter Try.func48, Try.ntmps48
  go_wp2_with fail
  clear hW0 hW1 hW2 l0 l1 l2 lf m0 m1 m2 mf hb20 A0 A1
  refine (unhide HC).mono ?_
  rintro e w3 ⟨rv, z, rfl, g3, V3, r3⟩
  have A3 := hide ((unhide A2).step g3 r3)
  obtain ⟨k, ⟨s1, s2, s3, s4⟩, o, n, c, rfl⟩ := V3.form
  have A4 := hide (At1.start (unhide A3) k ⟨s1, s2, s3, s4⟩ (.slice o n c))
  have V3' := hide ((unhide A2).up V3)
  dsimp only at A4
  obtain ⟨gb, hgb⟩ : ∃ gb, w3.heap.size = gb := ⟨_, rfl⟩
  obtain ⟨W4, hW4⟩ : ∃ W4, w3.alloc (.cells #[.int .i64 k, .int .u64 s1, .int .u64 s2, .int .u64 s3, .int .u64 s4, .slice o n c] 27) = W4 := ⟨_, rfl⟩
  have V4 : Hid (RsP (fun q => w.heap.size < q) W4 q (.agg #[.int .i64 k, .int .u64 s1, .int .u64 s2, .int .u64 s3, .int .u64 s4, .slice o n c]) z) := hide (by
    rw [← hW4]
    have bb := (Below.refl _ w3).alloc (Nat.le_refl _) (.cells #[.int .i64 k, .int .u64 s1, .int .u64 s2, .int .u64 s3, .int .u64 s4, .slice o n c] 27)
    exact (unhide V3').move bb.size fun j hj hl => ⟨bb.block j hl, hj⟩)
  rw [hW4, hgb] at A4
  clear g3 r3 V3 V3' A3 A2 HC HA
  cases q with
  | err e b =>
    have hz : z ≠ 0 := by have := unhide V4; rw [this.1]; exact this.2.1
    have hzb : (z == 0) = false := by rw [beq_eq_false_iff_ne]; exact hz
    have HE : Hid (r = .err z b) := hide (by rw [(unhide HR).2 e b rfl, (unhide V4).1])
    have A5 : Hid (At1 w W4 B g s b (op + 1) gb k ⟨s1, s2, s3, s4⟩ (.slice o n c)) := A4
    have HZ := hide hz
    clear A4 V4 HR hgd hz
    have A5' := hide (unhide A5)
    obtain ⟨l0, l1, l2⟩ := (unhide A5').rd.cells
    have lf := (unhide A5').rd.frozen 2
    obtain ⟨r6, g6⟩ := (unhide A5').rd.setOp op
    have A6 : Hid (At1 w (W4.setCell ⟨g, 2, none⟩ (.int .i64 (op : Int))) B g s r.at_ op gb k ⟨s1, s2, s3, s4⟩ (.slice o n c)) := hide (by rw [unhide HE]; exact (unhide A5').step2 g6 r6)
    have V6 : Hid (RsP (fun q => w.heap.size < q) (W4.setCell ⟨g, 2, none⟩ (.int .i64 (op : Int))) r (.agg #[.int .i64 k, .int .u64 s1, .int .u64 s2, .int .u64 s3, .int .u64 s4, .slice o n c]) z) := hide (by
      rw [unhide HE]; exact err_ok (unhide HZ))
    obtain ⟨W6, hW6⟩ : ∃ W6, World.setCell W4 ⟨g, 2, none⟩ (.int .i64 (op : Int)) = W6 := ⟨_, rfl⟩
    rw [hW6] at A6 V6
    have hwo : IntKind.i64.wrap (((op + 1 : Nat) : Int) - 1) = (op : Int) := by rw [IntKind.wrap_i64]; omega
    have hwo' : ((op : Int) + 1 - 1) = (op : Int) := by omega
    clear r6 g6 A5 A5'
    obtain ⟨u0, u1, u2, u3, u4, u5⟩ := (unhide A6).box.cells
    dsimp only at u1 u2 u3 u4
    have hg6 := (unhide A6).gsz
    have hg7 := (unhide A6).hgb
    obtain ⟨y0, y1, y2, y3, y4, y5⟩ := (unhide A6).toAt0.rb.cells
    obtain ⟨h0, h1, h2, h3, h4, h5⟩ := (unhide A6).toAt0.rb.frozen
    dsimp only at y1 y2 y3 y4
    have F := hide ((unhide A6).toAt0.fin (unhide V6))
    go_wp2_with fail
    (try simp only [Exit.inBlock, Exit.then])
    refine bodyPost_ret_by (v := .tuple #[.agg #[.int .i64 k, .int .u64 s1, .int .u64 s2, .int .u64 s3, .int .u64 s4, .slice o n c], .int .i64 z]) ?_ rfl ⟨_, _, rfl, (unhide F).2.1, (unhide F).2.2.2, (unhide F).2.2.1⟩
    exact results_ct (ty := 27) rfl _ _ w.heap.size _ rfl (unhide F).1 _ rfl
  | ok x b =>
    have hb : b ≤ s.size := hgd.2
    obtain rfl : z = 0 := (unhide V4).1
    have HTK := hide (take_any W4 B g s b (op + 1) 41 (unhide A4).rd hs hb)
    by_cases k41 : pkB s b = 41
    · have HE : Hid (r = .ok x (b + 1)) := hide (by rw [(unhide HR).1 x b rfl, if_pos k41])
      rw [decide_eq_true k41, (tk_dec s b 41).1 (decide_eq_true k41)] at HTK
      clear k41 HR hgd
      go_wp2_with fail
      clear hW4 hgb
      refine (unhide HTK).mono ?_
      rintro e w5 ⟨rfl, g5, r5⟩
      have A5 := hide ((unhide A4).step g5 r5)
      have V5 := hide ((unhide V4).2.grown g5 (N' := fun q => w.heap.size < q) fun j hj _ => ⟨fun e => by have := (unhide A4).lt; cases e; omega, hj⟩)
      clear g5 r5 HTK A4 V4
      have A5' := hide (unhide A5)
      obtain ⟨l0, l1, l2⟩ := (unhide A5').rd.cells
      have lf := (unhide A5').rd.frozen 2
      obtain ⟨r6, g6⟩ := (unhide A5').rd.setOp op
      have A6 : Hid (At1 w (w5.setCell ⟨g, 2, none⟩ (.int .i64 (op : Int))) B g s r.at_ op gb k ⟨s1, s2, s3, s4⟩ (.slice o n c)) := hide (by rw [unhide HE]; exact (unhide A5').step2 g6 r6)
      have V6 : Hid (RsP (fun q => w.heap.size < q) (w5.setCell ⟨g, 2, none⟩ (.int .i64 (op : Int))) r (.agg #[.int .i64 k, .int .u64 s1, .int .u64 s2, .int .u64 s3, .int .u64 s4, .slice o n c]) 0) := hide (by
        rw [unhide HE]; exact ⟨rfl, (unhide V5).grown g6 fun j hj _ => ⟨fun e => by have := (unhide A5').lt; cases e; omega, hj⟩⟩)
      obtain ⟨W6, hW6⟩ : ∃ W6, World.setCell w5 ⟨g, 2, none⟩ (.int .i64 (op : Int)) = W6 := ⟨_, rfl⟩
      rw [hW6] at A6 V6
      have hwo : IntKind.i64.wrap (((op + 1 : Nat) : Int) - 1) = (op : Int) := by rw [IntKind.wrap_i64]; omega
      have hwo' : ((op : Int) + 1 - 1) = (op : Int) := by omega
      clear r6 g6 A5 A5'
      obtain ⟨u0, u1, u2, u3, u4, u5⟩ := (unhide A6).box.cells
      dsimp only at u1 u2 u3 u4
      have hg6 := (unhide A6).gsz
      have hg7 := (unhide A6).hgb
      obtain ⟨y0, y1, y2, y3, y4, y5⟩ := (unhide A6).toAt0.rb.cells
      obtain ⟨h0, h1, h2, h3, h4, h5⟩ := (unhide A6).toAt0.rb.frozen
      dsimp only at y1 y2 y3 y4
      have F := hide ((unhide A6).toAt0.fin (unhide V6))
      go_wp2_with fail
      (try simp only [Exit.inBlock, Exit.then])
      refine bodyPost_ret_by (v := .tuple #[.agg #[.int .i64 k, .int .u64 s1, .int .u64 s2, .int .u64 s3, .int .u64 s4, .slice o n c], .int .i64 0]) ?_ rfl ⟨_, _, rfl, (unhide F).2.1, (unhide F).2.2.2, (unhide F).2.2.1⟩
      exact results_ct (ty := 27) rfl _ _ w.heap.size _ rfl (unhide F).1 _ rfl
    · have HE : Hid (r = .err 3 b) := hide (by rw [(unhide HR).1 x b rfl, if_neg k41])
      rw [decide_eq_false k41, (tk_dec s b 41).2 (decide_eq_false k41)] at HTK
      clear k41 HR hgd
      go_wp2_with fail
      clear hW4 hgb
      refine (unhide HTK).mono ?_
      rintro e w5 ⟨rfl, g5, r5⟩
      have A5 := hide ((unhide A4).step g5 r5)
      clear g5 r5 HTK A4 V4
      have A5' := hide (unhide A5)
      obtain ⟨l0, l1, l2⟩ := (unhide A5').rd.cells
      have lf := (unhide A5').rd.frozen 2
      obtain ⟨r6, g6⟩ := (unhide A5').rd.setOp op
      have A6 : Hid (At1 w (w5.setCell ⟨g, 2, none⟩ (.int .i64 (op : Int))) B g s r.at_ op gb k ⟨s1, s2, s3, s4⟩ (.slice o n c)) := hide (by rw [unhide HE]; exact (unhide A5').step2 g6 r6)
      have V6 : Hid (RsP (fun q => w.heap.size < q) (w5.setCell ⟨g, 2, none⟩ (.int .i64 (op : Int))) r (.agg #[.int .i64 k, .int .u64 s1, .int .u64 s2, .int .u64 s3, .int .u64 s4, .slice o n c]) 3) := hide (by
        rw [unhide HE]; exact err_ok (by decide))
      obtain ⟨W6, hW6⟩ : ∃ W6, World.setCell w5 ⟨g, 2, none⟩ (.int .i64 (op : Int)) = W6 := ⟨_, rfl⟩
      rw [hW6] at A6 V6
      have hwo : IntKind.i64.wrap (((op + 1 : Nat) : Int) - 1) = (op : Int) := by rw [IntKind.wrap_i64]; omega
      have hwo' : ((op : Int) + 1 - 1) = (op : Int) := by omega
      clear r6 g6 A5 A5'
      obtain ⟨u0, u1, u2, u3, u4, u5⟩ := (unhide A6).box.cells
      dsimp only at u1 u2 u3 u4
      have hg6 := (unhide A6).gsz
      have hg7 := (unhide A6).hgb
      obtain ⟨y0, y1, y2, y3, y4, y5⟩ := (unhide A6).toAt0.rb.cells
      obtain ⟨h0, h1, h2, h3, h4, h5⟩ := (unhide A6).toAt0.rb.frozen
      dsimp only at y1 y2 y3 y4
      have F := hide ((unhide A6).toAt0.fin (unhide V6))
      go_wp2_with fail
      (try simp only [Exit.inBlock, Exit.then])
      refine bodyPost_ret_by (v := .tuple #[.agg #[.int .i64 k, .int .u64 s1, .int .u64 s2, .int .u64 s3, .int .u64 s4, .slice o n c], .int .i64 3]) ?_ rfl ⟨_, _, rfl, (unhide F).2.1, (unhide F).2.2.2, (unhide F).2.2.1⟩
      exact results_ct (ty := 27) rfl _ _ w.heap.size _ rfl (unhide F).1 _ rfl
theorem group_any (s : ByteArray) (hs : s.size ≤ 100000) (d : Nat) (hd : d ≤ 20) : RdC 48 s (20 - d) (grpR s d) (fun a => pkB s a = 40) := by
  induction d with
  | zero => exact group_deep s hs
  | succ d ih =>
    have HG := ih (by omega)
    have H := alt_any s hs _ _ (grpR_good s d) (row_any s hs _ _ (grpR_good s d) (piece_any s hs _ _ (grpR_good s d) (atom_any s hs _ _ HG)))
    rw [show 20 - d = 20 - (d + 1) + 1 by omega] at H
    exact group_step s hs _ d (by omega) H
theorem altAll_any (s : ByteArray) (hs : s.size ≤ 100000) : RdC 14 s 0 (altR s (grpR s 20)) (fun _ => True) := by
  have HG := group_any s hs 20 (Nat.le_refl _)
  exact alt_any s hs _ _ (grpR_good s 20) (row_any s hs _ _ (grpR_good s 20) (piece_any s hs _ _ (grpR_good s 20) (atom_any s hs _ _ HG)))
end Go.Proofs.Ytjecopdbcaojcaa
