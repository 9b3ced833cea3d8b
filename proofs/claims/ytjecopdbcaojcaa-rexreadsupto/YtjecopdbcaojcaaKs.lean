/- The program's reader: a piece. -/
import Derived.Test.YtjecopdbcaojcaaKr
import Derived.Deep.RegionLaw
namespace Go.Proofs.Ytjecopdbcaojcaa
open Go.RowKit Kb
set_option linter.unusedVariables false
set_option maxRecDepth 20000

/-- .. with a variable of its own that holds an expression -/
structure At1 (w wr : World) (B g : Nat) (s : ByteArray) (b op gb : Nat) (k : Int) (sx : Se) (e : Value) : Prop extends At0 w wr B g s b op where
  box : RX wr w.heap.size gb k sx e
  hgb : w.heap.size < gb
def NB (w : World) (gb : Nat) : Nat → Prop := fun q => w.heap.size < q ∧ q ≠ gb
section
variable {w wr w' : World} {B g : Nat} {s : ByteArray} {a b b' op gb : Nat} {k : Int} {sx : Se} {e : Value}
theorem At1.step (A : At1 w wr B g s b op gb k sx e) (g' : wr.grownBy w' (some g)) (r : Rd w' B g s b' op) : At1 w w' B g s b' op gb k sx e :=
  ⟨A.toAt0.step g' r, A.box.kept g' (fun e => by have := A.lt; have := A.hgb; cases e; omega), A.hgb⟩
theorem At1.below (A : At1 w wr B g s b op gb k sx e) (bb : Below wr.heap.size wr w') : At1 w w' B g s b op gb k sx e := A.step (grown_below' bb _) (A.rd.below bb)
theorem At1.alloc (A : At1 w wr B g s b op gb k sx e) (o : Obj) : At1 w (wr.alloc o) B g s b op gb k sx e := A.below ((Below.refl _ _).alloc (Nat.le_refl _) o)
theorem At1.drew (A : At1 w wr B g s b op gb k sx e) : At1 w wr.drew B g s b op gb k sx e := A.below (Below.refl _ _).drew
theorem At1.start (A : At0 w wr B g s b op) (k : Int) (sx : Se) (e : Value) : At1 w (wr.alloc (.cells #[.int .i64 k, .int .u64 sx.a, .int .u64 sx.b, .int .u64 sx.c, .int .u64 sx.d, e] 27)) B g s b op wr.heap.size k sx e :=
  ⟨A.alloc _, RX.new wr (Nat.le_of_lt A.sz) k sx e, A.sz⟩
theorem At1.put (A : At1 w wr B g s b op gb k sx e) (k' s1 s2 s3 s4 : Int) (e' : Value) : At1 w (put6 wr gb k' s1 s2 s3 s4 e') B g s b op gb k' ⟨s1, s2, s3, s4⟩ e' ∧ wr.grownBy (put6 wr gb k' s1 s2 s3 s4 e') (some gb) := by
  obtain ⟨p1, p2⟩ := A.box.put k' s1 s2 s3 s4 e'
  have h1 := A.hgb
  have h2 := A.lt
  refine ⟨⟨⟨A.rb.kept p2 (fun e => by cases e; omega), World.grownBy.andThen A.gr p2 (fun j hj => by cases hj; exact .inl (Nat.le_of_lt h1)), World.ownsRow.kept A.rd p2 (.inr (by simp [Value.ownBlock]; omega)), h2⟩, p1, h1⟩, p2⟩
theorem At1.gsz (A : At1 w wr B g s b op gb k sx e) : gb < wr.heap.size := A.box.lt.2
theorem NBstep {v : Value} {x : Rx} (V : RexN (NB w gb) wr v x) (g' : wr.grownBy w' (some g)) (hg : g < w.heap.size) : RexN (NB w gb) w' v x := V.grown g' fun q hq _ => ⟨fun e => by cases e; have := hq.1; omega, hq⟩
theorem NBbelow {v : Value} {x : Rx} (V : RexN (NB w gb) wr v x) (bb : Below wr.heap.size wr w') : RexN (NB w gb) w' v x := V.move bb.size fun q hq hl => ⟨bb.block q hl, hq⟩
theorem NBput {v : Value} {x : Rx} (V : RexN (NB w gb) wr v x) (g' : wr.grownBy w' (some gb)) : RexN (NB w gb) w' v x := V.grown g' fun q hq _ => ⟨fun e => by cases e; exact hq.2 rfl, hq⟩
theorem NBalloc {v : Value} {x : Rx} (V : RexN (NB w gb) wr v x) (o : Obj) : RexN (NB w gb) (wr.alloc o) v x := NBbelow V ((Below.refl _ _).alloc (Nat.le_refl _) o)
theorem heap_ofd {o : Obj} (bb : Below (wr.alloc o).drew.heap.size (wr.alloc o).drew w') : w'.heap[wr.heap.size]? = some o := by rw [bb.block _ (by show _ < (wr.alloc o).heap.size; simp)]; exact heap_alloc_new wr o
theorem heap_of {o : Obj} (bb : Below (wr.alloc o).heap.size (wr.alloc o) w') : w'.heap[wr.heap.size]? = some o := by rw [bb.block _ (by simp)]; exact heap_alloc_new wr o
end
theorem postR_42 {s : ByteArray} {x : Ex} {b : Nat} (h : pkB s b = 42) : postR s x b = postR s (.star x) (b + 1) := by rw [postR, dif_pos h]
theorem postR_43 {s : ByteArray} {x : Ex} {b : Nat} (h : pkB s b = 43) : postR s x b = postR s (.cat x (.star x)) (b + 1) := by rw [postR, dif_neg (by rw [h]; decide), dif_pos h]
theorem postR_63 {s : ByteArray} {x : Ex} {b : Nat} (h : pkB s b = 63) : postR s x b = postR s (.alt x .emp) (b + 1) := by rw [postR, dif_neg (by rw [h]; decide), dif_neg (by rw [h]; decide), dif_pos h]
theorem postR_no {s : ByteArray} {x : Ex} {b : Nat} (h1 : pkB s b ≠ 42) (h2 : pkB s b ≠ 43) (h3 : pkB s b ≠ 63) : postR s x b = (x, b) := by rw [postR, dif_neg h1, dif_neg h2, dif_neg h3]
set_option maxHeartbeats 16000000 in
theorem piece_any (s : ByteArray) (hs : s.size ≤ 100000) (op : Nat) (grp : Nat → Rs) (hgood : GoodG s grp) (HA : RdC 44 s op (atomR s grp) (fun _ => True)) : RdC 39 s op (pieceR s grp) (fun _ => True) := by
  intro w B g a h ha _
  have A0 := hide (At0.start h)
  have HC := hide (HA _ B g a (unhide A0).rd ha trivial)
  have hgd := atomR_le hgood a ha
  obtain ⟨r, hr⟩ : ∃ r, pieceR s grp a = r := ⟨_, rfl⟩
  rw [hr]
  have HR : Hid ((∀ x b, atomR s grp a = .ok x b → r = .ok (postR s x b).1 (postR s x b).2) ∧ (∀ e b, atomR s grp a = .err e b → r = .err e b)) := hide ⟨fun x b h => by rw [← hr, pieceR, h], fun e b h => by rw [← hr, pieceR, h]⟩
  obtain ⟨q, hq⟩ : ∃ q, atomR s grp a = q := ⟨_, rfl⟩
  rw [hq] at HR HC hgd
  clear hr h hq HA
  go_enter Try.func39, Try.ntmps39
  go_wp2_with fail
  refine (unhide HC).mono ?_
  rintro e w2 ⟨rv, z, rfl, g2, V2, r2⟩
  have A2 := hide ((unhide A0).step g2 r2)
  have hsz2 := (unhide A2).sz
  obtain ⟨k, ⟨s1, s2, s3, s4⟩, o, n, c, rfl⟩ := V2.form
  have A3 := hide (At1.start (unhide A2) k ⟨s1, s2, s3, s4⟩ (.slice o n c))
  have HST : Hid (q.at_ ≤ s.size ∧ ((z = 0 ∧ ∃ x : Ex, RexN (NB w w2.heap.size) w2 (.agg #[.int .i64 k, .int .u64 s1, .int .u64 s2, .int .u64 s3, .int .u64 s4, .slice o n c]) x.rx ∧ r = .ok (postR s x q.at_).1 (postR s x q.at_).2) ∨ (z ≠ 0 ∧ r = .err z q.at_))) := hide (by
    cases q with
    | ok x b =>
      refine ⟨hgd.2, .inl ⟨V2.1, x, ?_, (unhide HR).1 x b rfl⟩⟩
      exact V2.2.move (Nat.le_refl _) fun j hj hl => ⟨rfl, by have := (unhide A0).sz; omega, by omega⟩
    | err e b => exact ⟨hgd, .inr ⟨by rw [V2.1]; exact V2.2.1, by rw [(unhide HR).2 e b rfl, V2.1]; rfl⟩⟩)
  dsimp only at A3
  obtain ⟨b0, hb0⟩ : ∃ b0, q.at_ = b0 := ⟨_, rfl⟩
  rw [hb0] at HST A3
  obtain ⟨gb, hgb⟩ : ∃ gb, w2.heap.size = gb := ⟨_, rfl⟩
  obtain ⟨W3, hW3⟩ : ∃ W3, w2.alloc (.cells #[.int .i64 k, .int .u64 s1, .int .u64 s2, .int .u64 s3, .int .u64 s4, .slice o n c] 27) = W3 := ⟨_, rfl⟩
  have HST2 : Hid (b0 ≤ s.size ∧ ((z = 0 ∧ ∃ x : Ex, RexN (NB w gb) W3 (.agg #[.int .i64 k, .int .u64 s1, .int .u64 s2, .int .u64 s3, .int .u64 s4, .slice o n c]) x.rx ∧ r = .ok (postR s x b0).1 (postR s x b0).2) ∨ (z ≠ 0 ∧ r = .err z b0))) := hide (by
    obtain ⟨h1, h2⟩ := unhide HST
    rw [hgb] at h2
    refine ⟨h1, ?_⟩
    rcases h2 with ⟨hz, x, hx, hrr⟩ | h2
    · exact .inl ⟨hz, x, by rw [← hW3]; exact NBalloc hx _, hrr⟩
    · exact .inr h2)
  rw [hW3, hgb] at A3
  clear HST g2 r2 V2 HC HR hb0 A0 A2 hgd
  go_wp2_with fail
  clear hW3 hgb hsz2
  go_loopw [] (fun wr => ∃ (b : Nat) (k s1 s2 s3 s4 : Int) (o : Option Addr) (n c : Nat), At1 w wr B g s b op gb k ⟨s1, s2, s3, s4⟩ (.slice o n c) ∧ b ≤ s.size ∧ ((z = 0 ∧ ∃ x : Ex, RexN (NB w gb) wr (.agg #[.int .i64 k, .int .u64 s1, .int .u64 s2, .int .u64 s3, .int .u64 s4, .slice o n c]) x.rx ∧ r = .ok (postR s x b).1 (postR s x b).2) ∨ (z ≠ 0 ∧ r = .err z b))) (fun wr => s.size + 1 - cellI wr g 1)
  case atStart => exact ⟨b0, k, s1, s2, s3, s4, o, n, c, unhide A3, unhide HST2⟩
  case round =>
    clear HST2 A3
    obtain ⟨b, k, s1, s2, s3, s4, o, n, c, hA, hb, hst⟩ := hrel
    have A := hide hA
    have HM0 : Hid (cellI wr g 1 = b) := hide hA.rd.cellI
    clear hA
    rcases hst with ⟨rfl, x, hx, hrr⟩ | ⟨hz, hrr⟩
    · have V := hide hx
      have HRR := hide hrr
      clear hx hrr
      by_cases k42 : pkB s b = 42
      · have hlt := pk_some k42 (by decide)
        go_wp2_with fail
        refine (take_any _ B g s b op 42 (unhide A).rd hs hb).mono ?_
        rintro e w3 ⟨rfl, g3, r3⟩
        rw [(tk_dec s b 42).1 (decide_eq_true k42)] at r3
        rw [decide_eq_true k42]
        have A3 := hide ((unhide A).step g3 r3)
        have V3 := hide (NBstep (unhide V) g3 (unhide A).lt)
        have HRR3 : Hid (r = .ok (postR s (.star x) (b + 1)).1 (postR s (.star x) (b + 1)).2) := hide (by rw [unhide HRR, postR_42 k42])
        clear g3 r3 A V HRR k42
        obtain ⟨y0, y1, y2, y3, y4, y5⟩ := (unhide A3).box.cells
        dsimp only at y1 y2 y3 y4
        have hg3 := (unhide A3).gsz
        go_wp2_with fail
        refine (nodeR_any 6 _ 1 1 _).mono ?_
        rintro e w4 ⟨rfl, b4⟩
        have A4 := hide (((unhide A3).alloc _).below b4)
        have V4 := hide (NBbelow (NBalloc (unhide V3) _) b4)
        have H4 := hide (heap_of b4)
        have V5 := hide (rexN_one (s := ⟨s1, s2, s3, s4⟩) (unhide V4) ⟨(unhide A3).sz, (by omega)⟩ (unhide H4) (k := 6) (by omega))
        clear b4 y0 y1 y2 y3 y4 y5 V3 V4 H4 A3
        obtain ⟨gk, hgk⟩ : ∃ gk, w3.heap.size = gk := ⟨_, rfl⟩
        rw [hgk] at V5 ⊢
        clear hgk hg3
        obtain ⟨y0, y1, y2, y3, y4, y5⟩ := (unhide A4).box.cells
        obtain ⟨h0, h1, h2, h3, h4, h5⟩ := (unhide A4).box.frozen
        dsimp only at y1 y2 y3 y4
        have hg4 := (unhide A4).gsz
        go_wp2_with fail
        obtain ⟨A6, p6⟩ := (unhide A4).put 6 0 0 0 0 (.slice (some ⟨gk, 0, none⟩) 1 1)
        refine ⟨⟨b + 1, 6, 0, 0, 0, 0, some ⟨gk, 0, none⟩, 1, 1, A6, by omega,   .inl ⟨by simp, .star x, NBput (unhide V5) p6, unhide HRR3⟩⟩, ?_⟩
        show s.size + 1 - cellI (put6 w4 gb 6 0 0 0 0 (.slice (some ⟨gk, 0, none⟩) 1 1)) g 1 < s.size + 1 - cellI wr g 1
        rw [A6.rd.cellI, unhide HM0]
        omega
      go_wp2_with fail
      refine (take_any _ B g s b op 42 (unhide A).rd hs hb).mono ?_
      rintro e w3 ⟨rfl, g3, r3⟩
      rw [(tk_dec s b 42).2 (decide_eq_false k42)] at r3
      rw [decide_eq_false k42]
      have A3 := hide ((unhide A).step g3 r3)
      have V3 := hide (NBstep (unhide V) g3 (unhide A).lt)
      clear g3 r3 A V
      have K42 := hide k42
      clear k42
      go_wp2_with fail
      by_cases k43 : pkB s b = 43
      · have hlt := pk_some k43 (by decide)
        refine (take_any _ B g s b op 43 (unhide A3).rd hs hb).mono ?_
        rintro e w4 ⟨rfl, g4, r4⟩
        rw [(tk_dec s b 43).1 (decide_eq_true k43)] at r4
        rw [decide_eq_true k43]
        have A4 := hide ((unhide A3).step g4 r4)
        have V4 := hide (NBstep (unhide V3) g4 (unhide A3).lt)
        clear g4 r4 A3 V3
        have HRR4 : Hid (r = .ok (postR s (.cat x (.star x)) (b + 1)).1 (postR s (.cat x (.star x)) (b + 1)).2) := hide (by rw [unhide HRR, postR_43 k43])
        clear HRR k43 K42
        obtain ⟨y0, y1, y2, y3, y4, y5⟩ := (unhide A4).box.cells
        dsimp only at y1 y2 y3 y4
        have hg4 := (unhide A4).gsz
        have hgd : gb ≠ w4.heap.size := Nat.ne_of_lt (unhide A4).gsz
        go_wp2_with fail
        go_region_law (first | (go_simp; go_at_call 29; have A5' := unhide A5; clear A5'; refine (nodeR_any _ _ _ _ _).mono ?_; rintro e w6 ⟨rfl, b6⟩; have A6 := hide (((unhide A5).alloc _).below b6); have V6 := hide (NBbelow (NBalloc (unhide V5) _) b6); have V6' := hide (NBbelow (NBalloc (unhide V5') _) b6); have H6 := hide (heap_of b6); have V7 := hide (rexN_two (s := ⟨s1, s2, s3, s4⟩) (s' := ⟨0, 0, 0, 0⟩) (unhide V6) (unhide V6') ⟨(unhide A5).sz, (Nat.ne_of_lt (unhide A5).gsz).symm⟩ (unhide H6) (k := 4) (by omega)); clear b6 y0 y1 y2 y3 y4 y5; obtain ⟨y0, y1, y2, y3, y4, y5⟩ := (unhide A6).box.cells; obtain ⟨h0, h1, h2, h3, h4, h5⟩ := (unhide A6).box.frozen; dsimp only at y1 y2 y3 y4; have hg6 := (unhide A6).gsz) | (go_simp; go_at_call 29; refine (nodeR_any _ _ _ _ _).mono ?_; rintro e w5 ⟨rfl, b5⟩; have A5 := hide ((((unhide A4).alloc _).drew).below b5); have V5 := hide (NBbelow (NBbelow (NBalloc (unhide V4) _) (Below.refl _ _).drew) b5); have H5 := hide (heap_ofd b5); have V5' := hide (rexN_one (s := ⟨s1, s2, s3, s4⟩) (unhide V5) ⟨(unhide A4).sz, hgd.symm⟩ (unhide H5) (k := 6) (by omega)); clear b5 y0 y1 y2 y3 y4 y5; obtain ⟨y0, y1, y2, y3, y4, y5⟩ := (unhide A5).box.cells; dsimp only at y1 y2 y3 y4; have hg5 := (unhide A5).gsz))
        all_goals (
          go_wp2_with fail
          obtain ⟨A8, p8⟩ := (unhide A6).put 4 0 0 0 0 (.slice (some ⟨w5.heap.size, 0, none⟩) 2 2)
          refine ⟨⟨b + 1, 4, 0, 0, 0, 0, some ⟨w5.heap.size, 0, none⟩, 2, 2, A8, by omega, .inl ⟨by simp, .cat x (.star x), NBput (unhide V7) p8, unhide HRR4⟩⟩, ?_⟩
          show s.size + 1 - cellI (put6 w6 gb 4 0 0 0 0 (.slice (some ⟨w5.heap.size, 0, none⟩) 2 2)) g 1 < s.size + 1 - cellI wr g 1
          rw [A8.rd.cellI, unhide HM0]
          omega)
      refine (take_any _ B g s b op 43 (unhide A3).rd hs hb).mono ?_
      rintro e w4 ⟨rfl, g4, r4⟩
      rw [(tk_dec s b 43).2 (decide_eq_false k43)] at r4
      rw [decide_eq_false k43]
      have A4 := hide ((unhide A3).step g4 r4)
      have V4 := hide (NBstep (unhide V3) g4 (unhide A3).lt)
      clear g4 r4 A3 V3
      have K43 := hide k43
      clear k43
      go_wp2_with fail
      by_cases k63 : pkB s b = 63
      · have hlt := pk_some k63 (by decide)
        refine (take_any _ B g s b op 63 (unhide A4).rd hs hb).mono ?_
        rintro e w5 ⟨rfl, g5, r5⟩
        rw [(tk_dec s b 63).1 (decide_eq_true k63)] at r5
        rw [decide_eq_true k63]
        have A5 := hide ((unhide A4).step g5 r5)
        have V5 := hide (NBstep (unhide V4) g5 (unhide A4).lt)
        clear g5 r5 A4 V4
        have HRR4 : Hid (r = .ok (postR s (.alt x .emp) (b + 1)).1 (postR s (.alt x .emp) (b + 1)).2) := hide (by rw [unhide HRR, postR_63 k63])
        clear HRR k63 K42 K43
        have Ad := hide (unhide A5).drew
        have Vd := hide (NBbelow (unhide V5) (Below.refl _ _).drew)
        obtain ⟨y0, y1, y2, y3, y4, y5⟩ := (unhide A5).box.cells
        dsimp only at y1 y2 y3 y4
        have hg4 := (unhide A5).gsz
        clear A5 V5
        go_wp2_with fail
        go_region_law (first | (go_simp; go_at_call 29; refine (nodeR_any 2 none 0 0 _).mono ?_; rintro e w6 ⟨rfl, b6⟩; have A6 := hide ((unhide Ad).below b6); have V6 := hide (NBbelow (unhide Vd) b6); clear b6 y0 y1 y2 y3 y4 y5; obtain ⟨y0, y1, y2, y3, y4, y5⟩ := (unhide A6).box.cells; dsimp only at y1 y2 y3 y4; have hg5 := (unhide A6).gsz) | (go_simp; go_at_call 29; refine (nodeR_any 5 _ 2 2 _).mono ?_; rintro e w7 ⟨rfl, b7⟩; have A7 := hide (((unhide A6).alloc _).below b7); have V7 := hide (NBbelow (NBalloc (unhide V6) _) b7); have H7 := hide (heap_of b7); have V8 := hide (rexN_two (s := ⟨s1, s2, s3, s4⟩) (s' := ⟨0, 0, 0, 0⟩) (unhide V7) (rexN_leaf (NB w gb) w7 2 ⟨0, 0, 0, 0⟩ (by omega) ⟨by simp, by simp, by simp, by simp⟩) ⟨(unhide A6).sz, (Nat.ne_of_lt (unhide A6).gsz).symm⟩ (unhide H7) (k := 5) (by omega)); clear b7 y0 y1 y2 y3 y4 y5; obtain ⟨y0, y1, y2, y3, y4, y5⟩ := (unhide A7).box.cells; obtain ⟨h0, h1, h2, h3, h4, h5⟩ := (unhide A7).box.frozen; dsimp only at y1 y2 y3 y4; have hg6 := (unhide A7).gsz))
        all_goals (
          go_wp2_with fail
          obtain ⟨A8, p8⟩ := (unhide A7).put 5 0 0 0 0 (.slice (some ⟨w6.heap.size, 0, none⟩) 2 2)
          refine ⟨⟨b + 1, 5, 0, 0, 0, 0, some ⟨w6.heap.size, 0, none⟩, 2, 2, A8, by omega, .inl ⟨by simp, .alt x .emp, NBput (unhide V8) p8, unhide HRR4⟩⟩, ?_⟩
          show s.size + 1 - cellI (put6 w7 gb 5 0 0 0 0 (.slice (some ⟨w6.heap.size, 0, none⟩) 2 2)) g 1 < s.size + 1 - cellI wr g 1
          rw [A8.rd.cellI, unhide HM0]
          omega)
      refine (take_any _ B g s b op 63 (unhide A4).rd hs hb).mono ?_
      rintro e w5 ⟨rfl, g5, r5⟩
      rw [(tk_dec s b 63).2 (decide_eq_false k63)] at r5
      rw [decide_eq_false k63]
      have A5 := hide ((unhide A4).step g5 r5)
      have V5 := hide (NBstep (unhide V4) g5 (unhide A4).lt)
      clear g5 r5 A4 V4
      have HE : Hid (r = .ok x b) := hide (by rw [unhide HRR, postR_no (unhide K42) (unhide K43) k63])
      clear HRR k63 K42 K43
      have V6 : Hid (RsP (fun q => w.heap.size < q) w5 r (.agg #[.int .i64 k, .int .u64 s1, .int .u64 s2, .int .u64 s3, .int .u64 s4, .slice o n c]) 0) := hide (by
        rw [unhide HE]; exact ⟨rfl, (unhide V5).mono fun q hq => hq.1⟩)
      have A6 : Hid (At1 w w5 B g s r.at_ op gb k ⟨s1, s2, s3, s4⟩ (.slice o n c)) := hide (by rw [unhide HE]; exact unhide A5)
      obtain ⟨u0, u1, u2, u3, u4, u5⟩ := (unhide A6).box.cells
      dsimp only at u1 u2 u3 u4
      have hg6 := (unhide A6).gsz
      have hg7 := (unhide A6).hgb
      clear A5 V5
      obtain ⟨y0, y1, y2, y3, y4, y5⟩ := (unhide A6).toAt0.rb.cells
      obtain ⟨h0, h1, h2, h3, h4, h5⟩ := (unhide A6).toAt0.rb.frozen
      dsimp only at y1 y2 y3 y4
      have F := hide ((unhide A6).toAt0.fin (unhide V6))
      go_wp2_with fail
      (try simp only [Exit.inBlock, Exit.then])
      refine bodyPost_ret_by (v := .tuple #[.agg #[.int .i64 k, .int .u64 s1, .int .u64 s2, .int .u64 s3, .int .u64 s4, .slice o n c], .int .i64 0]) ?_ rfl ⟨_, _, rfl, (unhide F).2.1, (unhide F).2.2.2, (unhide F).2.2.1⟩
      exact results_ct (ty := 27) rfl _ _ w.heap.size _ rfl (unhide F).1 _ rfl
    · have hzb : (z == 0) = false := by rw [beq_eq_false_iff_ne]; exact hz
      have V6 : Hid (RsP (fun q => w.heap.size < q) wr r (.agg #[.int .i64 k, .int .u64 s1, .int .u64 s2, .int .u64 s3, .int .u64 s4, .slice o n c]) z) := hide (by
        rw [hrr]; exact err_ok hz)
      have A6 : Hid (At1 w wr B g s r.at_ op gb k ⟨s1, s2, s3, s4⟩ (.slice o n c)) := hide (by rw [hrr]; exact unhide A)
      obtain ⟨u0, u1, u2, u3, u4, u5⟩ := (unhide A6).box.cells
      dsimp only at u1 u2 u3 u4
      have hg6 := (unhide A6).gsz
      have hg7 := (unhide A6).hgb
      clear A hz hrr
      obtain ⟨y0, y1, y2, y3, y4, y5⟩ := (unhide A6).toAt0.rb.cells
      obtain ⟨h0, h1, h2, h3, h4, h5⟩ := (unhide A6).toAt0.rb.frozen
      dsimp only at y1 y2 y3 y4
      have F := hide ((unhide A6).toAt0.fin (unhide V6))
      go_wp2_with fail
      (try simp only [Exit.inBlock, Exit.then])
      refine bodyPost_ret_by (v := .tuple #[.agg #[.int .i64 k, .int .u64 s1, .int .u64 s2, .int .u64 s3, .int .u64 s4, .slice o n c], .int .i64 z]) ?_ rfl ⟨_, _, rfl, (unhide F).2.1, (unhide F).2.2.2, (unhide F).2.2.1⟩
      exact results_ct (ty := 27) rfl _ _ w.heap.size _ rfl (unhide F).1 _ rfl
end Go.Proofs.Ytjecopdbcaojcaa
