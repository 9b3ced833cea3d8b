/- The program's reader: an atom. -/
import Derived.Test.YtjecopdbcaojcaaKq
namespace Go.Proofs.Ytjecopdbcaojcaa
open Go.RowKit Kb
set_option linter.unusedVariables false
set_option maxRecDepth 20000

/-- where a function of the reader stands: the variable of its result, and the reader -/
structure At0 (w wr : World) (B g : Nat) (s : ByteArray) (b op : Nat) : Prop where
  rb : RX wr w.heap.size w.heap.size 0 ⟨0, 0, 0, 0⟩ (.slice none 0 0)
  gr : w.grownBy wr (some g)
  rd : Rd wr B g s b op
  lt : g < w.heap.size
section
variable {w wr w' : World} {B g : Nat} {s : ByteArray} {a b b' op : Nat}
theorem At0.start (h : Rd w B g s a op) : At0 w (w.alloc (.cells #[.int .i64 0, .int .u64 0, .int .u64 0, .int .u64 0, .int .u64 0, .slice none 0 0] 27)) B g s a op :=
  ⟨RX.new w (Nat.le_refl _) 0 ⟨0, 0, 0, 0⟩ _, World.grownBy_alloc _ _ _, h.below ((Below.refl _ _).alloc (Nat.le_refl _) _), h.lt.2⟩
theorem At0.step (A : At0 w wr B g s b op) (g' : wr.grownBy w' (some g)) (r : Rd w' B g s b' op) : At0 w w' B g s b' op :=
  ⟨A.rb.kept g' (fun e => by have := A.lt; cases e; omega), A.gr.trans g', r, A.lt⟩
theorem At0.below (A : At0 w wr B g s b op) (bb : Below wr.heap.size wr w') : At0 w w' B g s b op := A.step (grown_below' bb _) (A.rd.below bb)
theorem At0.sz (A : At0 w wr B g s b op) : w.heap.size < wr.heap.size := A.rb.lt.2
theorem At0.alloc (A : At0 w wr B g s b op) (o : Obj) : At0 w (wr.alloc o) B g s b op := A.below ((Below.refl _ _).alloc (Nat.le_refl _) o)
theorem At0.fin {r : Rs} {k s1 s2 s3 s4 : Int} {o : Option Addr} {n c : Nat} {z : Int} (A : At0 w wr B g s b op) (V : RsP (fun q => w.heap.size < q) wr r (.agg #[.int .i64 k, .int .u64 s1, .int .u64 s2, .int .u64 s3, .int .u64 s4, .slice o n c]) z) :
    (loadVar 27 ⟨w.heap.size, 0, none⟩).run Try.prog (put6 wr w.heap.size k s1 s2 s3 s4 (.slice o n c)) = .ok (.agg #[.int .i64 k, .int .u64 s1, .int .u64 s2, .int .u64 s3, .int .u64 s4, .slice o n c]) (put6 wr w.heap.size k s1 s2 s3 s4 (.slice o n c)) ∧
    w.grownBy (put6 wr w.heap.size k s1 s2 s3 s4 (.slice o n c)) (some g) ∧ Rd (put6 wr w.heap.size k s1 s2 s3 s4 (.slice o n c)) B g s b op ∧ RsP (fun q => w.heap.size ≤ q) (put6 wr w.heap.size k s1 s2 s3 s4 (.slice o n c)) r (.agg #[.int .i64 k, .int .u64 s1, .int .u64 s2, .int .u64 s3, .int .u64 s4, .slice o n c]) z := fin_rex A.rb A.gr A.rd A.lt V
theorem At0.up {r : Rs} {rv : Value} {z : Int} {w2 : World} (A : At0 w wr B g s b op) (V : RsP (fun q => wr.heap.size ≤ q) w2 r rv z) : RsP (fun q => w.heap.size < q) w2 r rv z := V.move (Nat.le_refl _) fun k hk _ => ⟨rfl, Nat.lt_of_lt_of_le A.sz hk⟩
end
/-- what a function of the reader does -/
def RdC (f : FuncId) (s : ByteArray) (op : Nat) (R : Nat → Rs) (pre : Nat → Prop) : Prop := ∀ (w : World) (B g a : Nat), Rd w B g s a op → a ≤ s.size → pre a →
  Calls Try.prog f #[.pointer (some ⟨g, 0, none⟩)] w fun e w' => ∃ rv z, e = .returned (.tuple #[rv, .int .i64 z]) ∧ w.grownBy w' (some g) ∧ RsP (fun q => w.heap.size ≤ q) w' (R a) rv z ∧ Rd w' B g s (R a).at_ op
theorem byte_ok {N : Nat → Prop} {w : World} {t : Se} {p : Nat → Bool} {b : Nat} (ft : FitS t) (h : ∀ j, j < 256 → bit t j = p j) : RsP N w (.ok (.byte (setOf p)) b) (.agg #[.int .i64 3, .int .u64 t.a, .int .u64 t.b, .int .u64 t.c, .int .u64 t.d, .slice none 0 0]) 0 := by
  rw [← setOf_of ft h]
  exact ⟨rfl, rexN_leaf N w 3 t (by omega) ft⟩
theorem leaf_ok {N : Nat → Prop} {w : World} {x : Ex} {k : Int} {b : Nat} (hx : x.rx = .mk k noSet []) (hk : 1 ≤ k ∧ k ≤ 8) : RsP N w (.ok x b) (.agg #[.int .i64 k, .int .u64 0, .int .u64 0, .int .u64 0, .int .u64 0, .slice none 0 0]) 0 := by
  refine ⟨rfl, ?_⟩
  rw [hx]
  exact rexN_leaf N w k noSet hk ⟨by simp [noSet], by simp [noSet], by simp [noSet], by simp [noSet]⟩
theorem err_ok {N : Nat → Prop} {w : World} {e : Int} {k s1 s2 s3 s4 : Int} {o : Option Addr} {n c b : Nat} (he : e ≠ 0) : RsP N w (.err e b) (.agg #[.int .i64 k, .int .u64 s1, .int .u64 s2, .int .u64 s3, .int .u64 s4, .slice o n c]) e := ⟨rfl, he, k, ⟨s1, s2, s3, s4⟩, o, n, c, rfl⟩
theorem tk_dec (s : ByteArray) (a : Nat) (c : UInt8) : (decide (pkB s a = c) = true → tkA s a c = a + 1) ∧ (decide (pkB s a = c) = false → tkA s a c = a) := by
  unfold tkA
  constructor
  · intro h; rw [if_pos (of_decide_eq_true h)]
  · intro h; rw [if_neg (of_decide_eq_false h)]
set_option maxHeartbeats 8000000 in
theorem atom_any (s : ByteArray) (hs : s.size ≤ 100000) (op : Nat) (grp : Nat → Rs) (HG : RdC 48 s op grp (fun a => pkB s a = 40)) : RdC 44 s op (atomR s grp) (fun _ => True) := by
  intro w B g a h ha _
  have A0 := hide (At0.start h)
  obtain ⟨r, hr⟩ : ∃ r, atomR s grp a = r := ⟨_, rfl⟩
  rw [hr]
  have HR : Hid (atomR s grp a = r) := hide hr
  have HPK := hide (peekR_any _ B g s a op (unhide A0).rd hs ha)
  clear hr h
  have q40 := pk_beq s a 40
  rw [show ((40 : UInt8).toNat : Int) = 40 from rfl] at q40
  go_enter Try.func44, Try.ntmps44
  go_wp2_with fail
  refine (unhide HPK).mono ?_
  rintro e w1 ⟨rfl, b1⟩
  have A1 := hide ((unhide A0).below b1)
  clear b1 A0 HPK
  by_cases k40 : pkB s a = 40
  · rw [decide_eq_true k40] at q40
    have HRG : Hid (r = grp a) := hide (by rw [← unhide HR, atomR, if_pos k40])
    have HC := hide (HG w1 B g a (unhide A1).rd ha k40)
    obtain ⟨pb, hpb⟩ : ∃ pb, pkB s a = pb := ⟨_, rfl⟩
    rw [hpb] at q40 ⊢
    rw [← unhide HRG] at HC
    clear hpb k40 HR HG
    go_wp2_with fail
    refine (unhide HC).mono ?_
    rintro e w2 ⟨rv, z, rfl, g2, V2, r2⟩
    have A2 := hide ((unhide A1).step g2 r2)
    have V2' := hide ((unhide A1).up V2)
    obtain ⟨k, ⟨s1, s2, s3, s4⟩, o, n, c, rfl⟩ := V2.form
    clear g2 r2 V2 A1 HC
    dsimp only at *
    obtain ⟨y0, y1, y2, y3, y4, y5⟩ := (unhide A2).rb.cells
    obtain ⟨h0, h1, h2, h3, h4, h5⟩ := (unhide A2).rb.frozen
    dsimp only at y1 y2 y3 y4
    have F := hide ((unhide A2).fin (unhide V2'))
    go_wp2_with fail
    (try simp only [Exit.inBlock, Exit.then])
    refine bodyPost_ret_by (v := .tuple #[.agg #[.int .i64 k, .int .u64 s1, .int .u64 s2, .int .u64 s3, .int .u64 s4, .slice o n c], .int .i64 z]) ?_ rfl ⟨_, _, rfl, (unhide F).2.1, (unhide F).2.2.2, (unhide F).2.2.1⟩
    exact results_ct (ty := 27) rfl _ _ w.heap.size _ rfl (unhide F).1 _ rfl
  rw [decide_eq_false k40] at q40
  obtain ⟨pb, hpb⟩ : ∃ pb, pkB s a = pb := ⟨_, rfl⟩
  have q40' : ((pb.toNat : Int) == 40) = false := by rw [← hpb]; exact q40
  have HRA : Hid (r = atomR s grp a) := hide (unhide HR).symm
  unfold atomR at HRA
  rw [if_neg k40] at HRA
  rw [hpb]
  have HPB := hide hpb
  clear q40 hpb HR HG k40
  go_wp2_with fail
  clear q40'
  by_cases k91 : pkB s a = 91
  · rw [if_pos k91] at HRA
    refine (take_any _ B g s a op 91 (unhide A1).rd hs ha).mono ?_
    rintro e w2 ⟨rfl, g2, r2⟩
    rw [(tk_dec s a 91).1 (decide_eq_true k91)] at r2
    rw [decide_eq_true k91]
    have A2 := hide ((unhide A1).step g2 r2)
    clear g2 r2 A1
    have hal := pk_some k91 (by decide)
    have hil := itemsR_le s (a + 1) (by omega)
    have HIT := hide (items_any' _ B g s (a + 1) op (unhide A2).rd hs (by omega))
    obtain ⟨⟨o1, b1⟩, ho1⟩ : ∃ z, itemsR s (a + 1) = z := ⟨_, rfl⟩
    rw [ho1] at HRA HIT
    clear k91 ho1 hil
    go_wp2_with fail
    refine (unhide HIT).mono ?_
    rintro e w3 ⟨t, z, rfl, ft, g3, hip, r3⟩
    have A3 := hide ((unhide A2).step g3 r3)
    have V3 : Hid (RsP (fun q => w.heap.size < q) w3 r (.agg #[.int .i64 3, .int .u64 t.a, .int .u64 t.b, .int .u64 t.c, .int .u64 t.d, .slice none 0 0]) z ∧ r.at_ = b1) := hide (by
      rw [unhide HRA]
      cases o1 with
      | none => rw [hip.2 rfl]; exact ⟨err_ok (by decide), rfl⟩
      | some p => rw [(hip.1 p rfl).1]; exact ⟨byte_ok ft (hip.1 p rfl).2, rfl⟩)
    have A4 : Hid (At0 w w3 B g s r.at_ op) := hide (by rw [(unhide V3).2]; exact unhide A3)
    obtain ⟨s1, s2, s3, s4⟩ := t
    clear g3 r3 hip ft A3 A2 HIT HRA
    dsimp only at *
    obtain ⟨y0, y1, y2, y3, y4, y5⟩ := (unhide A4).rb.cells
    obtain ⟨h0, h1, h2, h3, h4, h5⟩ := (unhide A4).rb.frozen
    dsimp only at y1 y2 y3 y4
    have F := hide ((unhide A4).fin (unhide V3).1)
    go_wp2_with fail
    (try simp only [Exit.inBlock, Exit.then])
    refine bodyPost_ret_by (v := .tuple #[.agg #[.int .i64 3, .int .u64 s1, .int .u64 s2, .int .u64 s3, .int .u64 s4, .slice none 0 0], .int .i64 z]) ?_ rfl ⟨_, _, rfl, (unhide F).2.1, (unhide F).2.2.2, (unhide F).2.2.1⟩
    exact results_ct (ty := 27) rfl _ _ w.heap.size _ rfl (unhide F).1 _ rfl
  rw [if_neg k91] at HRA
  refine (take_any _ B g s a op 91 (unhide A1).rd hs ha).mono ?_
  rintro e w2 ⟨rfl, g2, r2⟩
  rw [(tk_dec s a 91).2 (decide_eq_false k91)] at r2
  rw [decide_eq_false k91]
  have A2 := hide ((unhide A1).step g2 r2)
  clear g2 r2 A1
  clear k91
  go_wp2_with fail
  by_cases k46 : pkB s a = 46
  · rw [if_pos k46] at HRA
    refine (take_any _ B g s a op 46 (unhide A2).rd hs ha).mono ?_
    rintro e w3 ⟨rfl, g3, r3⟩
    rw [(tk_dec s a 46).1 (decide_eq_true k46)] at r3
    rw [decide_eq_true k46]
    have A3 := hide ((unhide A2).step g3 r3)
    clear g3 r3 A2
    clear k46
    go_wp2_with fail
    refine (abn_any _).mono ?_
    rintro e w8 ⟨t, rfl, ft, ht, b8⟩
    have A8 := hide ((unhide A3).below b8)
    have FT := hide ft
    have HT := hide ht
    clear b8 ft ht
    unfold setV
    go_wp2_with fail
    refine (byteOf_any t _).mono ?_
    rintro e w9 ⟨rfl, b9⟩
    have A9 : Hid (At0 w w9 B g s r.at_ op) := hide (by rw [unhide HRA]; exact (unhide A8).below b9)
    have V9 : Hid (RsP (fun q => w.heap.size < q) w9 r (.agg #[.int .i64 3, .int .u64 t.a, .int .u64 t.b, .int .u64 t.c, .int .u64 t.d, .slice none 0 0]) 0) := hide (by
      rw [unhide HRA]; exact byte_ok (unhide FT) (unhide HT))
    obtain ⟨s1, s2, s3, s4⟩ := t
    clear b9 A8 HRA
    dsimp only at *
    obtain ⟨y0, y1, y2, y3, y4, y5⟩ := (unhide A9).rb.cells
    obtain ⟨h0, h1, h2, h3, h4, h5⟩ := (unhide A9).rb.frozen
    dsimp only at y1 y2 y3 y4
    have F := hide ((unhide A9).fin (unhide V9))
    go_wp2_with fail
    (try simp only [Exit.inBlock, Exit.then])
    refine bodyPost_ret_by (v := .tuple #[.agg #[.int .i64 3, .int .u64 s1, .int .u64 s2, .int .u64 s3, .int .u64 s4, .slice none 0 0], .int .i64 0]) ?_ rfl ⟨_, _, rfl, (unhide F).2.1, (unhide F).2.2.2, (unhide F).2.2.1⟩
    exact results_ct (ty := 27) rfl _ _ w.heap.size _ rfl (unhide F).1 _ rfl
  rw [if_neg k46] at HRA
  refine (take_any _ B g s a op 46 (unhide A2).rd hs ha).mono ?_
  rintro e w3 ⟨rfl, g3, r3⟩
  rw [(tk_dec s a 46).2 (decide_eq_false k46)] at r3
  rw [decide_eq_false k46]
  have A3 := hide ((unhide A2).step g3 r3)
  clear g3 r3 A2
  clear k46
  go_wp2_with fail
  by_cases k94 : pkB s a = 94
  · rw [if_pos k94] at HRA
    refine (take_any _ B g s a op 94 (unhide A3).rd hs ha).mono ?_
    rintro e w4 ⟨rfl, g4, r4⟩
    rw [(tk_dec s a 94).1 (decide_eq_true k94)] at r4
    rw [decide_eq_true k94]
    have A4 := hide ((unhide A3).step g4 r4)
    clear g4 r4 A3
    clear k94
    go_wp2_with fail
    refine (nodeR_any 7 none 0 0 _).mono ?_
    rintro e w9 ⟨rfl, b9⟩
    have A9 : Hid (At0 w w9 B g s r.at_ op) := hide (by rw [unhide HRA]; exact (unhide A4).below b9)
    have V9 : Hid (RsP (fun q => w.heap.size < q) w9 r (.agg #[.int .i64 7, .int .u64 0, .int .u64 0, .int .u64 0, .int .u64 0, .slice none 0 0]) 0) := hide (by
      rw [unhide HRA]; exact leaf_ok rfl (by omega))
    clear b9 HRA
    obtain ⟨y0, y1, y2, y3, y4, y5⟩ := (unhide A9).rb.cells
    obtain ⟨h0, h1, h2, h3, h4, h5⟩ := (unhide A9).rb.frozen
    dsimp only at y1 y2 y3 y4
    have F := hide ((unhide A9).fin (unhide V9))
    go_wp2_with fail
    (try simp only [Exit.inBlock, Exit.then])
    refine bodyPost_ret_by (v := .tuple #[.agg #[.int .i64 7, .int .u64 0, .int .u64 0, .int .u64 0, .int .u64 0, .slice none 0 0], .int .i64 0]) ?_ rfl ⟨_, _, rfl, (unhide F).2.1, (unhide F).2.2.2, (unhide F).2.2.1⟩
    exact results_ct (ty := 27) rfl _ _ w.heap.size _ rfl (unhide F).1 _ rfl
  rw [if_neg k94] at HRA
  refine (take_any _ B g s a op 94 (unhide A3).rd hs ha).mono ?_
  rintro e w4 ⟨rfl, g4, r4⟩
  rw [(tk_dec s a 94).2 (decide_eq_false k94)] at r4
  rw [decide_eq_false k94]
  have A4 := hide ((unhide A3).step g4 r4)
  clear g4 r4 A3
  clear k94
  go_wp2_with fail
  by_cases k36 : pkB s a = 36
  · rw [if_pos k36] at HRA
    refine (take_any _ B g s a op 36 (unhide A4).rd hs ha).mono ?_
    rintro e w5 ⟨rfl, g5, r5⟩
    rw [(tk_dec s a 36).1 (decide_eq_true k36)] at r5
    rw [decide_eq_true k36]
    have A5 := hide ((unhide A4).step g5 r5)
    clear g5 r5 A4
    clear k36
    go_wp2_with fail
    refine (nodeR_any 8 none 0 0 _).mono ?_
    rintro e w9 ⟨rfl, b9⟩
    have A9 : Hid (At0 w w9 B g s r.at_ op) := hide (by rw [unhide HRA]; exact (unhide A5).below b9)
    have V9 : Hid (RsP (fun q => w.heap.size < q) w9 r (.agg #[.int .i64 8, .int .u64 0, .int .u64 0, .int .u64 0, .int .u64 0, .slice none 0 0]) 0) := hide (by
      rw [unhide HRA]; exact leaf_ok rfl (by omega))
    clear b9 HRA
    obtain ⟨y0, y1, y2, y3, y4, y5⟩ := (unhide A9).rb.cells
    obtain ⟨h0, h1, h2, h3, h4, h5⟩ := (unhide A9).rb.frozen
    dsimp only at y1 y2 y3 y4
    have F := hide ((unhide A9).fin (unhide V9))
    go_wp2_with fail
    (try simp only [Exit.inBlock, Exit.then])
    refine bodyPost_ret_by (v := .tuple #[.agg #[.int .i64 8, .int .u64 0, .int .u64 0, .int .u64 0, .int .u64 0, .slice none 0 0], .int .i64 0]) ?_ rfl ⟨_, _, rfl, (unhide F).2.1, (unhide F).2.2.2, (unhide F).2.2.1⟩
    exact results_ct (ty := 27) rfl _ _ w.heap.size _ rfl (unhide F).1 _ rfl
  rw [if_neg k36] at HRA
  refine (take_any _ B g s a op 36 (unhide A4).rd hs ha).mono ?_
  rintro e w5 ⟨rfl, g5, r5⟩
  rw [(tk_dec s a 36).2 (decide_eq_false k36)] at r5
  rw [decide_eq_false k36]
  have A5 := hide ((unhide A4).step g5 r5)
  clear g5 r5 A4
  clear k36
  go_wp2_with fail
  refine (class_any _ B g s a op (unhide A5).rd hs ha).mono ?_
  rintro e w7 ⟨t, ok, rfl, ft, g7, hcl⟩
  rcases hcl with ⟨p, hp, rfl, ht, r7⟩ | ⟨hp, rfl, r7⟩
  · have A7 := hide (((unhide A5).step g7 r7).alloc (.cells #[.int .u64 t.a, .int .u64 t.b, .int .u64 t.c, .int .u64 t.d] 24))
    rw [hp] at HRA
    have FT := hide ft
    have HT := hide ht
    have HBO := hide (fun W => byteOf_any t W)
    obtain ⟨s1, s2, s3, s4⟩ := t
    unfold setV at *
    clear g7 r7 hp ft ht
    dsimp only at *
    go_wp2_with fail
    refine ((unhide HBO) _).mono ?_
    rintro e w9 ⟨rfl, b9⟩
    have A9 : Hid (At0 w w9 B g s r.at_ op) := hide (by rw [unhide HRA]; exact (unhide A7).below b9)
    have V9 : Hid (RsP (fun q => w.heap.size < q) w9 r (.agg #[.int .i64 3, .int .u64 s1, .int .u64 s2, .int .u64 s3, .int .u64 s4, .slice none 0 0]) 0) := hide (by
      rw [unhide HRA]; exact byte_ok (t := ⟨s1, s2, s3, s4⟩) (unhide FT) (unhide HT))
    clear b9 A7 HRA
    obtain ⟨y0, y1, y2, y3, y4, y5⟩ := (unhide A9).rb.cells
    obtain ⟨h0, h1, h2, h3, h4, h5⟩ := (unhide A9).rb.frozen
    dsimp only at y1 y2 y3 y4
    have F := hide ((unhide A9).fin (unhide V9))
    go_wp2_with fail
    (try simp only [Exit.inBlock, Exit.then])
    refine bodyPost_ret_by (v := .tuple #[.agg #[.int .i64 3, .int .u64 s1, .int .u64 s2, .int .u64 s3, .int .u64 s4, .slice none 0 0], .int .i64 0]) ?_ rfl ⟨_, _, rfl, (unhide F).2.1, (unhide F).2.2.2, (unhide F).2.2.1⟩
    exact results_ct (ty := 27) rfl _ _ w.heap.size _ rfl (unhide F).1 _ rfl
  · have A7 := hide (((unhide A5).step g7 r7).alloc (.cells #[.int .u64 t.a, .int .u64 t.b, .int .u64 t.c, .int .u64 t.d] 24))
    rw [hp] at HRA
    obtain ⟨t1, t2, t3, t4⟩ := t
    have HCH := hide (charR_any _ B g s a op (unhide A7).rd hs ha)
    have hle := charR_le s a ha
    obtain ⟨⟨o1, b1⟩, ho1⟩ : ∃ z, charR s a = z := ⟨_, rfl⟩
    rw [ho1] at HRA HCH hle
    unfold setV retB at *
    clear g7 r7 hp ft ho1
    dsimp only at *
    cases o1 with
    | none =>
      dsimp only at HCH HRA
      go_wp2_with fail
      refine (unhide HCH).mono ?_
      rintro e w8 ⟨rfl, g8, r8⟩
      have A8 := hide ((unhide A7).step g8 r8)
      clear g8 r8 A7
      go_wp2_with fail
      refine (only_any 0 _ (by omega)).mono ?_
      rintro e w9 ⟨t, rfl, ft, ht, b9⟩
      have A9 := hide ((unhide A8).below b9)
      clear b9 A8 ht
      unfold setV
      go_wp2_with fail
      refine (byteOf_any t _).mono ?_
      rintro e w10 ⟨rfl, b10⟩
      have A10 : Hid (At0 w w10 B g s r.at_ op) := hide (by rw [unhide HRA]; exact (unhide A9).below b10)
      have V10 : Hid (RsP (fun q => w.heap.size < q) w10 r (.agg #[.int .i64 3, .int .u64 t.a, .int .u64 t.b, .int .u64 t.c, .int .u64 t.d, .slice none 0 0]) 3) := hide (by
        rw [unhide HRA]; exact err_ok (by decide))
      obtain ⟨s1, s2, s3, s4⟩ := t
      clear b10 A9 HRA
      dsimp only at *
      obtain ⟨y0, y1, y2, y3, y4, y5⟩ := (unhide A10).rb.cells
      obtain ⟨h0, h1, h2, h3, h4, h5⟩ := (unhide A10).rb.frozen
      dsimp only at y1 y2 y3 y4
      have F := hide ((unhide A10).fin (unhide V10))
      go_wp2_with fail
      (try simp only [Exit.inBlock, Exit.then])
      refine bodyPost_ret_by (v := .tuple #[.agg #[.int .i64 3, .int .u64 s1, .int .u64 s2, .int .u64 s3, .int .u64 s4, .slice none 0 0], .int .i64 3]) ?_ rfl ⟨_, _, rfl, (unhide F).2.1, (unhide F).2.2.2, (unhide F).2.2.1⟩
      exact results_ct (ty := 27) rfl _ _ w.heap.size _ rfl (unhide F).1 _ rfl
    | some x =>
      dsimp only at HCH HRA
      have hx256 := hle.2 x rfl
      go_wp2_with fail
      refine (unhide HCH).mono ?_
      rintro e w8 ⟨rfl, g8, r8⟩
      have A8 := hide ((unhide A7).step g8 r8)
      clear g8 r8 A7
      go_wp2_with fail
      refine (only_any x _ hx256).mono ?_
      rintro e w9 ⟨t, rfl, ft, ht, b9⟩
      have A9 := hide ((unhide A8).below b9)
      have FT := hide ft
      have HT := hide ht
      clear b9 A8 ht ft
      unfold setV
      go_wp2_with fail
      refine (byteOf_any t _).mono ?_
      rintro e w10 ⟨rfl, b10⟩
      have A10 : Hid (At0 w w10 B g s r.at_ op) := hide (by rw [unhide HRA]; exact (unhide A9).below b10)
      have V10 : Hid (RsP (fun q => w.heap.size < q) w10 r (.agg #[.int .i64 3, .int .u64 t.a, .int .u64 t.b, .int .u64 t.c, .int .u64 t.d, .slice none 0 0]) 0) := hide (by
        rw [unhide HRA]; exact byte_ok (unhide FT) (unhide HT))
      obtain ⟨s1, s2, s3, s4⟩ := t
      clear b10 A9 HRA
      dsimp only at *
      obtain ⟨y0, y1, y2, y3, y4, y5⟩ := (unhide A10).rb.cells
      obtain ⟨h0, h1, h2, h3, h4, h5⟩ := (unhide A10).rb.frozen
      dsimp only at y1 y2 y3 y4
      have F := hide ((unhide A10).fin (unhide V10))
      go_wp2_with fail
      (try simp only [Exit.inBlock, Exit.then])
      refine bodyPost_ret_by (v := .tuple #[.agg #[.int .i64 3, .int .u64 s1, .int .u64 s2, .int .u64 s3, .int .u64 s4, .slice none 0 0], .int .i64 0]) ?_ rfl ⟨_, _, rfl, (unhide F).2.1, (unhide F).2.2.2, (unhide F).2.2.1⟩
      exact results_ct (ty := 27) rfl _ _ w.heap.size _ rfl (unhide F).1 _ rfl
end Go.Proofs.Ytjecopdbcaojcaa
