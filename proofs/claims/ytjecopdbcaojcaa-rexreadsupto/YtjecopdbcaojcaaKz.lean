/- The program's Parse. -/
import Derived.Test.YtjecopdbcaojcaaKX
import Derived.Test.YtjecopdbcaojcaaJe
import Derived.BigRegion
namespace Go.Proofs.Ytjecopdbcaojcaa
open Go.RowKit Kb
set_option linter.unusedVariables false
set_option maxRecDepth 20000

/-- three results, the first in a block of its own -/
theorem results_ctt {fn : Func} {p u u' : Tmp} {ty : TypeId} (h : fn.results = #[.cell p ty, .tmp u, .tmp u']) (tmps : Array Value) (w : World) (g : Nat) (cs : Array Value)
    (hp : tmps.getD p undef = .pointer (some ⟨g, 0, none⟩)) (hl : (loadVar ty ⟨g, 0, none⟩).run Try.prog w = .ok (.agg cs) w) (x : Value) (hx : tmps.getD u undef = x) (y : Value) (hy : tmps.getD u' undef = y) :
    (results fn tmps).run Try.prog w = .ok (.tuple #[.agg cs, x, y]) w := by
  have hp' : tmps[p]?.getD undef = .pointer (some ⟨g, 0, none⟩) := by simpa using hp
  have hx' : tmps[u]?.getD undef = x := by simpa using hx
  have hy' : tmps[u']?.getD undef = y := by simpa using hy
  simp [results, h, hp', hx', hy', asAddr, hl]
theorem RX.loaded {w : World} {base gb : Nat} {k0 : Int} {s0 : Se} {e0 : Value} (h : RX w base gb k0 s0 e0) (k s1 s2 s3 s4 : Int) (o : Option Addr) (n c : Nat) : (loadVar 27 ⟨gb, 0, none⟩).run Try.prog (put6 w gb k s1 s2 s3 s4 (.slice o n c)) = .ok (.agg #[.int .i64 k, .int .u64 s1, .int .u64 s2, .int .u64 s3, .int .u64 s4, .slice o n c]) (put6 w gb k s1 s2 s3 s4 (.slice o n c)) := by
  obtain ⟨p1, _⟩ := h.put k s1 s2 s3 s4 (.slice o n c)
  obtain ⟨fr, hh⟩ := own_one p1
  exact load_rex rfl hh
theorem RX.loadedD {w : World} {base gb : Nat} {k0 : Int} {s0 : Se} {e0 : Value} (h : RX w base gb k0 s0 e0) (k s1 s2 s3 s4 : Int) (o : Option Addr) (n c : Nat) : (loadVar 27 ⟨gb, 0, none⟩).run Try.prog (put6 w gb k s1 s2 s3 s4 (.slice o n c)).drew = .ok (.agg #[.int .i64 k, .int .u64 s1, .int .u64 s2, .int .u64 s3, .int .u64 s4, .slice o n c]) (put6 w gb k s1 s2 s3 s4 (.slice o n c)).drew := by
  obtain ⟨p1, _⟩ := h.put k s1 s2 s3 s4 (.slice o n c)
  obtain ⟨fr, hh⟩ := own_one (p1.below (Below.refl _ _).drew)
  exact load_rex rfl hh
/-- the expression of noughts -/
def zeroV : Value := .agg #[.int .i64 0, .int .u64 0, .int .u64 0, .int .u64 0, .int .u64 0, .slice none 0 0]
/-- what Parse answers -/
def PrsP (s : ByteArray) (N : Nat → Prop) (w : World) (rv : Value) (a z : Int) : Prop :=
  if 200 < s.size then rv = zeroV ∧ a = 0 ∧ z = 2
  else match readR s with
    | .ok x _ => z = 0 ∧ a = 0 ∧ RexN N w rv x.rx
    | .err e b => rv = zeroV ∧ a = b ∧ z = e ∧ z ≠ 0 ∧ b ≤ s.size
set_option maxHeartbeats 8000000 in
theorem Parse_any (s : ByteArray) (w : World) :
    Calls Try.prog 5 #[.string s] w fun e w' => ∃ rv a z, e = .returned (.tuple #[rv, .int .i64 a, .int .i64 z]) ∧ Below w.heap.size w w' ∧ PrsP s (fun q => w.heap.size ≤ q) w' rv a z := by
  have RB0 := hide (RX.new (base := w.heap.size) w (Nat.le_refl _) 0 ⟨0, 0, 0, 0⟩ (.slice none 0 0))
  have B0 := hide ((Below.refl w.heap.size w).alloc (Nat.le_refl _) (.cells #[.int .i64 0, .int .u64 0, .int .u64 0, .int .u64 0, .int .u64 0, .slice none 0 0] 27))
  dsimp only at RB0
  obtain ⟨W0, hW0⟩ : ∃ W0, w.alloc (.cells #[.int .i64 0, .int .u64 0, .int .u64 0, .int .u64 0, .int .u64 0, .slice none 0 0] 27) = W0 := ⟨_, rfl⟩
  have hsz0 : W0.heap.size = w.heap.size + 1 := by rw [← hW0]; simp
  rw [hW0] at RB0 B0
  by_cases hs2 : 200 < s.size
  · obtain ⟨y0, y1, y2, y3, y4, y5⟩ := (unhide RB0).cells
    obtain ⟨h0, h1, h2, h3, h4, h5⟩ := (unhide RB0).frozen
    dsimp only at y1 y2 y3 y4
    have p1 := (unhide RB0).loaded 0 0 0 0 0 none 0 0
    have p2 := ((unhide RB0).put 0 0 0 0 0 (.slice none 0 0)).2
    have P1 := hide p1
    have P2 := hide p2
    have hI : (s.size : Int) > 200 := by omega
    have HS2 := hide hs2
    clear p1 p2 hs2
    go_enter Try.func5, Try.ntmps5
    go_wp2_with fail
    (try simp only [Exit.inBlock, Exit.then])
    refine bodyPost_ret_by (v := .tuple #[.agg #[.int .i64 0, .int .u64 0, .int .u64 0, .int .u64 0, .int .u64 0, .slice none 0 0], .int .i64 0, .int .i64 2]) ?_ rfl ⟨_, _, _, rfl, ?_, ?_⟩
    rotate_left 1
    · exact (unhide B0).grown (unhide P2) (unhide B0).size (fun q hq => by have := Option.some.inj hq; omega)
    · unfold PrsP
      rw [if_pos (unhide HS2)]
      exact ⟨rfl, rfl, rfl⟩
    refine results_ctt (p := 2) (u := 3) (u' := 4) (ty := 27) ?_ _ _ w.heap.size _ ?_ (unhide P1) _ ?_ _ ?_ <;> rfl
  have hI : ¬ ((s.size : Int) > 200) := by omega
  have HS2 := hide hs2
  have hs : s.size ≤ 100000 := by omega
  have R1 : Hid (Rd (W0.alloc (.cells #[.string s, .int .i64 0, .int .i64 0] 48)) W0.heap.size W0.heap.size s 0 0) := hide (World.ownsRow_lit (e := 48) (size := 3) W0 #[.string s, .int .i64 0, .int .i64 0] 1 (Nat.le_refl _) (by unfold maxLen; omega) rfl)
  have RB1 := hide ((unhide RB0).below ((Below.refl _ W0).alloc (Nat.le_refl _) (.cells #[.string s, .int .i64 0, .int .i64 0] 48)))
  have B1 := hide (bel_trans (unhide B0) ((Below.refl _ W0).alloc (Nat.le_refl _) (.cells #[.string s, .int .i64 0, .int .i64 0] 48)))
  rw [hsz0] at R1
  obtain ⟨W1, hW1⟩ : ∃ W1, W0.alloc (.cells #[.string s, .int .i64 0, .int .i64 0] 48) = W1 := ⟨_, rfl⟩
  have hsz1 : W1.heap.size = w.heap.size + 2 := by rw [← hW1]; simp [hsz0]
  rw [hW1] at R1 RB1 B1
  have HC := hide (altAll_any s hs W1 (w.heap.size + 1) (w.heap.size + 1) 0 (unhide R1) (Nat.zero_le _) trivial)
  have hgd := altR_le (grpR_good s 20) 0 (Nat.zero_le s.size)
  obtain ⟨res, hres⟩ : ∃ res, readR s = res := ⟨_, rfl⟩
  have HR : Hid ((∀ x b, altR s (grpR s 20) 0 = .ok x b → res = if b < s.size then .err 3 b else if chkR x.rx ≠ 0 then .err (chkR x.rx) b else .ok x b) ∧ (∀ e b, altR s (grpR s 20) 0 = .err e b → res = .err e b)) := hide ⟨fun x b h => by rw [← hres, readR, h], fun e b h => by rw [← hres, readR, h]⟩
  have HRES := hide hres
  obtain ⟨q, hq⟩ : ∃ q, altR s (grpR s 20) 0 = q := ⟨_, rfl⟩
  rw [hq] at HR HC hgd
  clear hres hq R1 hs2
  obtain ⟨g, hg⟩ : ∃ g, w.heap.size + 1 = g := ⟨_, rfl⟩
  rw [hg] at HC
  go_enter Try.func5, Try.ntmps5
  go_wp2_with fail
  refine (unhide HC).mono ?_
  rintro e w2 ⟨rv, z, rfl, g2, V2, r2⟩
  clear hW0 hW1 HC
  have RB2 := hide ((unhide RB1).kept g2 (fun e => by have := Option.some.inj e; omega))
  have B2 := hide ((unhide B1).grown g2 (unhide B1).size (fun q hq => by have := Option.some.inj hq; omega))
  obtain ⟨k, ⟨s1, s2, s3, s4⟩, o, n, c, rfl⟩ := V2.form
  have RR3 := hide (RX.new (base := w.heap.size) w2 (unhide B2).size k ⟨s1, s2, s3, s4⟩ (.slice o n c))
  have bb : Below w2.heap.size w2 (w2.alloc (.cells #[.int .i64 k, .int .u64 s1, .int .u64 s2, .int .u64 s3, .int .u64 s4, .slice o n c] 27)) := (Below.refl _ _).alloc (Nat.le_refl _) _
  have RB := hide ((unhide RB2).below bb)
  have R := hide (r2.below bb)
  have BW := hide (bel_trans (unhide B2) bb)
  have V3 := hide (V2.move (N' := fun _ => True) bb.size fun j hj hl => ⟨bb.block j hl, trivial⟩)
  dsimp only at RR3
  obtain ⟨gb, hgb⟩ : ∃ gb, w2.heap.size = gb := ⟨_, rfl⟩
  obtain ⟨W3, hW3⟩ : ∃ W3, w2.alloc (.cells #[.int .i64 k, .int .u64 s1, .int .u64 s2, .int .u64 s3, .int .u64 s4, .slice o n c] 27) = W3 := ⟨_, rfl⟩
  have hgb2 : w.heap.size + 2 ≤ gb := by rw [← hgb, ← hsz1]; exact g2.size
  rw [hW3] at RB R BW V3 RR3
  rw [hgb] at RR3
  clear bb g2 r2 V2 RB2 B2 RB1 B1 RB0 B0
  cases q with
  | err e b =>
    have hz : z ≠ 0 := by have := unhide V3; rw [this.1]; exact this.2.1
    have hzb : (z == 0) = false := by rw [beq_eq_false_iff_ne]; exact hz
    have hzn : (z != 0) = true := by simpa using hz
    have HE : Hid (readR s = .err z b) := hide (by rw [unhide HRES, (unhide HR).2 e b rfl, (unhide V3).1])
    replace R : Hid (Rd W3 g g s b 0) := hide (unhide R)
    have HZB : Hid (z ≠ 0 ∧ b ≤ s.size) := hide ⟨hz, hgd⟩
    clear HR HRES hz V3 hgd
    obtain ⟨y0, y1, y2, y3, y4, y5⟩ := (unhide RB).cells
    obtain ⟨h0, h1, h2, h3, h4, h5⟩ := (unhide RB).frozen
    obtain ⟨l0, l1, l2⟩ := (unhide R).cells
    dsimp only at y1 y2 y3 y4
    have hgl := (unhide R).lt
    have hrl := (unhide RB).lt
    have hne1 : ¬ g = w.heap.size := by omega
    have hne2 : ¬ w.heap.size = g := by omega
    have p1 := (unhide RB).loadedD 0 0 0 0 0 none 0 0
    have p2 := ((unhide BW).grown ((unhide RB).put 0 0 0 0 0 (.slice none 0 0)).2 (unhide BW).size (fun q hq => by have := Option.some.inj hq; omega)).drew
    have P1 := hide p1
    have P2 := hide p2
    clear p1 p2
    go_wp2_with fail
    (try clear l0 l2)
    (try clear hgl hrl)
    (try clear RR3)
    (try clear RR4)
    (try clear HV4)
    (try clear RB)
    (try clear R)
    (try clear BW)
    (try clear hI)
    (try clear hs)
    (try clear hsz0)
    (try clear hsz1)
    (try clear hgb2)
    (try clear hzb)
    (try clear hzn)
    (try clear hg)
    (try clear hgb)
    (try clear hW3)
    (try clear hnI)
    (try clear hltI)
    (try clear hb)
    go_big_region
    all_goals (
      go_wp2_with fail
      (try simp only [Exit.inBlock, Exit.then])
      refine bodyPost_ret_by (v := .tuple #[.agg #[.int .i64 0, .int .u64 0, .int .u64 0, .int .u64 0, .int .u64 0, .slice none 0 0], .int .i64 b, .int .i64 z]) ?_ rfl ⟨_, _, _, rfl, ?_, ?_⟩
      rotate_left 1
      · exact unhide P2
      · unfold PrsP
        rw [if_neg (unhide HS2), unhide HE]
        exact ⟨rfl, rfl, rfl, unhide HZB⟩
      refine results_ctt (p := 2) (u := 3) (u' := 4) (ty := 27) ?_ _ _ w.heap.size _ ?_ (unhide P1) _ ?_ _ ?_ <;> rfl)
  | ok x b =>
    obtain rfl : z = 0 := (unhide V3).1
    have hb : b ≤ s.size := hgd.2
    replace R : Hid (Rd W3 g g s b 0) := hide (unhide R)
    by_cases hlt : b < s.size
    · have HE : Hid (readR s = .err 3 b) := hide (by rw [unhide HRES, (unhide HR).1 x b rfl, if_pos hlt])
      have hltI : (b : Int) < s.size := by omega
      have HZB : Hid ((3 : Int) ≠ 0 ∧ b ≤ s.size) := hide ⟨by decide, hb⟩
      obtain ⟨l0, l1, l2⟩ := (unhide R).cells
      have hgl := (unhide R).lt
      clear HR HRES V3 hgd hlt
      obtain ⟨y0, y1, y2, y3, y4, y5⟩ := (unhide RB).cells
      obtain ⟨h0, h1, h2, h3, h4, h5⟩ := (unhide RB).frozen
      obtain ⟨l0, l1, l2⟩ := (unhide R).cells
      dsimp only at y1 y2 y3 y4
      have hgl := (unhide R).lt
      have hrl := (unhide RB).lt
      have hne1 : ¬ g = w.heap.size := by omega
      have hne2 : ¬ w.heap.size = g := by omega
      have p1 := (unhide RB).loadedD 0 0 0 0 0 none 0 0
      have p2 := ((unhide BW).grown ((unhide RB).put 0 0 0 0 0 (.slice none 0 0)).2 (unhide BW).size (fun q hq => by have := Option.some.inj hq; omega)).drew
      have P1 := hide p1
      have P2 := hide p2
      clear p1 p2
      go_wp2_with fail
      (try clear l0 l2)
      (try clear hgl hrl)
      (try clear RR3)
      (try clear RR4)
      (try clear HV4)
      (try clear RB)
      (try clear R)
      (try clear BW)
      (try clear hI)
      (try clear hs)
      (try clear hsz0)
      (try clear hsz1)
      (try clear hgb2)
      (try clear hzb)
      (try clear hzn)
      (try clear hg)
      (try clear hgb)
      (try clear hW3)
      (try clear hnI)
      (try clear hltI)
      (try clear hb)
      go_big_region
      all_goals (
        go_wp2_with fail
        (try simp only [Exit.inBlock, Exit.then])
        refine bodyPost_ret_by (v := .tuple #[.agg #[.int .i64 0, .int .u64 0, .int .u64 0, .int .u64 0, .int .u64 0, .slice none 0 0], .int .i64 b, .int .i64 3]) ?_ rfl ⟨_, _, _, rfl, ?_, ?_⟩
        rotate_left 1
        · exact unhide P2
        · unfold PrsP
          rw [if_neg (unhide HS2), unhide HE]
          exact ⟨rfl, rfl, rfl, unhide HZB⟩
        refine results_ctt (p := 2) (u := 3) (u' := 4) (ty := 27) ?_ _ _ w.heap.size _ ?_ (unhide P1) _ ?_ _ ?_ <;> rfl)
    have hnI : ¬ ((b : Int) < s.size) := by omega
    have HV := hide (unhide V3).2.rexV
    have HCK := hide (Check_any x.rx _ W3 (unhide HV))
    have HE0 : Hid (readR s = if chkR x.rx ≠ 0 then .err (chkR x.rx) b else .ok x b) := hide (by rw [unhide HRES, (unhide HR).1 x b rfl, if_neg hlt])
    obtain ⟨ck, hck⟩ : ∃ ck, chkR x.rx = ck := ⟨_, rfl⟩
    rw [hck] at HCK HE0
    obtain ⟨l0, l1, l2⟩ := (unhide R).cells
    have hgl := (unhide R).lt
    obtain ⟨u0, u1, u2, u3, u4, u5⟩ := (unhide RR3).cells
    dsimp only at u1 u2 u3 u4
    clear HR HRES V3 hgd hlt hck
    go_wp2_with fail
    refine (unhide HCK).mono ?_
    rintro e w4 ⟨rfl, b4⟩
    have RB4 := hide ((unhide RB).below b4)
    have R4 := hide ((unhide R).below b4)
    have BW4 := hide (bel_trans (unhide BW) b4)
    have HV4 := hide ((unhide HV).below b4)
    have RR4 := hide ((unhide RR3).below b4)
    clear b4 RB R BW HV RR3 HCK l0 l1 l2 hgl u0 u1 u2 u3 u4 u5 hW3 hgb
    have RB := hide (unhide RB4)
    have R := hide (unhide R4)
    have BW := hide (unhide BW4)
    clear RB4 R4 BW4
    by_cases hc0 : ck = 0
    · subst hc0
      have HE : Hid (readR s = .ok x b) := hide (by rw [unhide HE0, if_neg (by simp)])
      have HAP := hide (apart_any x w4 _ (unhide HV4))
      obtain ⟨u0, u1, u2, u3, u4, u5⟩ := (unhide RR4).cells
      dsimp only at u1 u2 u3 u4
      have hu6 := (unhide RR4).lt
      have hsz4 := (unhide BW).size
      clear HE0
      go_wp2_with fail
      refine (unhide HAP).mono ?_
      rintro e w5 ⟨v5, rfl, V5, b5⟩
      have RB5 := hide ((unhide RB).below b5)
      have BW5 := hide (bel_trans (unhide BW) b5)
      have V5' := hide V5
      obtain ⟨q0, ⟨q1, q2, q3, q4⟩, qo, qn, qc, rfl⟩ := V5.formV
      have hsz5 := (unhide RB).lt.2
      clear V5 b5 RB BW HAP u0 u1 u2 u3 u4 u5
      obtain ⟨y0, y1, y2, y3, y4, y5⟩ := (unhide RB5).cells
      obtain ⟨h0, h1, h2, h3, h4, h5⟩ := (unhide RB5).frozen
      dsimp only at *
      have p1 := (unhide RB5).loaded q0 q1 q2 q3 q4 qo qn qc
      have p2 := ((unhide RB5).put q0 q1 q2 q3 q4 (.slice qo qn qc)).2
      have P1 := hide p1
      have P2 := hide p2
      clear p1 p2
      go_wp2_with fail
      (try simp only [Exit.inBlock, Exit.then])
      refine bodyPost_ret_by (v := .tuple #[.agg #[.int .i64 q0, .int .u64 q1, .int .u64 q2, .int .u64 q3, .int .u64 q4, .slice qo qn qc], .int .i64 0, .int .i64 0]) ?_ rfl ⟨_, _, _, rfl, ?_, ?_⟩
      rotate_left 1
      · exact (unhide BW5).grown (unhide P2) (unhide BW5).size (fun q hq => by have := Option.some.inj hq; omega)
      · unfold PrsP
        rw [if_neg (unhide HS2), unhide HE]
        refine ⟨rfl, rfl, (unhide V5').grown (unhide P2) fun j (hj : w4.heap.size ≤ j) _ => ⟨fun e => by have := Option.some.inj e; omega, by show w.heap.size ≤ j; omega⟩⟩
      refine results_ctt (p := 2) (u := 3) (u' := 4) (ty := 27) ?_ _ _ w.heap.size _ ?_ (unhide P1) _ ?_ _ ?_ <;> rfl
    · have hzb : (ck == 0) = false := by rw [beq_eq_false_iff_ne]; exact hc0
      have hzn : (ck != 0) = true := by simpa using hc0
      have HE : Hid (readR s = .err ck b) := hide (by rw [unhide HE0, if_pos hc0])
      have HZB : Hid (ck ≠ 0 ∧ b ≤ s.size) := hide ⟨hc0, hb⟩
      clear HE0 hc0
      obtain ⟨y0, y1, y2, y3, y4, y5⟩ := (unhide RB).cells
      obtain ⟨h0, h1, h2, h3, h4, h5⟩ := (unhide RB).frozen
      obtain ⟨l0, l1, l2⟩ := (unhide R).cells
      dsimp only at y1 y2 y3 y4
      have hgl := (unhide R).lt
      have hrl := (unhide RB).lt
      have hne1 : ¬ g = w.heap.size := by omega
      have hne2 : ¬ w.heap.size = g := by omega
      have p1 := (unhide RB).loadedD 0 0 0 0 0 none 0 0
      have p2 := ((unhide BW).grown ((unhide RB).put 0 0 0 0 0 (.slice none 0 0)).2 (unhide BW).size (fun q hq => by have := Option.some.inj hq; omega)).drew
      have P1 := hide p1
      have P2 := hide p2
      clear p1 p2
      go_wp2_with fail
      (try clear l0 l2)
      (try clear hgl hrl)
      (try clear RR3)
      (try clear RR4)
      (try clear HV4)
      (try clear RB)
      (try clear R)
      (try clear BW)
      (try clear hI)
      (try clear hs)
      (try clear hsz0)
      (try clear hsz1)
      (try clear hgb2)
      (try clear hzb)
      (try clear hzn)
      (try clear hg)
      (try clear hgb)
      (try clear hW3)
      (try clear hnI)
      (try clear hltI)
      (try clear hb)
      go_big_region
      all_goals (
        go_wp2_with fail
        (try simp only [Exit.inBlock, Exit.then])
        refine bodyPost_ret_by (v := .tuple #[.agg #[.int .i64 0, .int .u64 0, .int .u64 0, .int .u64 0, .int .u64 0, .slice none 0 0], .int .i64 b, .int .i64 ck]) ?_ rfl ⟨_, _, _, rfl, ?_, ?_⟩
        rotate_left 1
        · exact unhide P2
        · unfold PrsP
          rw [if_neg (unhide HS2), unhide HE]
          exact ⟨rfl, rfl, rfl, unhide HZB⟩
        refine results_ctt (p := 2) (u := 3) (u' := 4) (ty := 27) ?_ _ _ w.heap.size _ ?_ (unhide P1) _ ?_ _ ?_ <;> rfl)
end Go.Proofs.Ytjecopdbcaojcaa
