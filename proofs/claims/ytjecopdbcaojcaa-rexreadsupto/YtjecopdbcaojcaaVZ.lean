/- The document's ReadRex. -/
import Derived.Test.YtjecopdbcaojcaaVY
import Derived.Test.YtjecopdbcaojcaaKz
import Derived.Test.YtjecopdbcaojcaaRows
import Derived.WalkKit
import Derived.ProofKit
import Derived.OpenShut
import Derived.ShutString
import Derived.JoinedCond
import Derived.Test.YtjecopdbcaojcaaWrap
namespace Go.Proofs.Ytjecopdbcaojcaa
open Go.RowKit Kb
set_option linter.unusedVariables false
set_option maxRecDepth 20000

set_option maxHeartbeats 8000000 in
theorem ReadRex_any (s : ByteArray) (w : World) :
    Calls Try.prog 6 #[.string s] w fun e w' => ∃ rv a z, e = .returned (.tuple #[rv, .int .i64 a, .int .i64 z]) ∧ Below w.heap.size w w' ∧ PrsP s (fun q => w.heap.size ≤ q) w' rv a z := by
  have RB0 := hide (RX.new (base := w.heap.size) w (Nat.le_refl _) 0 ⟨0, 0, 0, 0⟩ (.slice none 0 0))
  have B0 := hide ((Below.refl w.heap.size w).alloc (Nat.le_refl _) (.cells #[.int .i64 0, .int .u64 0, .int .u64 0, .int .u64 0, .int .u64 0, .slice none 0 0] 27))
  dsimp only at RB0
  obtain ⟨W0, hW0⟩ : ∃ W0, w.alloc (.cells #[.int .i64 0, .int .u64 0, .int .u64 0, .int .u64 0, .int .u64 0, .slice none 0 0] 27) = W0 := ⟨_, rfl⟩
  have hsz0 : W0.heap.size = w.heap.size + 1 := by rw [← hW0]; simp
  rw [hW0] at RB0 B0
  by_cases hs2 : 200 < s.size
  · obtain ⟨y0, y1, y2, y3, y4, y5⟩ := (unhide RB0).cells
    obtain ⟨h0, h1, h2, h3, h4, h5⟩ := (unhide RB0).frozen
    dsimp only at y1 y2 y3 y4
    have p1 := (unhide RB0).loaded 0 0 0 0 0 none 0 0
    have p2 := ((unhide RB0).put 0 0 0 0 0 (.slice none 0 0)).2
    have P1 := hide p1
    have P2 := hide p2
    have hI : (s.size : Int) > 200 := by omega
    have HS2 := hide hs2
    clear p1 p2 hs2
    go_enter Try.func6, Try.ntmps6
    go_wp2_with fail
    (try simp only [Exit.inBlock, Exit.then])
    refine bodyPost_ret_by (v := .tuple #[.agg #[.int .i64 0, .int .u64 0, .int .u64 0, .int .u64 0, .int .u64 0, .slice none 0 0], .int .i64 0, .int .i64 2]) ?_ rfl ⟨_, _, _, rfl, ?_, ?_⟩
    rotate_left 1
    · exact (unhide B0).grown (unhide P2) (unhide B0).size (fun q hq => by have := Option.some.inj hq; omega)
    · unfold PrsP
      rw [if_pos (unhide HS2)]
      exact ⟨rfl, rfl, rfl⟩
    refine results_ctt (p := 2) (u := 3) (u' := 4) (ty := 27) ?_ _ _ w.heap.size _ ?_ (unhide P1) _ ?_ _ ?_ <;> rfl
  have hI : ¬ ((s.size : Int) > 200) := by omega
  have HS2 := hide hs2
  have hs : s.size ≤ 200 := by omega
  have R1 : Hid (Txt (W0.alloc (.cells #[.string s, .int .i64 0, .int .i64 0, .int .i64 0, .int .i64 0] 55)) W0.heap.size W0.heap.size s ⟨0, 0, 0, 0⟩) := hide (World.ownsRow_lit (e := 55) (size := 5) W0 #[.string s, .int .i64 0, .int .i64 0, .int .i64 0, .int .i64 0] 1 (Nat.le_refl _) (by unfold maxLen; omega) rfl)
  have RB1 := hide ((unhide RB0).below ((Below.refl _ W0).alloc (Nat.le_refl _) (.cells #[.string s, .int .i64 0, .int .i64 0, .int .i64 0, .int .i64 0] 55)))
  have B1 := hide (bel_trans (unhide B0) ((Below.refl _ W0).alloc (Nat.le_refl _) (.cells #[.string s, .int .i64 0, .int .i64 0, .int .i64 0, .int .i64 0] 55)))
  rw [hsz0] at R1
  obtain ⟨W1, hW1⟩ : ∃ W1, W0.alloc (.cells #[.string s, .int .i64 0, .int .i64 0, .int .i64 0, .int .i64 0] 55) = W1 := ⟨_, rfl⟩
  have hsz1 : W1.heap.size = w.heap.size + 2 := by rw [← hW1]; simp [hsz0]
  rw [hW1] at R1 RB1 B1
  have HC := hide (dalt_all s hs 20 0 rfl W1 (w.heap.size + 1) (w.heap.size + 1) 0 0 (unhide R1) (Nat.zero_le _))
  have hgd := altR_le (grpR_good s 20) 0 (Nat.zero_le s.size)
  obtain ⟨res, hres⟩ : ∃ res, readR s = res := ⟨_, rfl⟩
  have HR : Hid ((∀ x b, altR s (grpR s 20) 0 = .ok x b → res = if b < s.size then .err 3 b else if chkR x.rx ≠ 0 then .err (chkR x.rx) b else .ok x b) ∧ (∀ e b, altR s (grpR s 20) 0 = .err e b → res = .err e b)) := hide ⟨fun x b h => by rw [← hres, readR, h], fun e b h => by rw [← hres, readR, h]⟩
  have HRES := hide hres
  obtain ⟨q, hq⟩ : ∃ q, altR s (grpR s 20) 0 = q := ⟨_, rfl⟩
  rw [hq] at HR HC hgd
  clear hres hq R1 hs2
  obtain ⟨g, hg⟩ : ∃ g, w.heap.size + 1 = g := ⟨_, rfl⟩
  rw [hg] at HC
  go_enter Try.func6, Try.ntmps6
  go_wp2_with fail
  refine (unhide HC).mono ?_
  rintro e w2 ⟨rv, ⟨b, op2, e2, ww2⟩, rfl, g2, V2, ho, hbd, r2⟩
  dsimp only at ho hbd
  subst ho
  clear hW0 hW1 HC
  have RB2 := hide ((unhide RB1).kept g2 (fun e => by have := Option.some.inj e; omega))
  have B2 := hide ((unhide B1).grown g2 (unhide B1).size (fun q hq => by have := Option.some.inj hq; omega))
  obtain ⟨k, ⟨s1, s2, s3, s4⟩, o, n, c, rfl⟩ := V2.form
  have RR3 := hide (RX.new (base := w.heap.size) w2 (unhide B2).size k ⟨s1, s2, s3, s4⟩ (.slice o n c))
  have bb : Below w2.heap.size w2 (w2.alloc (.cells #[.int .i64 k, .int .u64 s1, .int .u64 s2, .int .u64 s3, .int .u64 s4, .slice o n c] 27)) := (Below.refl _ _).alloc (Nat.le_refl _) _
  have RB := hide ((unhide RB2).below bb)
  have R := hide (r2.below bb)
  have BW := hide (bel_trans (unhide B2) bb)
  have V3 := hide (V2.move (N' := fun q => w.heap.size < q) bb.size fun j hj hl => ⟨bb.block j hl, by rw [hsz1] at hj; omega⟩)
  dsimp only at RR3
  obtain ⟨gb, hgb⟩ : ∃ gb, w2.heap.size = gb := ⟨_, rfl⟩
  obtain ⟨W3, hW3⟩ : ∃ W3, w2.alloc (.cells #[.int .i64 k, .int .u64 s1, .int .u64 s2, .int .u64 s3, .int .u64 s4, .slice o n c] 27) = W3 := ⟨_, rfl⟩
  have hgb2 : w.heap.size + 2 ≤ gb := by rw [← hgb, ← hsz1]; exact g2.size
  rw [hW3] at RB R BW V3 RR3
  rw [hgb] at RR3
  clear bb g2 r2 V2 RB2 B2 RB1 B1 RB0 B0
  have hgl0 := (unhide R).lt
  have hrl0 := (unhide RB).lt
  replace R : Hid (Txt W3 g g s ⟨b, 0, e2, ww2⟩) := hide (unhide R)
  cases q with
  | err e9 b9 =>
    obtain ⟨v1, v2, v3, _⟩ := unhide V3
    dsimp only at v1 v3
    subst v1 v3
    have hzn : (e2 != 0) = true := by simpa using v2
    have HE : Hid (readR s = .err e2 ww2) := hide (by rw [unhide HRES, (unhide HR).2 _ _ rfl])
    have HZB : Hid (e2 ≠ 0 ∧ ww2 ≤ s.size) := hide ⟨v2, hgd⟩
    have HV2 := hide v2
    clear HR HRES V3 hgd v2
    by_cases hlt : b < s.size
    · have hltI : (b : Int) < s.size := by omega
      have HWR := hide (wrong_any W3 g g s _ (unhide R) 3 b)
      rw [show wrongT ⟨b, 0, e2, ww2⟩ 3 b = ⟨b, 0, e2, ww2⟩ from if_neg (unhide HV2)] at HWR
      obtain ⟨l0, l1, l2, l3, l4⟩ := (unhide R).cells
      dsimp only at l0 l1 l2 l3 l4
      clear hlt
      go_wp2_with fail
      clear l0 l1 l2 l3 l4
      refine (unhide HWR).mono ?_; rintro e5 w5 ⟨rfl, g5, t5⟩
      have RB5 := hide ((unhide RB).kept g5 (fun e => by have := Option.some.inj e; omega))
      have BW5 := hide ((unhide BW).grown g5 (unhide BW).size (fun q hq => by have := Option.some.inj hq; omega))
      have R5 := hide t5
      clear g5 t5 HWR RB BW R hW3
      have RB := hide (unhide RB5)
      have BW := hide (unhide BW5)
      clear RB5 BW5
      obtain ⟨l0, l1, l2, l3, l4⟩ := (unhide R5).cells
      dsimp only at l0 l1 l2 l3 l4
      clear hgl0 hrl0 hbd l0 l2
      go_wp2_with fail
      obtain ⟨y0, y1, y2, y3, y4, y5⟩ := (unhide RB).cells
      obtain ⟨h0, h1, h2, h3, h4, h5⟩ := (unhide RB).frozen
      dsimp only at y1 y2 y3 y4
      have hgl := (unhide R5).lt
      have hrl := (unhide RB).lt
      have hne1 : ¬ g = w.heap.size := by omega
      have hne2 : ¬ w.heap.size = g := by omega
      have p1 := (unhide RB).loadedD 0 0 0 0 0 none 0 0
      have p2 := ((unhide BW).grown ((unhide RB).put 0 0 0 0 0 (.slice none 0 0)).2 (unhide BW).size (fun q hq => by have := Option.some.inj hq; omega)).drew
      have P1 := hide p1
      have P2 := hide p2
      clear p1 p2
      (try clear l0)
      (try clear l1)
      (try clear l2)
      (try clear hgl hrl)
      (try clear RR3)
      (try clear RR4)
      (try clear HV4)
      (try clear RB)
      (try clear R5)
      (try clear BW)
      (try clear hI)
      (try clear hs)
      (try clear hsz0)
      (try clear hsz1)
      (try clear hgb2)
      (try clear hzn)
      (try clear hg)
      (try clear hgb)
      (try clear hW3)
      (try clear hltI)
      go_big_region
      all_goals (
        go_wp2_with fail
        (try simp only [Exit.inBlock, Exit.then])
        refine bodyPost_ret_by (v := .tuple #[.agg #[.int .i64 0, .int .u64 0, .int .u64 0, .int .u64 0, .int .u64 0, .slice none 0 0], .int .i64 ww2, .int .i64 e2]) ?_ rfl ⟨_, _, _, rfl, ?_, ?_⟩
        rotate_left 1
        · exact unhide P2
        · unfold PrsP
          rw [if_neg (unhide HS2), unhide HE]
          exact ⟨rfl, rfl, rfl, unhide HZB⟩
        refine results_ctt (p := 2) (u := 3) (u' := 4) (ty := 27) ?_ _ _ w.heap.size _ ?_ (unhide P1) _ ?_ _ ?_ <;> rfl)
    · have hltI : ¬ (b : Int) < s.size := by omega
      obtain ⟨l0, l1, l2, l3, l4⟩ := (unhide R).cells
      dsimp only at l0 l1 l2 l3 l4
      clear hlt
      clear hgl0 hrl0 hbd l0 l2
      go_wp2_with fail
      obtain ⟨y0, y1, y2, y3, y4, y5⟩ := (unhide RB).cells
      obtain ⟨h0, h1, h2, h3, h4, h5⟩ := (unhide RB).frozen
      dsimp only at y1 y2 y3 y4
      have hgl := (unhide R).lt
      have hrl := (unhide RB).lt
      have hne1 : ¬ g = w.heap.size := by omega
      have hne2 : ¬ w.heap.size = g := by omega
      have p1 := (unhide RB).loadedD 0 0 0 0 0 none 0 0
      have p2 := ((unhide BW).grown ((unhide RB).put 0 0 0 0 0 (.slice none 0 0)).2 (unhide BW).size (fun q hq => by have := Option.some.inj hq; omega)).drew
      have P1 := hide p1
      have P2 := hide p2
      clear p1 p2
      (try clear l0)
      (try clear l1)
      (try clear l2)
      (try clear hgl hrl)
      (try clear RR3)
      (try clear RR4)
      (try clear HV4)
      (try clear RB)
      (try clear R)
      (try clear BW)
      (try clear hI)
      (try clear hs)
      (try clear hsz0)
      (try clear hsz1)
      (try clear hgb2)
      (try clear hzn)
      (try clear hg)
      (try clear hgb)
      (try clear hW3)
      (try clear hltI)
      go_big_region
      all_goals (
        go_wp2_with fail
        (try simp only [Exit.inBlock, Exit.then])
        refine bodyPost_ret_by (v := .tuple #[.agg #[.int .i64 0, .int .u64 0, .int .u64 0, .int .u64 0, .int .u64 0, .slice none 0 0], .int .i64 ww2, .int .i64 e2]) ?_ rfl ⟨_, _, _, rfl, ?_, ?_⟩
        rotate_left 1
        · exact unhide P2
        · unfold PrsP
          rw [if_neg (unhide HS2), unhide HE]
          exact ⟨rfl, rfl, rfl, unhide HZB⟩
        refine results_ctt (p := 2) (u := 3) (u' := 4) (ty := 27) ?_ _ _ w.heap.size _ ?_ (unhide P1) _ ?_ _ ?_ <;> rfl)
  | ok x b9 =>
    obtain ⟨v1, v2, y, v3, v4⟩ := unhide V3
    dsimp only at v1 v2
    subst v1 v2
    have hb : b ≤ s.size := hgd.2
    have HV := hide v4
    have HS := hide v3
    clear V3 v3 v4
    by_cases hlt : b < s.size
    · have HE : Hid (readR s = .err 3 b) := hide (by rw [unhide HRES, (unhide HR).1 x b rfl, if_pos hlt])
      have hltI : (b : Int) < s.size := by omega
      have HZB : Hid ((3 : Int) ≠ 0 ∧ b ≤ s.size) := hide ⟨by decide, hb⟩
      have HWR := hide (wrong_any W3 g g s _ (unhide R) 3 b)
      rw [show wrongT ⟨b, 0, 0, ww2⟩ 3 b = ⟨b, 0, 3, b⟩ from if_pos rfl] at HWR
      obtain ⟨l0, l1, l2, l3, l4⟩ := (unhide R).cells
      dsimp only at l0 l1 l2 l3 l4
      clear HR HRES hgd hlt HV HS
      go_wp2_with fail
      clear l0 l1 l2 l3 l4
      refine (unhide HWR).mono ?_; rintro e5 w5 ⟨rfl, g5, t5⟩
      have RB5 := hide ((unhide RB).kept g5 (fun e => by have := Option.some.inj e; omega))
      have BW5 := hide ((unhide BW).grown g5 (unhide BW).size (fun q hq => by have := Option.some.inj hq; omega))
      have R5 := hide t5
      clear g5 t5 HWR RB BW R hW3
      have RB := hide (unhide RB5)
      have BW := hide (unhide BW5)
      clear RB5 BW5
      obtain ⟨l0, l1, l2, l3, l4⟩ := (unhide R5).cells
      dsimp only at l0 l1 l2 l3 l4
      clear hgl0 hrl0 hbd l0 l2
      go_wp2_with fail
      obtain ⟨y0, y1, y2, y3, y4, y5⟩ := (unhide RB).cells
      obtain ⟨h0, h1, h2, h3, h4, h5⟩ := (unhide RB).frozen
      dsimp only at y1 y2 y3 y4
      have hgl := (unhide R5).lt
      have hrl := (unhide RB).lt
      have hne1 : ¬ g = w.heap.size := by omega
      have hne2 : ¬ w.heap.size = g := by omega
      have p1 := (unhide RB).loadedD 0 0 0 0 0 none 0 0
      have p2 := ((unhide BW).grown ((unhide RB).put 0 0 0 0 0 (.slice none 0 0)).2 (unhide BW).size (fun q hq => by have := Option.some.inj hq; omega)).drew
      have P1 := hide p1
      have P2 := hide p2
      clear p1 p2
      (try clear l0)
      (try clear l1)
      (try clear l2)
      (try clear hgl hrl)
      (try clear RR3)
      (try clear RR4)
      (try clear HV4)
      (try clear RB)
      (try clear R5)
      (try clear BW)
      (try clear hI)
      (try clear hs)
      (try clear hsz0)
      (try clear hsz1)
      (try clear hgb2)
      (try clear hzn)
      (try clear hg)
      (try clear hgb)
      (try clear hW3)
      (try clear hltI)
      go_big_region
      all_goals (
        go_wp2_with fail
        (try simp only [Exit.inBlock, Exit.then])
        refine bodyPost_ret_by (v := .tuple #[.agg #[.int .i64 0, .int .u64 0, .int .u64 0, .int .u64 0, .int .u64 0, .slice none 0 0], .int .i64 b, .int .i64 3]) ?_ rfl ⟨_, _, _, rfl, ?_, ?_⟩
        rotate_left 1
        · exact unhide P2
        · unfold PrsP
          rw [if_neg (unhide HS2), unhide HE]
          exact ⟨rfl, rfl, rfl, unhide HZB⟩
        refine results_ctt (p := 2) (u := 3) (u' := 4) (ty := 27) ?_ _ _ w.heap.size _ ?_ (unhide P1) _ ?_ _ ?_ <;> rfl)
    obtain rfl : b = s.size := by omega
    have hltI : ¬ ((s.size : Int) < s.size) := by omega
    have HCK := hide (rexC_any y _ W3 (unhide HV).rexV)
    rw [← (unhide HS).chk] at HCK
    have HE0 : Hid (readR s = if chkR x.rx ≠ 0 then .err (chkR x.rx) s.size else .ok x s.size) := hide (by rw [unhide HRES, (unhide HR).1 x _ rfl, if_neg hlt])
    have HXY : Hid (chkR x.rx = 0 → x.rx = y) := hide (unhide HS).same
    obtain ⟨ck, hck⟩ : ∃ ck, chkR x.rx = ck := ⟨_, rfl⟩
    rw [hck] at HCK HE0 HXY
    obtain ⟨l0, l1, l2, l3, l4⟩ := (unhide R).cells
    dsimp only at l0 l1 l2 l3 l4
    obtain ⟨u0, u1, u2, u3, u4, u5⟩ := (unhide RR3).cells
    dsimp only at u1 u2 u3 u4
    clear HR HRES hgd hlt hck HS
    go_wp2_with fail
    refine (unhide HCK).mono ?_
    rintro e w4 ⟨rfl, b4⟩
    have RB4 := hide ((unhide RB).below b4)
    have BW4 := hide (bel_trans (unhide BW) b4)
    have HV4 := hide ((unhide HV).move (N' := fun q => w.heap.size < q) b4.size fun j hj hl => ⟨b4.block j hl, hj⟩)
    have RR4 := hide ((unhide RR3).below b4)
    clear b4 RB BW HV RR3 HCK l0 l1 l2 l3 l4 u0 u1 u2 u3 u4 u5 hW3 hgb R
    obtain ⟨y0, y1, y2, y3, y4, y5⟩ := (unhide RB4).cells
    obtain ⟨h0, h1, h2, h3, h4, h5⟩ := (unhide RB4).frozen
    dsimp only at y1 y2 y3 y4
    by_cases hc0 : ck = 0
    · subst hc0
      have HE : Hid (readR s = .ok x s.size) := hide (by rw [unhide HE0, if_neg (by simp)])
      obtain ⟨u0, u1, u2, u3, u4, u5⟩ := (unhide RR4).cells
      dsimp only at u1 u2 u3 u4
      have p1 := (unhide RB4).loaded k s1 s2 s3 s4 o n c
      have p2 := ((unhide RB4).put k s1 s2 s3 s4 (.slice o n c)).2
      have P1 := hide p1
      have P2 := hide p2
      clear p1 p2 HE0
      go_wp2_with fail
      (try simp only [Exit.inBlock, Exit.then])
      refine bodyPost_ret_by (v := .tuple #[.agg #[.int .i64 k, .int .u64 s1, .int .u64 s2, .int .u64 s3, .int .u64 s4, .slice o n c], .int .i64 0, .int .i64 0]) ?_ rfl ⟨_, _, _, rfl, ?_, ?_⟩
      rotate_left 1
      · exact (unhide BW4).grown (unhide P2) (unhide BW4).size (fun q hq => by have := Option.some.inj hq; omega)
      · unfold PrsP
        rw [if_neg (unhide HS2), unhide HE]
        refine ⟨rfl, rfl, ?_⟩
        rw [show x.rx = y from (by first | exact (unhide HXY) rfl | exact (unhide HXY) trivial)]
        exact (unhide HV4).grown (unhide P2) fun j (hj : w.heap.size < j) _ => ⟨fun e => by have := Option.some.inj e; omega, by show w.heap.size ≤ j; omega⟩
      refine results_ctt (p := 2) (u := 3) (u' := 4) (ty := 27) ?_ _ _ w.heap.size _ ?_ (unhide P1) _ ?_ _ ?_ <;> rfl
    · have hzb : (ck == 0) = false := by rw [beq_eq_false_iff_ne]; exact hc0
      have hzn : (ck != 0) = true := by simpa using hc0
      have HE : Hid (readR s = .err ck s.size) := hide (by rw [unhide HE0, if_pos hc0])
      have HZB : Hid (ck ≠ 0 ∧ s.size ≤ s.size) := hide ⟨hc0, Nat.le_refl _⟩
      have p1 := (unhide RB4).loaded 0 0 0 0 0 none 0 0
      have p2 := ((unhide RB4).put 0 0 0 0 0 (.slice none 0 0)).2
      have P1 := hide p1
      have P2 := hide p2
      clear p1 p2 HE0 hc0
      go_wp2_with fail
      (try simp only [Exit.inBlock, Exit.then])
      refine bodyPost_ret_by (v := .tuple #[.agg #[.int .i64 0, .int .u64 0, .int .u64 0, .int .u64 0, .int .u64 0, .slice none 0 0], .int .i64 s.size, .int .i64 ck]) ?_ rfl ⟨_, _, _, rfl, ?_, ?_⟩
      rotate_left 1
      · exact (unhide BW4).grown (unhide P2) (unhide BW4).size (fun q hq => by have := Option.some.inj hq; omega)
      · unfold PrsP
        rw [if_neg (unhide HS2), unhide HE]
        exact ⟨rfl, rfl, rfl, unhide HZB⟩
      refine results_ctt (p := 2) (u := 3) (u' := 4) (ty := 27) ?_ _ _ w.heap.size _ ?_ (unhide P1) _ ?_ _ ?_ <;> rfl
end Go.Proofs.Ytjecopdbcaojcaa

/- What a text is read as is what the document reads it as, whatever text is handed in.
   Conditions: what is handed in is of bulk at most 1048576. -/
namespace Go.Proofs.Ytjecopdbcaojcaa.rexReads
open Go.ChangeShapes Go.WideShapes Go.ChangeAt Go.RowKit
open Go.ChangeMaps (open_string shut_string)
open Kb
set_option linter.unusedVariables false
set_option maxRecDepth 20000

/-- what is read: the tree, the place, the error's number -/
def told (s : ByteArray) : Rx × Int × Int :=
  if 200 < s.size then (.mk 0 noSet [], 0, 2) else match readR s with
    | .ok x _ => (x.rx, 0, 0)
    | .err e b => (.mk 0 noSet [], b, e)
theorem prs_told {s : ByteArray} {N : Nat → Prop} {w : World} {rv : Value} {a z : Int} (h : PrsP s N w rv a z) : RexV w rv (told s).1 ∧ a = (told s).2.1 ∧ z = (told s).2.2 := by
  have hz : RexV w zeroV (.mk 0 noSet []) := ⟨⟨.slice none 0 0, rfl, Kd.nil w⟩, ⟨⟨by show _ ≤ (0 : Int); omega, by show (0 : Int) ≤ _; omega⟩, by simp [noSet, Rx.s]⟩⟩
  unfold PrsP at h
  unfold told
  by_cases h2 : 200 < s.size
  · rw [if_pos h2] at h ⊢
    obtain ⟨rfl, h3, h4⟩ := h
    exact ⟨hz, h3, h4⟩
  · rw [if_neg h2] at h ⊢
    cases hr : readR s with
    | ok x b => rw [hr] at h; exact ⟨h.2.2.rexV, h.2.1, h.1⟩
    | err e b => rw [hr] at h; obtain ⟨rfl, h3, h4, _⟩ := h; exact ⟨hz, h3, h4⟩
theorem rexV_form {w : World} {v : Value} {x : Rx} (h : RexV w v x) : ∃ k s1 s2 s3 s4 o n c, v = .agg #[.int .i64 k, .int .u64 s1, .int .u64 s2, .int .u64 s3, .int .u64 s4, .slice o n c] := by
  obtain ⟨e, h1, h2⟩ := h.val
  obtain ⟨o, c, rfl, _⟩ := h2.form
  exact ⟨_, _, _, _, _, o, _, c, by rw [h1]; rfl⟩
set_option maxHeartbeats 4000000 in
theorem walk (a0 : ByteArray) (hb : a0.size ≤ 1048576) (w : World) :
    Calls Try.prog 3 #[.string a0] w fun e w' => e = .returned (.bool true) ∧ Below w.heap.size w w' := by
  have HP := hide (fun W => Parse_any a0 W)
  have HD := hide (fun W => ReadRex_any a0 W)
  go_enter Try.func3, Try.ntmps3
  go_wp2_with fail
  refine ((unhide HP) w).mono ?_
  rintro e w1 ⟨rv, a1, z1, rfl, b1, hp1⟩
  obtain ⟨hv1, h2, h3⟩ := prs_told hp1
  obtain ⟨k, s1, s2, s3, s4, o, n, c, rfl⟩ := rexV_form hv1
  have bb := (Below.refl w1.heap.size w1).alloc (Nat.le_refl _) (.cells #[.int .i64 k, .int .u64 s1, .int .u64 s2, .int .u64 s3, .int .u64 s4, .slice o n c] 27)
  have B2 := hide (bel_trans b1 bb)
  have V2 := hide (hv1.below bb)
  have M2 := hide (RX.new (base := w.heap.size) w1 b1.size k ⟨s1, s2, s3, s4⟩ (.slice o n c))
  obtain ⟨g1, hg1⟩ : ∃ g, w1.heap.size = g := ⟨_, rfl⟩
  dsimp only at M2
  obtain ⟨W2, hW2⟩ : ∃ W, w1.alloc (.cells #[.int .i64 k, .int .u64 s1, .int .u64 s2, .int .u64 s3, .int .u64 s4, .slice o n c] 27) = W := ⟨_, rfl⟩
  rw [hW2] at B2 V2 M2
  rw [hg1] at M2
  have H23 := hide (And.intro h2 h3)
  clear h2 h3 hp1 hv1 b1 bb HP
  go_wp2_with fail
  clear hW2 hg1
  refine ((unhide HD) W2).mono ?_
  rintro e w3 ⟨rv2, a2, z2, rfl, b3, hp2⟩
  obtain ⟨hv2, h2, h3⟩ := prs_told hp2
  obtain ⟨rfl, rfl⟩ : a1 = a2 ∧ z1 = z2 := ⟨(unhide H23).1.trans h2.symm, (unhide H23).2.trans h3.symm⟩
  obtain ⟨k', t1, t2, t3, t4, o', n', c', rfl⟩ := rexV_form hv2
  have bb := (Below.refl w3.heap.size w3).alloc (Nat.le_refl _) (.cells #[.int .i64 k', .int .u64 t1, .int .u64 t2, .int .u64 t3, .int .u64 t4, .slice o' n' c'] 27)
  have B4 := hide (bel_trans (unhide B2) (bel_trans b3 bb))
  have V4 := hide (((unhide V2).below b3).below bb)
  have U4 := hide (hv2.below bb)
  have M4 := hide (((unhide M2).below b3).below bb)
  have N4 := hide (RX.new (base := w.heap.size) w3 (Nat.le_trans (unhide B2).size b3.size) k' ⟨t1, t2, t3, t4⟩ (.slice o' n' c'))
  obtain ⟨g2, hg2⟩ : ∃ g, w3.heap.size = g := ⟨_, rfl⟩
  dsimp only at N4
  obtain ⟨W4, hW4⟩ : ∃ W, w3.alloc (.cells #[.int .i64 k', .int .u64 t1, .int .u64 t2, .int .u64 t3, .int .u64 t4, .slice o' n' c'] 27) = W := ⟨_, rfl⟩
  rw [hW4] at B4 V4 U4 M4 N4
  rw [hg2] at N4
  clear h2 h3 hp2 hv2 b3 bb HD B2 V2 M2 H23
  obtain ⟨x0, x1, x2, x3, x4, x5⟩ := (unhide M4).cells
  obtain ⟨y0, y1, y2, y3, y4, y5⟩ := (unhide N4).cells
  dsimp only at x1 x2 x3 x4 y1 y2 y3 y4
  have HS := hide (sameRex_any _ _ _ _ W4 (unhide V4) (unhide U4))
  go_wp2_with fail
  refine (unhide HS).mono ?_
  rintro e w5 ⟨bl, rfl, hbl, b5⟩
  obtain rfl : bl = true := hbl.2 (by first | rfl | trivial)
  have B5 := hide (bel_trans (unhide B4) b5)
  clear hbl b5
  go_wp2_with fail
  go_ret
  exact ⟨by first | rfl | (simp; done), unhide B5⟩
theorem own : ownKnob Try.prog.godebug = none := by kernel_rfl

theorem small_of {H : Type} {a0 : ByteArray} (hk : Rows.uptoSmall H ([.lit (.string a0.data.toList)] ++ []) = true) : a0.size ≤ 1048576 := by
  have h := of_decide_eq_true hk
  simp only [Rows.uptoBulkAll, Rows.uptoBulk, List.append_nil, Array.length_toList, ByteArray.size_data] at h
  omega

theorem contract (H : Type) (enc : TypeId × Value → H) (W : World) (base : Nat) (args : Array Value) (ds gs : List (DataW H)) (before : List MemPlace) (hsh : W.ShapedOpen Try.prog)
    (hval0 : ∀ (j : Nat) t v, Try.f3.params[j]? = some t → args[j]? = some v → Value.okWide Try.prog W .any base t v)
    (hW : DataW.Whole enc Try.prog Try.f3.params.toList Rows.rexReadsSpec.vars false W args.toList ds gs before) (hk : Rows.uptoSmall H (ds ++ gs) = true) :
    Calls Try.prog 3 args W fun e W' => ∃ v, e = .returned v ∧ Rows.rexReadsSpec.post enc Try.prog Try.f3 false true false false W args v W' := by
  have hval : ∀ (j : Nat) t v, Try.f3.params[j]? = some t → args[j]? = some v → Value.okWide Try.prog W .any base t v := hval0
  have hW' := hW
  obtain ⟨p, q, hA0, hV, rfl, hfz, hnd⟩ := hW
  have hA : DataW.TrodAll enc Try.prog W 0 (fun _ => true) true Try.f3.params.toList args.toList ds p := hA0
  rw [Try.params3] at hA hval
  obtain ⟨v0, vs0, d0, ds0, p0, q0, hargs, rfl, rfl, h0, r0⟩ := trodAll_cons hA
  obtain ⟨rfl, rfl, rfl⟩ := trodAll_nil r0
  obtain rfl : args = #[v0] := by cases args; simp_all
  obtain ⟨rfl, rfl⟩ := trodVars_none hV
  obtain ⟨a0, rfl, rfl, rfl, w0⟩ := open_string Try.underlying9 (hval 0 9 v0 rfl rfl) h0
  clear hA0 hval0
  simp only [List.append_nil] at hW'
  refine (walk a0 (small_of hk) W).mono fun e W' ⟨he, hb⟩ => ?_
  subst he
  exact ⟨_, rfl, _, _, _, [], [], [], hW', (trodAll_cons_mk (shut_bool Try.underlying4 _) trodAll_mk0), (trodAll_cons_mk (shut_string Try.underlying9 w0) trodAll_mk0), rfl, hb.frame _, fun h => by cases h⟩

set_option maxRecDepth 100000 in
theorem lifted (os : Os) (started : os.Started) (H : Type) (enc : TypeId × Value → H) (F : Stop.Interp) :
    ReturnsInHanded {} Try.checked os 3 .any ((Rows.OpenSpec.upto Rows.rexReadsSpec).pre6 enc Try.prog Try.f3 Rows.rexReadsUptoRow.domain false) (((Rows.OpenSpec.upto Rows.rexReadsSpec).at F).post enc Try.prog Try.f3 false true false false) := by
  refine cond_shaped (C := Try.checked) (s := Rows.OpenSpec.upto Rows.rexReadsSpec) (k := Rows.uptoSmall) rfl own started (by kernel_rfl) Try.func3
    (OpenSpec.witness (enc := enc) (C := Try.checked) (s := Rows.OpenSpec.upto Rows.rexReadsSpec) (k := Rows.uptoSmall) rfl false ⟨#[], #[.string ByteArray.empty], []⟩ 8 (by kernel_rfl) (by kernel_rfl) (by kernel_rfl)
      (x := ([.lit (.string [])], [], [])) (by kernel_rfl) rfl (by kernel_rfl)) ?_
  intro W base args ds gs before hsh hval hW hk
  exact contract H enc W base args ds gs before hsh hval hW hk

theorem over : Rows.RexReadsUptoSaid :=
  OpenClaim.holds_of_cond 3 Try.f3 rfl rfl rfl rfl rfl rfl rfl ⟨rfl, rfl, rfl, rfl, rfl⟩ rfl rfl rfl rfl rfl (by kernel_rfl) Try.func3 (by kernel_rfl)
    (of_decide_eq_true (by kernel_rfl)) (by unfold Func.isWrapper; first | (rw [if_pos (by decide +kernel)]; kernel_rfl) | (rw [if_neg (by decide +kernel)]; exact ⟨rfl, rfl⟩))
    (fun os started H enc _ F => lifted os started H enc F)
end Go.Proofs.Ytjecopdbcaojcaa.rexReads
namespace Go.Proofs.Ytjecopdbcaojcaa
theorem rexReads_holds : Rows.RexReadsUptoSaid := rexReads.over
#print axioms rexReads_holds
end Go.Proofs.Ytjecopdbcaojcaa
