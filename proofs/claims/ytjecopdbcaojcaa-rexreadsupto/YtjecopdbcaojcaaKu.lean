/- The program's reader: choices. -/
import Derived.Test.YtjecopdbcaojcaaKt
namespace Go.Proofs.Ytjecopdbcaojcaa
open Go.RowKit Kb
set_option linter.unusedVariables false
set_option maxRecDepth 20000

set_option maxHeartbeats 16000000 in
theorem alt_any (s : ByteArray) (hs : s.size ≤ 100000) (op : Nat) (grp : Nat → Rs) (hgood : GoodG s grp) (HA : RdC 27 s op (rowR s grp) (fun _ => True)) : RdC 14 s op (altR s grp) (fun _ => True) := by
  intro w B g a h ha _
  have A0 := hide (At0.start h)
  have hgd := rowR_le hgood a ha
  obtain ⟨r, hr⟩ : ∃ r, altR s grp a = r := ⟨_, rfl⟩
  rw [hr]
  have HR : Hid ((∀ x b, rowR s grp a = .ok x b → r = altL s grp x b) ∧ (∀ e b, rowR s grp a = .err e b → r = .err e b)) := hide ⟨fun x b h => by rw [← hr, altR, h], fun e b h => by rw [← hr, altR, h]⟩
  have HC := hide (HA _ B g a (unhide A0).rd ha trivial)
  obtain ⟨q, hq⟩ : ∃ q, rowR s grp a = q := ⟨_, rfl⟩
  rw [hq] at HR HC hgd
  clear hr h hq
  go_enter Try.func14, Try.ntmps14
  go_wp2_with fail
  refine (unhide HC).mono ?_
  rintro e w2 ⟨rv, z, rfl, g2, V2, r2⟩
  have A2 := hide ((unhide A0).step g2 r2)
  obtain ⟨k, ⟨s1, s2, s3, s4⟩, o, n, c, rfl⟩ := V2.form
  have A3 := hide (At1.start (unhide A2) k ⟨s1, s2, s3, s4⟩ (.slice o n c))
  have HST : Hid (q.at_ ≤ s.size ∧ ((z = 0 ∧ ∃ x : Ex, RexN (NB w w2.heap.size) w2 (.agg #[.int .i64 k, .int .u64 s1, .int .u64 s2, .int .u64 s3, .int .u64 s4, .slice o n c]) x.rx ∧ r = altL s grp x q.at_) ∨ (z ≠ 0 ∧ r = .err z q.at_))) := hide (by
    cases q with
    | ok x b =>
      refine ⟨hgd.2, .inl ⟨V2.1, x, ?_, (unhide HR).1 x b rfl⟩⟩
      exact V2.2.move (Nat.le_refl _) fun j hj hl => ⟨rfl, by have := (unhide A0).sz; omega, by omega⟩
    | err e b => exact ⟨hgd, .inr ⟨by rw [V2.1]; exact V2.2.1, by rw [(unhide HR).2 e b rfl, V2.1]; rfl⟩⟩)
  dsimp only at A3
  obtain ⟨b0, hb0⟩ : ∃ b0, q.at_ = b0 := ⟨_, rfl⟩
  rw [hb0] at HST A3
  obtain ⟨gb, hgb⟩ : ∃ gb, w2.heap.size = gb := ⟨_, rfl⟩
  obtain ⟨W3, hW3⟩ : ∃ W3, w2.alloc (.cells #[.int .i64 k, .int .u64 s1, .int .u64 s2, .int .u64 s3, .int .u64 s4, .slice o n c] 27) = W3 := ⟨_, rfl⟩
  have HST2 : Hid (b0 ≤ s.size ∧ ((z = 0 ∧ ∃ x : Ex, RexN (NB w gb) W3 (.agg #[.int .i64 k, .int .u64 s1, .int .u64 s2, .int .u64 s3, .int .u64 s4, .slice o n c]) x.rx ∧ r = altL s grp x b0) ∨ (z ≠ 0 ∧ r = .err z b0))) := hide (by
    obtain ⟨h1, h2⟩ := unhide HST
    rw [hgb] at h2
    refine ⟨h1, ?_⟩
    rcases h2 with ⟨hz, x, hx, hrr⟩ | h2
    · exact .inl ⟨hz, x, by rw [← hW3]; exact NBalloc hx _, hrr⟩
    · exact .inr h2)
  rw [hW3, hgb] at A3
  clear HST g2 r2 V2 HC HR hb0 A0 A2 hgd
  go_wp2_with fail
  clear hW3 hgb
  go_loopw [5] (fun x wr => ∃ (z : Int) (b : Nat) (k s1 s2 s3 s4 : Int) (o : Option Addr) (n c : Nat), x = .int .i64 z ∧ At1 w wr B g s b op gb k ⟨s1, s2, s3, s4⟩ (.slice o n c) ∧ b ≤ s.size ∧ ((z = 0 ∧ ∃ x : Ex, RexN (NB w gb) wr (.agg #[.int .i64 k, .int .u64 s1, .int .u64 s2, .int .u64 s3, .int .u64 s4, .slice o n c]) x.rx ∧ r = altL s grp x b) ∨ (z ≠ 0 ∧ r = .err z b))) (fun x wr => if intOf x = 0 then s.size + 1 - cellI wr g 1 else 0)
  case atStart => exact ⟨z, b0, k, s1, s2, s3, s4, o, n, c, rfl, unhide A3, unhide HST2⟩
  case round =>
    clear HST2 A3
    obtain ⟨z, b, k, s1, s2, s3, s4, o, n, c, rfl, hA, hb, hst⟩ := hrel
    have A := hide hA
    have HM0 : Hid (cellI wr g 1 = b) := hide hA.rd.cellI
    clear hA
    rcases hst with ⟨rfl, x, hx, hrr⟩ | ⟨hz, hrr⟩
    · have V := hide hx
      have HRR := hide hrr
      clear hx hrr
      have HTK := hide (take_any _ B g s b op 124 (unhide A).rd hs hb)
      by_cases k124 : pkB s b = 124
      · have hlt := pk_some k124 (by decide)
        have hpg := rowR_le hgood (b + 1) hlt
        obtain ⟨qq, hqq⟩ : ∃ qq, rowR s grp (b + 1) = qq := ⟨_, rfl⟩
        have HQ := hide hqq
        have HNX : Hid ((∀ y c, qq = .ok y c → r = altL s grp (.alt x y) c ∧ b < c ∧ c ≤ s.size) ∧ (∀ e c, qq = .err e c → r = .err e c ∧ c ≤ s.size)) := hide (by
          constructor
          · intro y c h
            rw [h] at hqq
            rw [hqq] at hpg
            exact ⟨by rw [unhide HRR, altL_go hgood k124 hqq], by have := hpg.1; omega, hpg.2⟩
          · intro e c h
            rw [h] at hqq
            rw [hqq] at hpg
            exact ⟨by rw [unhide HRR, altL_err k124 hqq], hpg⟩)
        rw [decide_eq_true k124, (tk_dec s b 124).1 (decide_eq_true k124)] at HTK
        clear k124 hqq hpg HRR
        go_wp2_with fail
        refine (unhide HTK).mono ?_
        rintro e w4 ⟨rfl, g4, r4⟩
        have A4 := hide ((unhide A).step g4 r4)
        have V4 := hide (NBstep (unhide V) g4 (unhide A).lt)
        clear g4 r4 HTK A V
        have hsz4 := (unhide A4).gsz
        have hwz4 := (unhide A4).sz
        have A5 := hide ((unhide A4).alloc (.cells #[.int .i64 0, .int .u64 0, .int .u64 0, .int .u64 0, .int .u64 0, .slice none 0 0] 27))
        have V5 := hide (NMbelow (NBtoNM (unhide V4) (Nat.le_refl _)) ((Below.refl _ w4).alloc (Nat.le_refl _) (.cells #[.int .i64 0, .int .u64 0, .int .u64 0, .int .u64 0, .int .u64 0, .slice none 0 0] 27)))
        have M5 := hide (RX.new (base := w.heap.size) w4 (Nat.le_of_lt hwz4) 0 ⟨0, 0, 0, 0⟩ (.slice none 0 0))
        obtain ⟨gm, hgm⟩ : ∃ gm, w4.heap.size = gm := ⟨_, rfl⟩
        rw [hgm] at V5 M5 hsz4 hwz4
        dsimp only at M5
        obtain ⟨W5, hW5⟩ : ∃ W5, w4.alloc (.cells #[.int .i64 0, .int .u64 0, .int .u64 0, .int .u64 0, .int .u64 0, .slice none 0 0] 27) = W5 := ⟨_, rfl⟩
        have hgm5 : gm < W5.heap.size := by rw [← hW5, ← hgm]; simp
        rw [hW5] at A5 V5 M5
        have HC := hide (HA W5 B g (b + 1) (unhide A5).rd (by omega) trivial)
        rw [unhide HQ] at HC
        clear A4 V4
        go_wp2_with fail
        clear hW5 hgm
        refine (unhide HC).mono ?_
        rintro e w6 ⟨rv', z', rfl, g6, V6, r6⟩
        have A6 := hide ((unhide A5).step g6 r6)
        have VX := hide (NMstep (unhide V5) g6 (unhide A5).lt)
        have M6 := hide ((unhide M5).kept g6 (fun e => by have := (unhide A5).lt; cases e; omega))
        obtain ⟨k', ⟨t1, t2, t3, t4⟩, o', n', c', rfl⟩ := V6.form
        have HV6 : Hid ((z' = 0 ∧ ∃ y c, qq = .ok y c ∧ RexN (NM w gb gm) w6 (.agg #[.int .i64 k', .int .u64 t1, .int .u64 t2, .int .u64 t3, .int .u64 t4, .slice o' n' c']) y.rx) ∨ (z' ≠ 0 ∧ ∃ c, qq = .err z' c)) := hide (by
          cases qq with
          | ok y c => exact .inl ⟨V6.1, y, c, rfl, GEtoNM V6.2 (by omega) (by omega) hgm5⟩
          | err e c => exact .inr ⟨by rw [V6.1]; exact V6.2.1, c, by rw [V6.1]⟩)
        clear g6 r6 V6 A5 V5 M5 HC
        dsimp only at *
        obtain ⟨m0, m1, m2, m3, m4, m5⟩ := (unhide M6).cells
        obtain ⟨j0, j1, j2, j3, j4, j5⟩ := (unhide M6).frozen
        dsimp only at m1 m2 m3 m4
        obtain ⟨M7, p7⟩ := (unhide M6).put k' t1 t2 t3 t4 (.slice o' n' c')
        have A7 := hide ((unhide A6).other p7 hwz4 (by omega))
        have VX7 := hide (NMput (unhide VX) p7)
        have HV7 : Hid ((z' = 0 ∧ ∃ y c, qq = .ok y c ∧ RexN (NM w gb gm) (put6 w6 gm k' t1 t2 t3 t4 (.slice o' n' c')) (.agg #[.int .i64 k', .int .u64 t1, .int .u64 t2, .int .u64 t3, .int .u64 t4, .slice o' n' c']) y.rx) ∨ (z' ≠ 0 ∧ ∃ c, qq = .err z' c)) := hide (by
          rcases unhide HV6 with ⟨h1, y, c, h2, h3⟩ | h
          · exact .inl ⟨h1, y, c, h2, NMput h3 p7⟩
          · exact .inr h)
        obtain ⟨W7, hW7⟩ : ∃ W7, (((((w6.setCell ⟨gm, 0, none⟩ (.int .i64 k')).setCell ⟨gm, 1, none⟩ (.int .u64 t1)).setCell ⟨gm, 2, none⟩ (.int .u64 t2)).setCell ⟨gm, 3, none⟩ (.int .u64 t3)).setCell ⟨gm, 4, none⟩ (.int .u64 t4)).setCell ⟨gm, 5, none⟩ (.slice o' n' c') = W7 := ⟨_, rfl⟩
        have hW7' : put6 w6 gm k' t1 t2 t3 t4 (.slice o' n' c') = W7 := hW7
        rw [hW7'] at M7 A7 VX7 HV7
        clear p7 HV6 VX A6 M6 hW7'
        obtain ⟨x0, x1, x2, x3, x4, x5⟩ := M7.cells
        obtain ⟨y0, y1, y2, y3, y4, y5⟩ := (unhide A7).box.cells
        dsimp only at y1 y2 y3 y4 x1 x2 x3 x4
        have hg7 := (unhide A7).gsz
        have hm7 := M7.lt.2
        clear M7
        go_wp2_with fail
        clear hW7 m0 m1 m2 m3 m4 m5 j0 j1 j2 j3 j4 j5
        refine (nodeR_any 5 _ 2 2 _).mono ?_
        rintro e w8 ⟨rfl, b8⟩
        have A8 := hide (((unhide A7).alloc _).below b8)
        have H8 := hide (heap_of b8)
        have VX8 := hide (NBbelow (NBalloc (NMtoNB (unhide VX7)) _) b8)
        have HV8 : Hid ((z' = 0 ∧ ∃ y c, qq = .ok y c ∧ RexN (NB w gb) w8 (.agg #[.int .i64 5, .int .u64 0, .int .u64 0, .int .u64 0, .int .u64 0, .slice (some ⟨W7.heap.size, 0, none⟩) 2 2]) (Ex.alt x y).rx) ∨ (z' ≠ 0 ∧ ∃ c, qq = .err z' c)) := hide (by
          rcases unhide HV7 with ⟨h1, y, c, h2, h3⟩ | h
          · exact .inl ⟨h1, y, c, h2, rexN_two (s := ⟨s1, s2, s3, s4⟩) (s' := ⟨t1, t2, t3, t4⟩) (unhide VX8) (NBbelow (NBalloc (NMtoNB h3) _) b8) ⟨(unhide A7).sz, (Nat.ne_of_lt hg7).symm⟩ (unhide H8) (k := 5) (by omega)⟩
          · exact .inr h)
        obtain ⟨gk, hgk⟩ : ∃ gk, W7.heap.size = gk := ⟨_, rfl⟩
        rw [hgk] at HV8 ⊢
        clear b8 HV7 VX7 VX8 H8 A7 hg7 hm7 hgk x0 x1 x2 x3 x4 x5 y0 y1 y2 y3 y4 y5
        obtain ⟨y0, y1, y2, y3, y4, y5⟩ := (unhide A8).box.cells
        obtain ⟨h0, h1, h2, h3, h4, h5⟩ := (unhide A8).box.frozen
        dsimp only at y1 y2 y3 y4
        have hg8 := (unhide A8).gsz
        go_wp2_with fail
        obtain ⟨A9, p9⟩ := (unhide A8).put 5 0 0 0 0 (.slice (some ⟨gk, 0, none⟩) 2 2)
        have HNN := unhide HNX
        have HVV := unhide HV8
        refine ⟨⟨z', qq.at_, 5, 0, 0, 0, 0, some ⟨gk, 0, none⟩, 2, 2, rfl, A9, ?_, ?_⟩, ?_⟩
        · rcases HVV with ⟨_, y, c, h2, _⟩ | ⟨_, c, h2⟩
          · rw [h2]; exact (HNN.1 y c h2).2.2
          · rw [h2]; exact (HNN.2 z' c h2).2
        · rcases HVV with ⟨hz, y, c, h2, h3⟩ | ⟨hz, c, h2⟩
          · refine .inl ⟨hz, .alt x y, NBput h3 p9, ?_⟩
            rw [(HNN.1 y c h2).1, h2]; rfl
          · refine .inr ⟨hz, ?_⟩
            rw [(HNN.2 z' c h2).1, h2]; rfl
        · show (if intOf (Value.int .i64 z') = 0 then s.size + 1 - cellI (put6 w8 gb 5 0 0 0 0 (.slice (some ⟨gk, 0, none⟩) 2 2)) g 1 else 0) < (if intOf (Value.int .i64 0) = 0 then s.size + 1 - cellI wr g 1 else 0)
          rw [A9.rd.cellI, unhide HM0, if_pos (show intOf (Value.int .i64 0) = 0 from rfl)]
          rcases HVV with ⟨hz, y, c, h2, h3⟩ | ⟨hz, c, h2⟩
          · have := HNN.1 y c h2
            rw [h2]
            show (if intOf (Value.int .i64 z') = 0 then s.size + 1 - c else 0) < s.size + 1 - b
            split <;> omega
          · rw [if_neg (show ¬ intOf (Value.int .i64 z') = 0 from hz)]
            omega
      · have HE : Hid (r = .ok x b) := hide (by rw [unhide HRR, altL_end k124])
        rw [decide_eq_false k124, (tk_dec s b 124).2 (decide_eq_false k124)] at HTK
        clear k124 HRR
        go_wp2_with fail
        refine (unhide HTK).mono ?_
        rintro e w4 ⟨rfl, g4, r4⟩
        have A4 := hide ((unhide A).step g4 r4)
        have V4 := hide (NBstep (unhide V) g4 (unhide A).lt)
        clear g4 r4 HTK A V
        have V6 : Hid (RsP (fun q => w.heap.size < q) _ r (.agg #[.int .i64 k, .int .u64 s1, .int .u64 s2, .int .u64 s3, .int .u64 s4, .slice o n c]) 0) := hide (by
          rw [unhide HE]; exact ⟨rfl, (unhide V4).mono fun q hq => hq.1⟩)
        have A6 : Hid (At1 w _ B g s r.at_ op gb k ⟨s1, s2, s3, s4⟩ (.slice o n c)) := hide (by rw [unhide HE]; exact unhide A4)
        obtain ⟨u0, u1, u2, u3, u4, u5⟩ := (unhide A6).box.cells
        dsimp only at u1 u2 u3 u4
        have hg6 := (unhide A6).gsz
        have hg7 := (unhide A6).hgb
        clear A4 V4
        obtain ⟨y0, y1, y2, y3, y4, y5⟩ := (unhide A6).toAt0.rb.cells
        obtain ⟨h0, h1, h2, h3, h4, h5⟩ := (unhide A6).toAt0.rb.frozen
        dsimp only at y1 y2 y3 y4
        have F := hide ((unhide A6).toAt0.fin (unhide V6))
        go_wp2_with fail
        (try simp only [Exit.inBlock, Exit.then])
        refine bodyPost_ret_by (v := .tuple #[.agg #[.int .i64 k, .int .u64 s1, .int .u64 s2, .int .u64 s3, .int .u64 s4, .slice o n c], .int .i64 0]) ?_ rfl ⟨_, _, rfl, (unhide F).2.1, (unhide F).2.2.2, (unhide F).2.2.1⟩
        exact results_ct (ty := 27) rfl _ _ w.heap.size _ rfl (unhide F).1 _ rfl
    · have hzb : (z == 0) = false := by rw [beq_eq_false_iff_ne]; exact hz
      have V6 : Hid (RsP (fun q => w.heap.size < q) wr r (.agg #[.int .i64 k, .int .u64 s1, .int .u64 s2, .int .u64 s3, .int .u64 s4, .slice o n c]) z) := hide (by
        rw [hrr]; exact err_ok hz)
      have A6 : Hid (At1 w wr B g s r.at_ op gb k ⟨s1, s2, s3, s4⟩ (.slice o n c)) := hide (by rw [hrr]; exact unhide A)
      obtain ⟨u0, u1, u2, u3, u4, u5⟩ := (unhide A6).box.cells
      dsimp only at u1 u2 u3 u4
      have hg6 := (unhide A6).gsz
      have hg7 := (unhide A6).hgb
      clear A hz hrr
      obtain ⟨y0, y1, y2, y3, y4, y5⟩ := (unhide A6).toAt0.rb.cells
      obtain ⟨h0, h1, h2, h3, h4, h5⟩ := (unhide A6).toAt0.rb.frozen
      dsimp only at y1 y2 y3 y4
      have F := hide ((unhide A6).toAt0.fin (unhide V6))
      go_wp2_with fail
      (try simp only [Exit.inBlock, Exit.then])
      refine bodyPost_ret_by (v := .tuple #[.agg #[.int .i64 k, .int .u64 s1, .int .u64 s2, .int .u64 s3, .int .u64 s4, .slice o n c], .int .i64 z]) ?_ rfl ⟨_, _, rfl, (unhide F).2.1, (unhide F).2.2.2, (unhide F).2.2.1⟩
      exact results_ct (ty := 27) rfl _ _ w.heap.size _ rfl (unhide F).1 _ rfl
end Go.Proofs.Ytjecopdbcaojcaa
