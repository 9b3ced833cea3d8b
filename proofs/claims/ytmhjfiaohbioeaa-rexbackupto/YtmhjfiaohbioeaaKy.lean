/- The program's reader: apart, walked. -/
import Derived.Test.YtmhjfiaohbioeaaKx
namespace Go.Proofs.Ytmhjfiaohbioeaa
open Go.RowKit Kb
set_option linter.unusedVariables false
set_option maxRecDepth 20000

/-- what apart does with an expression -/
def APC (r : Rx) : Prop := ∀ (w : World) (v : Value), RexV w v r →
  Calls Try.prog 15 #[v] w fun e w' => ∃ v', e = .returned v' ∧ RexN (fun q => w.heap.size ≤ q) w' v' r ∧ Below w.heap.size w w'
set_option maxHeartbeats 8000000 in
theorem apart_node (k : Int) (s : Se) (l : List Rx) (hl : l.length ≤ 1000000) (IH : ∀ x ∈ l, APC x) : APC (.mk k s l) := by
  intro w v hV
  have hfit := hV.fit
  obtain ⟨t, ht, hk⟩ := hV.val
  simp only [Rx.ks] at hk
  obtain ⟨ps, hp, hps, hcl⟩ := hk.list
  obtain ⟨o, c, hv, _⟩ := hk.form
  obtain ⟨s1, s2, s3, s4⟩ := s
  unfold rexV at ht
  simp only [Rx.k, Rx.s] at ht
  subst ht
  have A0 : Hid (RX ((w.alloc (.cells #[.int .i64 k, .int .u64 s1, .int .u64 s2, .int .u64 s3, .int .u64 s4, t] 27)).alloc (.cells #[.int .i64 0, .int .u64 0, .int .u64 0, .int .u64 0, .int .u64 0, .slice none 0 0] 27)) w.heap.size w.heap.size k ⟨s1, s2, s3, s4⟩ t) := hide ((RX.new w (Nat.le_refl _) k ⟨s1, s2, s3, s4⟩ t).below ((Below.refl _ _).alloc (Nat.le_refl _) _))
  have A1 := hide (RX.new (base := w.heap.size) (w.alloc (.cells #[.int .i64 k, .int .u64 s1, .int .u64 s2, .int .u64 s3, .int .u64 s4, t] 27)) (by simp) 0 ⟨0, 0, 0, 0⟩ (.slice none 0 0))
  have B0 := hide (((Below.refl w.heap.size w).alloc (Nat.le_refl _) (.cells #[.int .i64 k, .int .u64 s1, .int .u64 s2, .int .u64 s3, .int .u64 s4, t] 27)).alloc (by simp) (.cells #[.int .i64 0, .int .u64 0, .int .u64 0, .int .u64 0, .int .u64 0, .slice none 0 0] 27))
  rw [show (w.alloc (.cells #[.int .i64 k, .int .u64 s1, .int .u64 s2, .int .u64 s3, .int .u64 s4, t] 27)).heap.size = w.heap.size + 1 by simp] at A1
  dsimp only at A1
  obtain ⟨W0, hW0⟩ : ∃ W0, (w.alloc (.cells #[.int .i64 k, .int .u64 s1, .int .u64 s2, .int .u64 s3, .int .u64 s4, t] 27)).alloc (.cells #[.int .i64 0, .int .u64 0, .int .u64 0, .int .u64 0, .int .u64 0, .slice none 0 0] 27) = W0 := ⟨_, rfl⟩
  have hsz0 : W0.heap.size = w.heap.size + 2 := by rw [← hW0]; simp
  rw [hW0] at A0 A1 B0
  have HCL := hide (clone_any W0 t l ps (Kd.below (unhide B0) _ _ _ (Nat.le_refl _) hk) hp (fun p hpm => ⟨(hps p hpm).1, Kd.below (unhide B0) _ _ _ (Nat.le_refl _) (hps p hpm).2⟩) (fun hne => by
    obtain ⟨g, off, c, h1, h2, h3⟩ := hcl hne
    exact ⟨g, off, c, h1, Nat.lt_of_lt_of_le h2 (unhide B0).size, fun j u hu => cell_below (h3 j u hu) h2 (unhide B0)⟩) hl)
  have HREC := hide (fun (x : Rx) (e : Value) (hm : (x, e) ∈ ps) (W : World) (bb : Below w.heap.size w W) => IH x (by rw [← hp]; exact List.mem_map.2 ⟨_, hm, rfl⟩) W (rexV x e) ⟨⟨e, rfl, Kd.below bb _ _ _ (Nat.le_refl _) (hps (x, e) hm).2⟩, (hps (x, e) hm).1⟩)
  have HFORM := hide (fun (x : Rx) (e : Value) (hm : (x, e) ∈ ps) => (hps (x, e) hm).2.form)
  have HP := hide hp
  have HFIT := hide hfit
  subst hv
  obtain ⟨y0, y1, y2, y3, y4, y5⟩ := (unhide A0).cells
  have f5 := (unhide A0).frozen.2.2.2.2.2
  clear hk hps hcl hV IH hfit hp
  go_enter Try.func15, Try.ntmps15
  go_wp2_with fail
  refine (unhide HCL).mono ?_
  rintro e w1 ⟨v', rfl, b1, own1⟩
  clear hW0 y0 y1 y2 y3 y4 y5 f5 HCL
  have A2 := hide ((unhide A0).below b1)
  obtain ⟨o', c', hv'⟩ := own_forms own1
  subst hv'
  obtain ⟨st, gr⟩ := World.ownsRow.stored (unhide A2) 5 (.slice o' l.length c')
  rw [hsz0] at own1
  have AP0 : Hid (AP w (w1.setCell ⟨w.heap.size, 5, none⟩ (.slice o' l.length c')) k ⟨s1, s2, s3, s4⟩ (.slice o' l.length c') l ps ps 0) := hide (by
    refine ⟨(bel_trans (unhide B0) b1).grown gr (bel_trans (unhide B0) b1).size (fun q hq => by cases hq; omega), st, ((unhide A1).below b1).kept gr (fun e => by have := Option.some.inj e; omega), own1.kept gr (.inr (fun e => ?_)), unhide HP, fun j p hj => by omega, fun j _ => rfl⟩
    have := own1.lt w.heap.size e
    omega)
  obtain ⟨y0, y1, y2, y3, y4, y5⟩ := (unhide A2).cells
  have f5 := (unhide A2).frozen.2.2.2.2.2
  dsimp only at y1 y2 y3 y4
  obtain ⟨W2, hW2⟩ : ∃ W2, w1.setCell ⟨w.heap.size, 5, none⟩ (.slice o' l.length c') = W2 := ⟨_, rfl⟩
  rw [hW2] at AP0
  obtain ⟨z0, z1, z2, z3, z4, z5⟩ := (unhide AP0).b1.cells
  dsimp only at z1 z2 z3 z4
  clear st gr b1 own1 A0 A1 B0
  go_wp2_with fail
  clear hW2 A2 y0 y1 y2 y3 y4 y5 f5 z0 z1 z2 z3 z4 z5
  go_loopw [12] (fun x wr => ∃ (i : Nat) (qs : List (Rx × Value)), x = .int .i64 i ∧ i ≤ l.length ∧ AP w wr k ⟨s1, s2, s3, s4⟩ (.slice o' l.length c') l ps qs i) (fun x _ => l.length - (intOf x).toNat)
  case atStart => exact ⟨0, ps, rfl, Nat.zero_le _, unhide AP0⟩
  case round =>
    clear AP0
    obtain ⟨i, qs, rfl, hi, hA⟩ := hrel
    have A := hide hA
    clear hA
    by_cases hil : i < l.length
    · obtain ⟨x, hx⟩ : ∃ x, l[i]? = some x := ⟨l[i], List.getElem?_eq_getElem hil⟩
      obtain ⟨e, hpe⟩ : ∃ e, ps[i]? = some (x, e) := by
        have h1 : (ps.map Prod.fst)[i]? = some x := by rw [unhide HP, hx]
        rw [List.getElem?_map] at h1
        obtain ⟨p, hp1, hp2⟩ := Option.map_eq_some_iff.1 h1
        exact ⟨p.2, by rw [hp1, ← hp2]⟩
      have hmem := List.mem_of_getElem? hpe
      have hqi : qs[i]? = some (x, e) := by rw [(unhide A).old i (Nat.le_refl _), hpe]
      obtain ⟨g, cc, hv, hcc⟩ := own_form (unhide A).row (by omega)
      cases hv
      obtain ⟨k0, k1, k2, k3, k4, k5⟩ := cellsL_at hqi
      have c0 := ((unhide A).row.cellAt (i * 6) (by omega)).trans k0
      have c1 := ((unhide A).row.cellAt (i * 6 + 1) (by omega)).trans k1
      have c2 := ((unhide A).row.cellAt (i * 6 + 2) (by omega)).trans k2
      have c3 := ((unhide A).row.cellAt (i * 6 + 3) (by omega)).trans k3
      have c4 := ((unhide A).row.cellAt (i * 6 + 4) (by omega)).trans k4
      have c5 := ((unhide A).row.cellAt (i * 6 + 5) (by omega)).trans k5
      have HR := hide ((unhide HREC) x e hmem)
      obtain ⟨oe, ce, hfe, _⟩ := (unhide HFORM) x e hmem
      unfold rexV at HR
      have HX := hide hx
      obtain ⟨x0, hx0⟩ : ∃ z, x.k = z := ⟨_, rfl⟩
      obtain ⟨⟨x1, x2, x3, x4⟩, hx1⟩ : ∃ z, x.s = z := ⟨_, rfl⟩
      obtain ⟨ne, hne⟩ : ∃ z, x.ks.length = z := ⟨_, rfl⟩
      dsimp only at c0 c1 c2 c3 c4 c5
      rw [hne] at hfe
      subst hfe
      rw [hx0] at c0 HR
      rw [hx1] at c1 c2 c3 c4 HR
      dsimp only at c1 c2 c3 c4 HR
      have HX0 := hide (And.intro hx0 hx1)
      have HQI := hide hqi
      clear k0 k1 k2 k3 k4 k5 hx hpe hmem hqi hx0 hx1 hne
      have hgl := (unhide A).row.lt g rfl
      have A4 := hide ((unhide A).alloc (.cells #[.int .i64 x0, .int .u64 x1, .int .u64 x2, .int .u64 x3, .int .u64 x4, .slice oe ne ce] 27))
      have K4 := hide (RX.new (base := w.heap.size) wr (unhide A).bel.size x0 ⟨x1, x2, x3, x4⟩ (.slice oe ne ce))
      dsimp only at K4
      obtain ⟨gk, hgk⟩ : ∃ gk, wr.heap.size = gk := ⟨_, rfl⟩
      obtain ⟨W4, hW4⟩ : ∃ W4, wr.alloc (.cells #[.int .i64 x0, .int .u64 x1, .int .u64 x2, .int .u64 x3, .int .u64 x4, .slice oe ne ce] 27) = W4 := ⟨_, rfl⟩
      rw [hW4] at A4 K4
      rw [hgk] at K4
      have hlI : (i : Int) < l.length := by omega
      have hib : 0 ≤ (i : Int) ∧ (i : Int) < l.length := by omega
      go_wp2_with fail
      clear hW4 hgk c0 c1 c2 c3 c4 c5
      obtain ⟨y0, y1, y2, y3, y4, y5⟩ := (unhide K4).cells
      obtain ⟨z0, z1, z2, z3, z4, z5⟩ := (unhide A4).b1.cells
      dsimp only at y1 y2 y3 y4 z1 z2 z3 z4
      have hk4 := (unhide K4).lt.2
      have hg4 := (unhide A4).row.lt g rfl
      go_region_law (go_simp; go_at_call 15; refine ((unhide HR) _ (unhide A4).drew.bel).mono ?_; rintro e5 w5 ⟨v5, rfl, V5, b5⟩; have A5 := hide ((unhide A4).drew.below b5); have V5' := hide V5; obtain ⟨q0, ⟨q1, q2, q3, q4⟩, qo, qn, qc, rfl⟩ := V5.formV; clear V5 b5 y0 y1 y2 y3 y4 y5 z0 z1 z2 z3 z4 z5; obtain ⟨z0, z1, z2, z3, z4, z5⟩ := (unhide A5).b1.cells; obtain ⟨k0, k1, k2, k3, k4, k5⟩ := cellsL_at (unhide HQI); have c0 := ((unhide A5).row.cellAt (i * 6) (by omega)).trans k0; have c1 := ((unhide A5).row.cellAt (i * 6 + 1) (by omega)).trans k1; have c2 := ((unhide A5).row.cellAt (i * 6 + 2) (by omega)).trans k2; have c3 := ((unhide A5).row.cellAt (i * 6 + 3) (by omega)).trans k3; have c4 := ((unhide A5).row.cellAt (i * 6 + 4) (by omega)).trans k4; have c5 := ((unhide A5).row.cellAt (i * 6 + 5) (by omega)).trans k5; have f0 := (unhide A5).row.frozenAt (i * 6); have f1 := (unhide A5).row.frozenAt (i * 6 + 1); have f2 := (unhide A5).row.frozenAt (i * 6 + 2); have f3 := (unhide A5).row.frozenAt (i * 6 + 3); have f4 := (unhide A5).row.frozenAt (i * 6 + 4); have f5 := (unhide A5).row.frozenAt (i * 6 + 5); clear k0 k1 k2 k3 k4 k5; dsimp only at *)
      all_goals (
        go_wp2_with fail
        have hm5 := (unhide A4).bel.size
        have A6 := (unhide A5).put rfl (unhide HX) (m := W4.drew.heap.size) (by show _ ≤ W4.heap.size; have := (unhide A4).b2.lt.2; omega) (by show _ < W4.heap.size; omega) (unhide V5')
        refine ⟨⟨i + 1, _, by go_num, by omega, A6⟩, by simp [intOf]; omega⟩)
    · obtain rfl : i = l.length := by omega
      have hK := (unhide A).done hl
      have HK := hide hK
      obtain ⟨y0, y1, y2, y3, y4, y5⟩ := (unhide A).b2.cells
      obtain ⟨h0, h1, h2, h3, h4, h5⟩ := (unhide A).b2.frozen
      obtain ⟨z0, z1, z2, z3, z4, z5⟩ := (unhide A).b1.cells
      dsimp only at y1 y2 y3 y4 z1 z2 z3 z4
      obtain ⟨p1, p2⟩ := (unhide A).b2.put k s1 s2 s3 s4 (.slice o' l.length c')
      have P1 := hide p1
      have P2 := hide p2
      clear hK p1 p2
      go_wp2_with fail
      (try simp only [Exit.inBlock, Exit.then])
      obtain ⟨fr, hh⟩ := own_one (unhide P1)
      refine bodyPost_ret_by (v := .agg #[.int .i64 k, .int .u64 s1, .int .u64 s2, .int .u64 s3, .int .u64 s4, .slice o' l.length c']) ?_ rfl ⟨_, rfl, ⟨⟨_, rfl, KdN.move (unhide P2).size (fun q (hq : w.heap.size + 2 ≤ q) hl => ⟨(unhide P2).block q hl (fun e => by have := Option.some.inj e; omega), by show w.heap.size ≤ q; omega⟩) _ _ _ (Nat.le_refl _) (unhide HK)⟩, unhide HFIT⟩, (unhide A).bel.grown (unhide P2) (unhide A).bel.size (fun q hq => by have := Option.some.inj hq; omega)⟩
      exact results_cell_row (ty := 27) rfl _ _ (w.heap.size + 1) _ #[.int .i64 k, .int .u64 s1, .int .u64 s2, .int .u64 s3, .int .u64 s4, .slice o' l.length c'] _ _ rfl hh Try.underlying27 rfl (by kernel_rfl)
theorem apart_any (x : Ex) : APC x.rx := by
  induction x with
  | none => exact apart_node _ _ [] (by simp) (fun y hy => by simp at hy)
  | emp => exact apart_node _ _ [] (by simp) (fun y hy => by simp at hy)
  | byte s => exact apart_node _ _ [] (by simp) (fun y hy => by simp at hy)
  | beg => exact apart_node _ _ [] (by simp) (fun y hy => by simp at hy)
  | en => exact apart_node _ _ [] (by simp) (fun y hy => by simp at hy)
  | cat a b ha hb => exact apart_node _ _ [a.rx, b.rx] (by simp) (fun y hy => by simp at hy; rcases hy with rfl | rfl; exact ha; exact hb)
  | alt a b ha hb => exact apart_node _ _ [a.rx, b.rx] (by simp) (fun y hy => by simp at hy; rcases hy with rfl | rfl; exact ha; exact hb)
  | star a ha => exact apart_node _ _ [a.rx] (by simp) (fun y hy => by simp at hy; rw [hy]; exact ha)
end Go.Proofs.Ytmhjfiaohbioeaa
