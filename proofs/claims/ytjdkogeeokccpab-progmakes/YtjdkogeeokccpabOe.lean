/- The document's code of an expression. -/
import Derived.Test.YtjdkogeeokccpabOd
namespace Go.Proofs.Ytjdkogeeokccpab
open Go.RowKit Kb
set_option linter.unusedVariables false
set_option maxRecDepth 20000

theorem Gv.fresh {B : Nat} {w w' : World} {v v' : Value} (h : Gv B w w' v v') (hv : v.ownBlock = none) : Below w.heap.size w w' := ⟨h.1.os, h.1.tape, h.1.output, h.1.size, fun k hk => (h.2 k hk (by rw [hv]; simp)).1⟩
/-- append of a row of one's own -/
theorem app_row {ops : Array Oper} {rest : List Oper} {o : Oper} {a : Act} {w : World} {Q : Exit → Act → World → Prop} (hgd : o.guard = none) (sl x : Operand)
    (ho : o.op = .call { callee := .builtin .append, args := #[sl, x], argTypes := #[28, 28] }) {B C : Nat} {w0 : World} {v0 : Value} {L : List (Nat × Obj)} {xs : List In} {v u : Value} (hs : a.eval sl = v) (R : RowJ B w0 v0 L xs w v)
    (ys : List In) (hx : a.eval x = u) (O : OwnJ C ys w u) (hn : xs.length + ys.length ≤ 1000000)
    (h : ∀ v' w', RowJ B w0 v0 L (xs ++ ys) w' v' → wpList Try.prog ops Q rest (a.put o.dst v') w') : wpList Try.prog ops Q (o :: rest) a w := by
  by_cases h0 : 0 < ys.length
  · obtain ⟨g, c, hu, _⟩ := own_form O h0
    subst hu
    exact app_in hgd sl x ho hs R ys _ _ hx (news_row O) hn h
  · have hy : ys = [] := List.length_eq_zero_iff.1 (by omega)
    subst hy
    rcases O.2 with ⟨hu, _⟩ | ⟨g, cap, cur, hu, hr⟩
    · subst hu
      obtain ⟨i0, hi, _⟩ := info_parts infoJ
      refine wpList_append_own_none hgd sl x 28 ho B 35 i0 7 Try.underlying28 hi v xs.length (cellsJ xs) hs R.own hx ?_
      exact h v w (by rw [List.append_nil]; exact R)
    · subst hu
      exact app_in hgd sl x ho hs R [] _ _ hx (fun j u hj => by simp [cellsJ] at hj) hn h
def DC (x : Ex) : Prop := ∀ (w : World) (v : Value) (n : Nat), RexV w v x.rx → n + 2 * x.nodes ≤ 100000 →
    Calls Try.prog 18 #[v, .int .i64 n] w fun e w' => ∃ v', e = .returned v' ∧ OwnJ w.heap.size (cdx x n) w' v' ∧ Below w.heap.size w w'
theorem lit_row (w : World) (x : In) {B : Nat} (hB : B ≤ w.heap.size) : OwnJ B [x] (w.alloc (.cells #[.int .i64 x.k, .int .i64 x.a, .int .i64 x.b, .int .u64 x.s.a, .int .u64 x.s.b, .int .u64 x.s.c, .int .u64 x.s.d] 35)) (.slice (some ⟨w.heap.size, 0, none⟩) 1 1) := World.ownsRow_lit w #[.int .i64 x.k, .int .i64 x.a, .int .i64 x.b, .int .u64 x.s.a, .int .u64 x.s.b, .int .u64 x.s.c, .int .u64 x.s.d] 1 hB (by unfold maxLen; omega) rfl
set_option maxHeartbeats 1000000 in
theorem dc_none : DC (.none) := by
  intro w v n hV hn
  obtain ⟨t, rfl, hkd⟩ := hV.val
  obtain ⟨o, c, rfl, _⟩ := hkd.form
  unfold rexV
  simp only [Ex.rx, cdx, Rx.k, Rx.s, Rx.ks, List.length_nil, noSet] at *
  have O := hide (lit_row (w.alloc (.cells #[.int .i64 1, .int .u64 0, .int .u64 0, .int .u64 0, .int .u64 0, .slice o 0 c] 27)) ⟨1, 0, 0, ⟨0, 0, 0, 0⟩⟩ (B := w.heap.size) (by simp))
  have B := hide (((Below.refl _ w).alloc (Nat.le_refl _) (.cells #[.int .i64 1, .int .u64 0, .int .u64 0, .int .u64 0, .int .u64 0, .slice o 0 c] 27)).alloc (by simp) (.cells #[.int .i64 1, .int .i64 0, .int .i64 0, .int .u64 0, .int .u64 0, .int .u64 0, .int .u64 0] 35))
  rw [show (w.alloc (.cells #[.int .i64 1, .int .u64 0, .int .u64 0, .int .u64 0, .int .u64 0, .slice o 0 c] 27)).heap.size = w.heap.size + 1 by simp] at O
  dsimp only at O
  clear hV hkd
  go_enter Try.func18, Try.ntmps18
  go_wp2_with fail
  go_ret
  exact ⟨_, rfl, unhide O, unhide B⟩
set_option maxHeartbeats 1000000 in
theorem dc_byte (s : Se) : DC (.byte s) := by
  intro w v n hV hn
  obtain ⟨t, rfl, hkd⟩ := hV.val
  obtain ⟨o, c, rfl, _⟩ := hkd.form
  unfold rexV
  obtain ⟨s1, s2, s3, s4⟩ := s
  simp only [Ex.rx, cdx, Rx.k, Rx.s, Rx.ks, List.length_nil] at *
  have O := hide (lit_row (w.alloc (.cells #[.int .i64 3, .int .u64 s1, .int .u64 s2, .int .u64 s3, .int .u64 s4, .slice o 0 c] 27)) ⟨1, 0, 0, ⟨s1, s2, s3, s4⟩⟩ (B := w.heap.size) (by simp))
  have B := hide (((Below.refl _ w).alloc (Nat.le_refl _) (.cells #[.int .i64 3, .int .u64 s1, .int .u64 s2, .int .u64 s3, .int .u64 s4, .slice o 0 c] 27)).alloc (by simp) (.cells #[.int .i64 1, .int .i64 0, .int .i64 0, .int .u64 s1, .int .u64 s2, .int .u64 s3, .int .u64 s4] 35))
  rw [show (w.alloc (.cells #[.int .i64 3, .int .u64 s1, .int .u64 s2, .int .u64 s3, .int .u64 s4, .slice o 0 c] 27)).heap.size = w.heap.size + 1 by simp] at O
  dsimp only at O
  clear hV hkd
  go_enter Try.func18, Try.ntmps18
  go_wp2_with fail
  go_ret
  exact ⟨_, rfl, unhide O, unhide B⟩
set_option maxHeartbeats 1000000 in
theorem dc_beg : DC (.beg) := by
  intro w v n hV hn
  obtain ⟨t, rfl, hkd⟩ := hV.val
  obtain ⟨o, c, rfl, _⟩ := hkd.form
  unfold rexV
  simp only [Ex.rx, cdx, Rx.k, Rx.s, Rx.ks, List.length_nil, noSet] at *
  have O := hide (lit_row (w.alloc (.cells #[.int .i64 7, .int .u64 0, .int .u64 0, .int .u64 0, .int .u64 0, .slice o 0 c] 27)) ⟨4, 0, 0, ⟨0, 0, 0, 0⟩⟩ (B := w.heap.size) (by simp))
  have B := hide (((Below.refl _ w).alloc (Nat.le_refl _) (.cells #[.int .i64 7, .int .u64 0, .int .u64 0, .int .u64 0, .int .u64 0, .slice o 0 c] 27)).alloc (by simp) (.cells #[.int .i64 4, .int .i64 0, .int .i64 0, .int .u64 0, .int .u64 0, .int .u64 0, .int .u64 0] 35))
  rw [show (w.alloc (.cells #[.int .i64 7, .int .u64 0, .int .u64 0, .int .u64 0, .int .u64 0, .slice o 0 c] 27)).heap.size = w.heap.size + 1 by simp] at O
  dsimp only at O
  clear hV hkd
  go_enter Try.func18, Try.ntmps18
  go_wp2_with fail
  go_ret
  exact ⟨_, rfl, unhide O, unhide B⟩
set_option maxHeartbeats 1000000 in
theorem dc_en : DC (.en) := by
  intro w v n hV hn
  obtain ⟨t, rfl, hkd⟩ := hV.val
  obtain ⟨o, c, rfl, _⟩ := hkd.form
  unfold rexV
  simp only [Ex.rx, cdx, Rx.k, Rx.s, Rx.ks, List.length_nil, noSet] at *
  have O := hide (lit_row (w.alloc (.cells #[.int .i64 8, .int .u64 0, .int .u64 0, .int .u64 0, .int .u64 0, .slice o 0 c] 27)) ⟨5, 0, 0, ⟨0, 0, 0, 0⟩⟩ (B := w.heap.size) (by simp))
  have B := hide (((Below.refl _ w).alloc (Nat.le_refl _) (.cells #[.int .i64 8, .int .u64 0, .int .u64 0, .int .u64 0, .int .u64 0, .slice o 0 c] 27)).alloc (by simp) (.cells #[.int .i64 5, .int .i64 0, .int .i64 0, .int .u64 0, .int .u64 0, .int .u64 0, .int .u64 0] 35))
  rw [show (w.alloc (.cells #[.int .i64 8, .int .u64 0, .int .u64 0, .int .u64 0, .int .u64 0, .slice o 0 c] 27)).heap.size = w.heap.size + 1 by simp] at O
  dsimp only at O
  clear hV hkd
  go_enter Try.func18, Try.ntmps18
  go_wp2_with fail
  go_ret
  exact ⟨_, rfl, unhide O, unhide B⟩
set_option maxHeartbeats 1000000 in
theorem dc_emp : DC .emp := by
  intro w v n hV hn
  obtain ⟨t, rfl, hkd⟩ := hV.val
  obtain ⟨o, c, rfl, _⟩ := hkd.form
  unfold rexV
  simp only [Ex.rx, cdx, Rx.k, Rx.s, Rx.ks, List.length_nil, noSet] at *
  have B := hide ((Below.refl _ w).alloc (Nat.le_refl _) (.cells #[.int .i64 2, .int .u64 0, .int .u64 0, .int .u64 0, .int .u64 0, .slice o 0 c] 27))
  clear hV hkd
  go_enter Try.func18, Try.ntmps18
  go_wp2_with fail
  go_ret
  exact ⟨_, rfl, World.ownsRow_nil _ _ _ _, unhide B⟩
set_option maxHeartbeats 4000000 in
theorem dc_cat (a b : Ex) (ha : DC a) (hb : DC b) : DC (.cat a b) := by
  intro w v n hV hn
  obtain ⟨t, rfl, hkd⟩ := hV.val
  obtain ⟨g1, off, c, o1, l1, c1, rfl, hva, hcl⟩ := kidA hkd (x := a.rx) rfl
  obtain ⟨o2, l2, c2, hvb, hclb⟩ := kidB hkd (x := b.rx) rfl
  have HB := hide (fun W n bb l => hb W _ n (hvb.below bb) l)
  have HA := hide (fun W n bb l => ha W _ n (hva.below bb) l)
  obtain ⟨x0, hx0⟩ : ∃ z, a.rx.k = z := ⟨_, rfl⟩
  obtain ⟨⟨x1, x2, x3, x4⟩, hx1⟩ : ∃ z, a.rx.s = z := ⟨_, rfl⟩
  obtain ⟨q0, hq0⟩ : ∃ z, b.rx.k = z := ⟨_, rfl⟩
  obtain ⟨⟨q1, q2, q3, q4⟩, hq1⟩ : ∃ z, b.rx.s = z := ⟨_, rfl⟩
  rw [hq0, hq1] at HB hclb
  dsimp only at HB hclb
  rw [hx0, hx1] at HA hcl
  dsimp only at HA hcl
  simp only [Ex.nodes] at hn
  clear hva hx0 hx1 hvb hq0 hq1
  unfold rexV
  simp only [Ex.rx, Rx.k, Rx.s, Rx.ks, List.length_cons, List.length_nil, noSet, Nat.zero_add, Nat.reduceAdd] at *
  obtain ⟨P, hP⟩ : ∃ P, Obj.cells #[.int .i64 4, .int .u64 0, .int .u64 0, .int .u64 0, .int .u64 0, .slice (some ⟨g1, off, none⟩) 2 c] 27 = P := ⟨_, rfl⟩
  obtain ⟨W1, hW1⟩ : ∃ W1, w.alloc P = W1 := ⟨_, rfl⟩
  obtain ⟨g, hg⟩ : ∃ g, w.heap.size = g := ⟨_, rfl⟩
  have b1 : Below w.heap.size w W1 := by rw [← hW1]; exact (Below.refl _ _).alloc (Nat.le_refl _) _
  have hgs : g < W1.heap.size := by rw [← hW1, ← hg]; simp
  have HMC : Hid (∀ W', Below W1.heap.size W1 W' → W'.cell? ⟨g, 0, none⟩ = some (.int .i64 4) ∧ W'.cell? ⟨g, 5, none⟩ = some (.slice (some ⟨g1, off, none⟩) 2 c) ∧ g < W'.heap.size) := hide (fun W' b => by
    refine ⟨cell_below ?_ hgs b, cell_below ?_ hgs b, Nat.lt_of_lt_of_le hgs b.size⟩
    · rw [← hW1, ← hP, ← hg, World.cell?_alloc_new]; rfl
    · rw [← hW1, ← hP, ← hg, World.cell?_alloc_new]; rfl)
  have HK0 := hide hcl
  have HK1 : Hid (∀ W', Below w.heap.size w W' → (W'.cell? ⟨g1, off + 6, none⟩ = some (.int .i64 q0) ∧ W'.cell? ⟨g1, off + 7, none⟩ = some (.int .u64 q1) ∧ W'.cell? ⟨g1, off + 8, none⟩ = some (.int .u64 q2) ∧ W'.cell? ⟨g1, off + 9, none⟩ = some (.int .u64 q3) ∧ W'.cell? ⟨g1, off + 10, none⟩ = some (.int .u64 q4) ∧ W'.cell? ⟨g1, off + 11, none⟩ = some (.slice o2 l2 c2)) ∧ (W'.cell? ⟨g1, off + 6 + 1, none⟩ = some (.int .u64 q1) ∧ W'.cell? ⟨g1, off + 6 + 2, none⟩ = some (.int .u64 q2) ∧ W'.cell? ⟨g1, off + 6 + 3, none⟩ = some (.int .u64 q3) ∧ W'.cell? ⟨g1, off + 6 + 4, none⟩ = some (.int .u64 q4) ∧ W'.cell? ⟨g1, off + 6 + 5, none⟩ = some (.slice o2 l2 c2))) := hide (fun W' b => by
    obtain ⟨z0, z1, z2, z3, z4, z5⟩ := hclb W' b
    exact ⟨⟨z0, z1, z2, z3, z4, z5⟩, ⟨z1, z2, z3, z4, z5⟩⟩)
  have B1 := hide b1
  have HG := hide hg
  obtain ⟨u0, u1, u2⟩ := (unhide HMC) W1 (Below.refl _ _)
  obtain ⟨y0, y1, y2, y3, y4, y5, _, _, _⟩ := (unhide HK0) W1 b1
  rw [← hP] at hW1
  have HP := hide hP
  clear hcl hV hkd hP b1 hclb
  go_enter Try.func18, Try.ntmps18
  go_wp2_with fail
  refine ((unhide HA) W1 n (unhide B1) (by omega)).mono ?_
  rintro e w2 ⟨v2, rfl, o2', b2⟩
  clear hW1 hg
  have O2 := hide o2'
  have B2 := hide b2
  obtain ⟨ov, cv, hv2⟩ := own_forms o2'
  subst hv2
  have hla := cdx_len a n
  obtain ⟨A, hA⟩ : ∃ A, cdx a n = A := ⟨_, rfl⟩
  rw [hA] at O2 hla ⊢
  have HAL := hide hA
  obtain ⟨la, hlA⟩ : ∃ la, A.length = la := ⟨_, rfl⟩
  rw [hlA] at hla O2 ⊢
  have HLA := hide hlA
  have SZ2 := hide b2.size
  clear o2' b2 hA hlA u0 u1 u2 y0 y1 y2 y3 y4 y5
  obtain ⟨u0, u1, u2⟩ := (unhide HMC) w2 (unhide B2)
  have hwr : IntKind.i64.wrap ((n : Int) + la) = ((n + la : Nat) : Int) := by rw [IntKind.wrap_i64]; omega
  obtain ⟨⟨z0, z1, z2, z3, z4, z5⟩, ⟨m1, m2, m3, m4, m5⟩⟩ := (unhide HK1) w2 (bel_trans (unhide B1) (unhide B2))
  go_wp2_with fail
  refine ((unhide HB) w2 (n + la) (bel_trans (unhide B1) (unhide B2)) (by omega)).mono ?_
  rintro e w3 ⟨v3, rfl, o3', b3⟩
  have O3 := hide o3'
  have O2' := hide (own_below (unhide O2) b3)
  have B3 := hide (bel_trans (unhide B2) b3)
  have SZ3 := hide b3.size
  obtain ⟨ov3, cv3, hv3⟩ := own_forms o3'
  subst hv3
  have hlb := cdx_len b (n + la)
  obtain ⟨Bc, hBc⟩ : ∃ Bc, cdx b (n + la) = Bc := ⟨_, rfl⟩
  rw [hBc] at O3 hlb ⊢
  have HBL := hide hBc
  obtain ⟨lb, hlB⟩ : ∃ lb, Bc.length = lb := ⟨_, rfl⟩
  rw [hlB] at hlb O3 ⊢
  have HLB := hide hlB
  clear o3' b3 hBc hlB u0 u1 u2 z0 z1 z2 z3 z4 z5 m1 m2 m3 m4 m5
  have hsz : w.heap.size ≤ w3.heap.size := (bel_trans (unhide B1) (unhide B3)).size
  have R3 := hide (RowJ.start (B := w.heap.size) (w := w3) (own_base' (unhide O2') (unhide B1).size) hsz)
  clear hwr
  go_wp2_with (at_builtin; go_loud (
               refine app_row rfl _ _ rfl rfl (unhide R3) Bc rfl (unhide O3) (by rw [unhide HLA, unhide HLB]; omega) ?_; intro v4 w4 R4))
  go_ret
  refine ⟨v4, rfl, ?_, ?_⟩
  · rw [cdx, unhide HAL, unhide HLA, unhide HBL]; exact R4.own
  · exact (bel_trans (unhide B1) (unhide B3)).trans R4.gw.1
set_option maxHeartbeats 4000000 in
theorem dc_alt (a b : Ex) (ha : DC a) (hb : DC b) : DC (.alt a b) := by
  intro w v n hV hn
  obtain ⟨t, rfl, hkd⟩ := hV.val
  obtain ⟨g1, off, c, o1, l1, c1, rfl, hva, hcl⟩ := kidA hkd (x := a.rx) rfl
  obtain ⟨o2, l2, c2, hvb, hclb⟩ := kidB hkd (x := b.rx) rfl
  have HB := hide (fun W n bb l => hb W _ n (hvb.below bb) l)
  have HA := hide (fun W n bb l => ha W _ n (hva.below bb) l)
  obtain ⟨x0, hx0⟩ : ∃ z, a.rx.k = z := ⟨_, rfl⟩
  obtain ⟨⟨x1, x2, x3, x4⟩, hx1⟩ : ∃ z, a.rx.s = z := ⟨_, rfl⟩
  obtain ⟨q0, hq0⟩ : ∃ z, b.rx.k = z := ⟨_, rfl⟩
  obtain ⟨⟨q1, q2, q3, q4⟩, hq1⟩ : ∃ z, b.rx.s = z := ⟨_, rfl⟩
  rw [hq0, hq1] at HB hclb
  dsimp only at HB hclb
  rw [hx0, hx1] at HA hcl
  dsimp only at HA hcl
  simp only [Ex.nodes] at hn
  clear hva hx0 hx1 hvb hq0 hq1
  unfold rexV
  simp only [Ex.rx, Rx.k, Rx.s, Rx.ks, List.length_cons, List.length_nil, noSet, Nat.zero_add, Nat.reduceAdd] at *
  obtain ⟨P, hP⟩ : ∃ P, Obj.cells #[.int .i64 5, .int .u64 0, .int .u64 0, .int .u64 0, .int .u64 0, .slice (some ⟨g1, off, none⟩) 2 c] 27 = P := ⟨_, rfl⟩
  obtain ⟨W1, hW1⟩ : ∃ W1, w.alloc P = W1 := ⟨_, rfl⟩
  obtain ⟨g, hg⟩ : ∃ g, w.heap.size = g := ⟨_, rfl⟩
  have b1 : Below w.heap.size w W1 := by rw [← hW1]; exact (Below.refl _ _).alloc (Nat.le_refl _) _
  have hgs : g < W1.heap.size := by rw [← hW1, ← hg]; simp
  have HMC : Hid (∀ W', Below W1.heap.size W1 W' → W'.cell? ⟨g, 0, none⟩ = some (.int .i64 5) ∧ W'.cell? ⟨g, 5, none⟩ = some (.slice (some ⟨g1, off, none⟩) 2 c) ∧ g < W'.heap.size) := hide (fun W' b => by
    refine ⟨cell_below ?_ hgs b, cell_below ?_ hgs b, Nat.lt_of_lt_of_le hgs b.size⟩
    · rw [← hW1, ← hP, ← hg, World.cell?_alloc_new]; rfl
    · rw [← hW1, ← hP, ← hg, World.cell?_alloc_new]; rfl)
  have HK0 := hide hcl
  have HK1 : Hid (∀ W', Below w.heap.size w W' → (W'.cell? ⟨g1, off + 6, none⟩ = some (.int .i64 q0) ∧ W'.cell? ⟨g1, off + 7, none⟩ = some (.int .u64 q1) ∧ W'.cell? ⟨g1, off + 8, none⟩ = some (.int .u64 q2) ∧ W'.cell? ⟨g1, off + 9, none⟩ = some (.int .u64 q3) ∧ W'.cell? ⟨g1, off + 10, none⟩ = some (.int .u64 q4) ∧ W'.cell? ⟨g1, off + 11, none⟩ = some (.slice o2 l2 c2)) ∧ (W'.cell? ⟨g1, off + 6 + 1, none⟩ = some (.int .u64 q1) ∧ W'.cell? ⟨g1, off + 6 + 2, none⟩ = some (.int .u64 q2) ∧ W'.cell? ⟨g1, off + 6 + 3, none⟩ = some (.int .u64 q3) ∧ W'.cell? ⟨g1, off + 6 + 4, none⟩ = some (.int .u64 q4) ∧ W'.cell? ⟨g1, off + 6 + 5, none⟩ = some (.slice o2 l2 c2))) := hide (fun W' b => by
    obtain ⟨z0, z1, z2, z3, z4, z5⟩ := hclb W' b
    exact ⟨⟨z0, z1, z2, z3, z4, z5⟩, ⟨z1, z2, z3, z4, z5⟩⟩)
  have B1 := hide b1
  have HG := hide hg
  obtain ⟨u0, u1, u2⟩ := (unhide HMC) W1 (Below.refl _ _)
  obtain ⟨y0, y1, y2, y3, y4, y5, _, _, _⟩ := (unhide HK0) W1 b1
  rw [← hP] at hW1
  have HP := hide hP
  clear hcl hV hkd hP b1 hclb
  have hw1 : IntKind.i64.wrap ((n : Int) + 1) = (n : Int) + 1 := by rw [IntKind.wrap_i64]; omega
  go_enter Try.func18, Try.ntmps18
  go_wp2_with fail
  refine ((unhide HA) W1 (n + 1) (unhide B1) (by omega)).mono ?_
  rintro e w2 ⟨v2, rfl, o2', b2⟩
  clear hW1 hg
  have O2 := hide o2'
  have B2 := hide b2
  obtain ⟨ov, cv, hv2⟩ := own_forms o2'
  subst hv2
  have hla := cdx_len a (n + 1)
  obtain ⟨A, hA⟩ : ∃ A, cdx a (n + 1) = A := ⟨_, rfl⟩
  rw [hA] at O2 hla ⊢
  have HAL := hide hA
  obtain ⟨la, hlA⟩ : ∃ la, A.length = la := ⟨_, rfl⟩
  rw [hlA] at hla O2 ⊢
  have HLA := hide hlA
  have SZ2 := hide b2.size
  clear o2' b2 hA hlA u0 u1 u2 y0 y1 y2 y3 y4 y5
  obtain ⟨u0, u1, u2⟩ := (unhide HMC) w2 (unhide B2)
  have hw2 : IntKind.i64.wrap ((n : Int) + 2) = (n : Int) + 2 := by rw [IntKind.wrap_i64]; omega
  have hw3 : IntKind.i64.wrap ((n : Int) + 2 + la) = (n : Int) + 2 + la := by rw [IntKind.wrap_i64]; omega
  obtain ⟨⟨z0, z1, z2, z3, z4, z5⟩, ⟨m1, m2, m3, m4, m5⟩⟩ := (unhide HK1) w2 (bel_trans (unhide B1) (unhide B2))
  go_wp2_with fail
  refine ((unhide HB) w2 (n + 2 + la) (bel_trans (unhide B1) (unhide B2)) (by omega)).mono ?_
  rintro e w3 ⟨v3, rfl, o3', b3⟩
  have O3 := hide o3'
  have O2' := hide (own_below (unhide O2) b3)
  have B3 := hide (bel_trans (unhide B2) b3)
  have SZ3 := hide b3.size
  obtain ⟨ov3, cv3, hv3⟩ := own_forms o3'
  subst hv3
  have hlb := cdx_len b (n + 2 + la)
  obtain ⟨Bc, hBc⟩ : ∃ Bc, cdx b (n + 2 + la) = Bc := ⟨_, rfl⟩
  rw [hBc] at O3 hlb ⊢
  have HBL := hide hBc
  obtain ⟨lb, hlB⟩ : ∃ lb, Bc.length = lb := ⟨_, rfl⟩
  rw [hlB] at hlb O3 ⊢
  have HLB := hide hlB
  clear o3' b3 hBc hlB u0 u1 u2 z0 z1 z2 z3 z4 z5 m1 m2 m3 m4 m5
  have hw4 : IntKind.i64.wrap ((n : Int) + 2 + la + lb) = (n : Int) + 2 + la + lb := by rw [IntKind.wrap_i64]; omega
  have hsz : w.heap.size ≤ w3.heap.size := (bel_trans (unhide B1) (unhide B3)).size
  have R3 := hide (RowJ.start (B := w.heap.size) (w := w3) (xs := []) (v := .slice none 0 0) (World.ownsRow_nil _ _ _ _) hsz)
  have O2 := hide (own_base' (unhide O2') (unhide B1).size)
  clear O2'
  have HLA' := hide (unhide HLA)
  go_wp2_with (at_builtin; first
    | (go_loud (refine app_in rfl (.tmp 65) (.tmp 74) rfl rfl ((unhide R3).lay _) [⟨2, (n : Int) + 1, (n : Int) + 2 + la, ⟨0, 0, 0, 0⟩⟩] _ _ rfl (news_lay ((unhide R3).lay _) ⟨2, (n : Int) + 1, (n : Int) + 2 + la, ⟨0, 0, 0, 0⟩⟩ List.mem_cons_self) (by simp) ?_; intro v4 w4 R4; replace R4 := hide R4.sub; have O24 := hide (own_below (unhide O2) ((unhide R4).gw.fresh rfl)); clear R3))
    | (go_loud (refine app_row rfl (.tmp 76) (.tmp 77) rfl rfl (unhide R4) A rfl (unhide O24) (by simp [unhide HLA]; omega) ?_; intro v5 w5 R5; replace R5 := hide R5.sub; clear R4))
    | (go_loud (refine app_in rfl (.tmp 79) (.tmp 89) rfl rfl ((unhide R5).lay _) [⟨3, (n : Int) + 2 + la + lb, 0, ⟨0, 0, 0, 0⟩⟩] _ _ rfl (news_lay ((unhide R5).lay _) ⟨3, (n : Int) + 2 + la + lb, 0, ⟨0, 0, 0, 0⟩⟩ List.mem_cons_self) (by simp [unhide HLA]; omega) ?_; intro v6 w6 R6; replace R6 := hide R6.sub; have O36 := hide (own_below (unhide O3) ((unhide R6).gw.fresh rfl)); clear R5))
    | (go_loud (refine app_row rfl (.tmp 91) (.tmp 92) rfl rfl (unhide R6) Bc rfl (unhide O36) (by simp [unhide HLA, unhide HLB]; omega) ?_; intro v7 w7 R7; replace R7 := hide R7.sub)))
  go_ret
  refine ⟨v7, rfl, ?_, ?_⟩
  · rw [cdx, unhide HAL, unhide HLA, unhide HBL, unhide HLB]
    have := (unhide R7).own
    simp only [List.nil_append, List.append_assoc, List.singleton_append] at this
    exact this
  · exact (bel_trans (unhide B1) (unhide B3)).trans (unhide R7).gw.1
set_option maxHeartbeats 4000000 in
theorem dc_star (a : Ex) (ha : DC a) : DC (.star a) := by
  intro w v n hV hn
  obtain ⟨t, rfl, hkd⟩ := hV.val
  obtain ⟨g1, off, c, o1, l1, c1, rfl, hva, hcl⟩ := kidA hkd (x := a.rx) rfl
  have HA := hide (fun W n bb l => ha W _ n (hva.below bb) l)
  obtain ⟨x0, hx0⟩ : ∃ z, a.rx.k = z := ⟨_, rfl⟩
  obtain ⟨⟨x1, x2, x3, x4⟩, hx1⟩ : ∃ z, a.rx.s = z := ⟨_, rfl⟩
  rw [hx0, hx1] at HA hcl
  dsimp only at HA hcl
  simp only [Ex.nodes] at hn
  clear hva hx0 hx1
  unfold rexV
  simp only [Ex.rx, Rx.k, Rx.s, Rx.ks, List.length_cons, List.length_nil, noSet, Nat.zero_add] at *
  obtain ⟨P, hP⟩ : ∃ P, Obj.cells #[.int .i64 6, .int .u64 0, .int .u64 0, .int .u64 0, .int .u64 0, .slice (some ⟨g1, off, none⟩) 1 c] 27 = P := ⟨_, rfl⟩
  obtain ⟨W1, hW1⟩ : ∃ W1, w.alloc P = W1 := ⟨_, rfl⟩
  obtain ⟨g, hg⟩ : ∃ g, w.heap.size = g := ⟨_, rfl⟩
  have b1 : Below w.heap.size w W1 := by rw [← hW1]; exact (Below.refl _ _).alloc (Nat.le_refl _) _
  have hgs : g < W1.heap.size := by rw [← hW1, ← hg]; simp
  have HMC : Hid (∀ W', Below W1.heap.size W1 W' → W'.cell? ⟨g, 0, none⟩ = some (.int .i64 6) ∧ W'.cell? ⟨g, 5, none⟩ = some (.slice (some ⟨g1, off, none⟩) 1 c) ∧ g < W'.heap.size) := hide (fun W' b => by
    refine ⟨cell_below ?_ hgs b, cell_below ?_ hgs b, Nat.lt_of_lt_of_le hgs b.size⟩
    · rw [← hW1, ← hP, ← hg, World.cell?_alloc_new]; rfl
    · rw [← hW1, ← hP, ← hg, World.cell?_alloc_new]; rfl)
  have HK0 := hide hcl
  have B1 := hide b1
  have HG := hide hg
  obtain ⟨u0, u1, u2⟩ := (unhide HMC) W1 (Below.refl _ _)
  obtain ⟨y0, y1, y2, y3, y4, y5, _, _, _⟩ := (unhide HK0) W1 b1
  rw [← hP] at hW1
  have HP := hide hP
  clear hcl hV hkd hP b1
  have hw1 : IntKind.i64.wrap ((n : Int) + 1) = (n : Int) + 1 := by rw [IntKind.wrap_i64]; omega
  go_enter Try.func18, Try.ntmps18
  go_wp2_with fail
  refine ((unhide HA) W1 (n + 1) (unhide B1) (by omega)).mono ?_
  rintro e w2 ⟨v2, rfl, o2', b2⟩
  clear hW1 hg
  have O2 := hide o2'
  have B2 := hide b2
  obtain ⟨ov, cv, hv2⟩ := own_forms o2'
  subst hv2
  have hla := cdx_len a (n + 1)
  obtain ⟨A, hA⟩ : ∃ A, cdx a (n + 1) = A := ⟨_, rfl⟩
  rw [hA] at O2 hla ⊢
  have HAL := hide hA
  obtain ⟨la, hlA⟩ : ∃ la, A.length = la := ⟨_, rfl⟩
  rw [hlA] at hla O2 ⊢
  have HLA := hide hlA
  have SZ2 := hide b2.size
  clear o2' b2 hA hlA u0 u1 u2 y0 y1 y2 y3 y4 y5
  obtain ⟨u0, u1, u2⟩ := (unhide HMC) w2 (unhide B2)
  have hw2 : IntKind.i64.wrap ((n : Int) + 2) = (n : Int) + 2 := by rw [IntKind.wrap_i64]; omega
  have hw3 : IntKind.i64.wrap ((n : Int) + 2 + la) = (n : Int) + 2 + la := by rw [IntKind.wrap_i64]; omega
  have hsz : w.heap.size ≤ w2.heap.size := (bel_trans (unhide B1) (unhide B2)).size
  have R3 := hide (RowJ.start (B := w.heap.size) (w := w2) (xs := []) (v := .slice none 0 0) (World.ownsRow_nil _ _ _ _) hsz)
  go_wp2_with (at_builtin; first
    | (go_loud (refine app_in rfl (.tmp 103) (.tmp 112) rfl rfl ((unhide R3).lay _) [⟨2, (n : Int) + 1, (n : Int) + 2 + la, ⟨0, 0, 0, 0⟩⟩] _ _ rfl (news_lay ((unhide R3).lay _) ⟨2, (n : Int) + 1, (n : Int) + 2 + la, ⟨0, 0, 0, 0⟩⟩ List.mem_cons_self) (by simp) ?_; intro v4 w4 R4; replace R4 := hide R4.sub; have O24 := hide (own_below (unhide O2) ((unhide R4).gw.fresh rfl)); clear R3))
    | (go_loud (refine app_row rfl (.tmp 114) (.tmp 115) rfl rfl (unhide R4) A rfl (unhide O24) (by simp [unhide HLA]; omega) ?_; intro v5 w5 R5; replace R5 := hide R5.sub; clear R4))
    | (go_loud (refine app_in rfl (.tmp 117) (.tmp 120) rfl rfl ((unhide R5).lay _) [⟨3, n, 0, ⟨0, 0, 0, 0⟩⟩] _ _ rfl (news_lay ((unhide R5).lay _) ⟨3, n, 0, ⟨0, 0, 0, 0⟩⟩ List.mem_cons_self) (by simp [unhide HLA]; omega) ?_; intro v6 w6 R6)))
  go_ret
  refine ⟨v6, rfl, ?_, ?_⟩
  · rw [cdx, unhide HAL, unhide HLA]
    have := R6.own
    simp only [List.nil_append, List.singleton_append] at this
    exact this
  · exact (bel_trans (unhide B1) (unhide B2)).trans R6.gw.1
theorem dc_any (x : Ex) : DC x := by
  induction x with
  | none => exact dc_none
  | emp => exact dc_emp
  | byte s => exact dc_byte s
  | cat a b ha hb => exact dc_cat a b ha hb
  | alt a b ha hb => exact dc_alt a b ha hb
  | star a ha => exact dc_star a ha
  | beg => exact dc_beg
  | en => exact dc_en
end Go.Proofs.Ytjdkogeeokccpab
