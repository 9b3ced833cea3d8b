/- The program's reader: each node is given a list of its own (apart): what lies in memory. -/
import Derived.Test.YtjecopdbcaojcaaKv
import Derived.Maps.AppendAt
import Derived.WalkSpells
import Derived.Lib.BufferMore
namespace Go.Proofs.Ytjecopdbcaojcaa
open Go.RowKit Kb
set_option linter.unusedVariables false
set_option maxRecDepth 20000

def cellsL (ps : List (Rx × Value)) : List Value := ps.flatMap fun p => cellsX p.1.k p.1.s p.2
theorem cellsL_cons (p : Rx × Value) (r : List (Rx × Value)) : cellsL (p :: r) = .int .i64 p.1.k :: .int .u64 p.1.s.a :: .int .u64 p.1.s.b :: .int .u64 p.1.s.c :: .int .u64 p.1.s.d :: p.2 :: cellsL r := by simp [cellsL, cellsX]
theorem cellsL_length (ps : List (Rx × Value)) : (cellsL ps).length = ps.length * 6 := by
  induction ps with
  | nil => rfl
  | cons p r ih => rw [cellsL_cons]; simp only [List.length_cons, ih]; omega
theorem cellsL_at {ps : List (Rx × Value)} {j : Nat} {p : Rx × Value} (h : ps[j]? = some p) : (cellsL ps)[j * 6]? = some (.int .i64 p.1.k) ∧ (cellsL ps)[j * 6 + 1]? = some (.int .u64 p.1.s.a) ∧ (cellsL ps)[j * 6 + 2]? = some (.int .u64 p.1.s.b) ∧ (cellsL ps)[j * 6 + 3]? = some (.int .u64 p.1.s.c) ∧ (cellsL ps)[j * 6 + 4]? = some (.int .u64 p.1.s.d) ∧ (cellsL ps)[j * 6 + 5]? = some p.2 := by
  induction ps generalizing j with
  | nil => simp at h
  | cons a r ih =>
    rw [cellsL_cons]
    cases j with
    | zero => simp at h; subst h; simp
    | succ j =>
      have := ih (j := j) (by simpa using h)
      rw [show (j + 1) * 6 = j * 6 + 1 + 1 + 1 + 1 + 1 + 1 by omega]
      simpa using this
theorem cellsL_set {ps : List (Rx × Value)} {j : Nat} (h : j < ps.length) (k s1 s2 s3 s4 : Int) (e : Value) (x : Rx) (hx : x.k = k ∧ x.s = ⟨s1, s2, s3, s4⟩) : ((((((cellsL ps).set (j * 6) (.int .i64 k)).set (j * 6 + 1) (.int .u64 s1)).set (j * 6 + 2) (.int .u64 s2)).set (j * 6 + 3) (.int .u64 s3)).set (j * 6 + 4) (.int .u64 s4)).set (j * 6 + 5) e = cellsL (ps.set j (x, e)) := by
  induction ps generalizing j with
  | nil => simp at h
  | cons a r ih =>
    cases j with
    | zero => rw [List.set_cons_zero, cellsL_cons, cellsL_cons, hx.1, hx.2]; simp
    | succ j =>
      rw [List.set_cons_succ, cellsL_cons, cellsL_cons, show (j + 1) * 6 = j * 6 + 1 + 1 + 1 + 1 + 1 + 1 by omega]
      have := ih (j := j) (by simpa using h)
      rw [← this]
      simp only [List.set_cons_succ, show j * 6 + 1 + 1 + 1 + 1 + 1 + 1 + 1 = j * 6 + 1 + 1 + 1 + 1 + 1 + 1 + 1 from rfl, show j * 6 + 1 + 1 + 1 + 1 + 1 + 1 + 2 = (j * 6 + 2) + 1 + 1 + 1 + 1 + 1 + 1 by omega, show j * 6 + 1 + 1 + 1 + 1 + 1 + 1 + 3 = (j * 6 + 3) + 1 + 1 + 1 + 1 + 1 + 1 by omega, show j * 6 + 1 + 1 + 1 + 1 + 1 + 1 + 4 = (j * 6 + 4) + 1 + 1 + 1 + 1 + 1 + 1 by omega, show j * 6 + 1 + 1 + 1 + 1 + 1 + 1 + 5 = (j * 6 + 5) + 1 + 1 + 1 + 1 + 1 + 1 by omega]
theorem cellsL_one {ps : List (Rx × Value)} (h : ∀ p ∈ ps, ∃ o n c, p.2 = .slice o n c) : ∀ u ∈ cellsL ps, u.oneCell' = true := by
  induction ps with
  | nil => simp [cellsL]
  | cons p r ih =>
    intro u hu
    rw [cellsL_cons] at hu
    simp only [List.mem_cons] at hu
    rcases hu with rfl | rfl | rfl | rfl | rfl | rfl | hu
    · rfl
    · rfl
    · rfl
    · rfl
    · rfl
    · obtain ⟨o, n, c, hp⟩ := h p List.mem_cons_self
      rw [hp]; rfl
    · exact ih (fun q hq => h q (List.mem_cons_of_mem _ hq)) u hu
/-- the kids as a list of expressions and values -/
theorem Kd.list {w : World} {l : List Rx} {v : Value} (h : Kd w l v) : ∃ ps : List (Rx × Value), ps.map Prod.fst = l ∧ (∀ p ∈ ps, Fit p.1 ∧ Kd w p.1.ks p.2) ∧
    (l ≠ [] → ∃ g off c, v = .slice (some ⟨g, off, none⟩) l.length c ∧ g < w.heap.size ∧ ∀ j u, (cellsL ps)[j]? = some u → w.cell? ⟨g, off + j, none⟩ = some u) := by
  have hk := h
  rw [Kd] at h
  by_cases hne : l = []
  · subst hne
    exact ⟨[], rfl, fun p hp => by simp at hp, fun hn => absurd rfl hn⟩
  obtain ⟨g, off, c, h1, h2, h3⟩ := h.2.2 hne
  have h4 : ∀ i : Fin l.length, ∃ e, w.cell? ⟨g, off + i.val * 6 + 5, none⟩ = some e ∧ Kd w l[i.val].ks e := fun i => by
    obtain ⟨_, _, _, _, _, _, e, k5, h5⟩ := h3 i.val i.isLt
    exact ⟨e, k5, h5⟩
  obtain ⟨f, hf⟩ := Classical.axiomOfChoice h4
  refine ⟨(List.finRange l.length).map fun i => (l[i.val], f i), ?_, ?_, fun _ => ⟨g, off, c, h1, h2, ?_⟩⟩
  · rw [List.map_map]
    apply List.ext_getElem?
    intro i
    by_cases hi : i < l.length
    · simp [hi]
    · rw [List.getElem?_eq_none (by simp; omega), List.getElem?_eq_none (by omega)]
  · intro p hp
    obtain ⟨i, _, rfl⟩ := List.mem_map.1 hp
    exact ⟨(h3 i.val i.isLt).1, (hf i).2⟩
  · intro j u hu
    have hjl : j < l.length * 6 := by
      have := (List.getElem?_eq_some_iff.1 hu).1
      rw [cellsL_length] at this
      simpa using this
    obtain ⟨q, r, hqr, hr⟩ : ∃ q r, j = q * 6 + r ∧ r < 6 := ⟨j / 6, j % 6, by omega, by omega⟩
    subst hqr
    have hq : q < l.length := by omega
    have hps : ((List.finRange l.length).map fun i => (l[i.val], f i))[q]? = some (l[q], f ⟨q, hq⟩) := by simp [hq]
    obtain ⟨k0, k1, k2, k3, k4, k5⟩ := cellsL_at hps
    obtain ⟨_, c0, c1, c2, c3, c4, e, c5, _⟩ := h3 q hq
    have c5' := (hf ⟨q, hq⟩).1
    dsimp only at k0 k1 k2 k3 k4 k5 c5'
    rw [← Nat.add_assoc]
    have hr6 : r = 0 ∨ r = 1 ∨ r = 2 ∨ r = 3 ∨ r = 4 ∨ r = 5 := by omega
    rcases hr6 with rfl | rfl | rfl | rfl | rfl | rfl
    · rw [Nat.add_zero, k0] at hu; rw [← hu]; exact c0
    · rw [k1] at hu; rw [← hu]; exact c1
    · rw [k2] at hu; rw [← hu]; exact c2
    · rw [k3] at hu; rw [← hu]; exact c3
    · rw [k4] at hu; rw [← hu]; exact c4
    · rw [k5] at hu; rw [← hu]; exact c5'
theorem infoR : (Try.prog.info? 27).map (fun i => (i.zero, i.size, i.bytes)) = some (some (.agg #[.int .i64 0, .int .u64 0, .int .u64 0, .int .u64 0, .int .u64 0, .slice none 0 0]), 6, 64) := by kernel_rfl
end Go.Proofs.Ytjecopdbcaojcaa

/- The program's reader: each node is given a list of its own (apart). -/
namespace Go.Proofs.Ytjecopdbcaojcaa
open Go.RowKit Kb
set_option linter.unusedVariables false
set_option maxRecDepth 20000

set_option maxHeartbeats 4000000 in
theorem clone_any (w : World) (v : Value) (l : List Rx) (ps : List (Rx × Value)) (hk : Kd w l v) (hp : ps.map Prod.fst = l) (hs : ∀ p ∈ ps, Fit p.1 ∧ Kd w p.1.ks p.2) (hc : l ≠ [] → ∃ g off c, v = .slice (some ⟨g, off, none⟩) l.length c ∧ g < w.heap.size ∧ ∀ j u, (cellsL ps)[j]? = some u → w.cell? ⟨g, off + j, none⟩ = some u) (hl : l.length ≤ 1000000) :
    Calls Try.prog 31 #[v] w fun e w' => ∃ v', e = .returned v' ∧ Below w.heap.size w w' ∧ w'.ownsRow w.heap.size 27 6 v' l.length (cellsL ps) := by
  obtain ⟨i0, hi, hz0, hz1, hz2⟩ := info_parts infoR
  have hpl : ps.length = l.length := by rw [← hp, List.length_map]
  have hone : ∀ u ∈ cellsL ps, u.oneCell' = true := cellsL_one fun p hpm => by
    obtain ⟨o, c, h, _⟩ := (hs p hpm).2.form
    exact ⟨o, _, c, h⟩
  obtain ⟨o, c, hv, hlc⟩ := hk.form
  cases o with
  | none =>
    have hnil : l = [] := Classical.byContradiction fun hne => by
      obtain ⟨g, off, c', h1, _⟩ := hc hne
      rw [hv] at h1; cases h1
    subst hnil
    have hps : ps = [] := List.map_eq_nil_iff.1 hp
    subst hps
    subst hv
    clear hk hs hc
    simp only [List.length_nil] at *
    go_enter Try.func31, Try.ntmps31
    have heq : ∀ W, (binOp .eql 25 (.slice none 0 c) (.slice none 0 0)).run Try.prog W = .ok (.bool true) W := fun W => run_eql_nil_slice W _ _ none 0 0 0 c Try.underlying25
    go_wp2_with fail
    go_ret
    exact ⟨_, rfl, Below.refl _ _, World.ownsRow_nil _ _ _ _⟩
  | some ad =>
    have hlen : (cellsL ps).length = l.length * 6 := by rw [cellsL_length, hpl]
    have hnews' : ∀ (j : Nat) (u : Value), (cellsL ps)[j]? = some u → (w.alloc (.cells #[] 27)).cell? (ad.add j) = some u := by
      intro j u hu
      have hne : l ≠ [] := fun e => by
        subst e
        have hps : ps = [] := List.map_eq_nil_iff.1 hp
        subst hps
        simp [cellsL] at hu
      obtain ⟨g, off, c', h1, hgl, h3⟩ := hc hne
      rw [hv] at h1
      cases h1
      rw [Addr.add_lit]; exact cell_below (h3 j u hu) hgl ((Below.refl _ _).alloc (Nat.le_refl _) _)
    have HN := hide hnews'
    have OWN := hide (World.ownsRow_lit (e := 27) (size := 6) w #[] 0 (Nat.le_refl w.heap.size) (by unfold maxLen; omega) rfl)
    have B0 := hide ((Below.refl w.heap.size w).alloc (Nat.le_refl _) (.cells #[] 27))
    obtain ⟨L, hL⟩ : ∃ L, cellsL ps = L := ⟨_, rfl⟩
    obtain ⟨n, hn⟩ : ∃ n, l.length = n := ⟨_, rfl⟩
    rw [hL] at HN hone hlen ⊢
    rw [hn] at hlen hv hl ⊢
    subst hv
    have HO := hide hone
    have HLEN := hide hlen
    clear hk hs hc hnews' hone hlen hL hn hpl hlc hp
    have heq : ∀ W, (binOp .eql 25 (.slice (some ad) n c) (.slice none 0 0)).run Try.prog W = .ok (.bool false) W := fun W => Go.Lib.run_eql_slice_some_nil W ad n c Try.underlying25
    have b3 : 0 + n ≤ maxLen := by unfold maxLen; omega
    have b4 : (0 + n) * 64 ≤ 140737488355328 := by omega
    go_enter Try.func31, Try.ntmps31
    go_wp2_with (at_builtin; go_loud (
                 refine wpList_append_own_at _ rfl _ _ 25 rfl w.heap.size 27 i0 _ 6 64 Try.underlying25 hi hz0 hz1 hz2 rfl (by decide) _ 0 [] rfl (unhide OWN) ad n c L rfl (unhide HLEN) (unhide HN) (unhide HO) b3 b4 (unhide B0).size ?_; intro v1 w1 own1 grow1 _ hat))
    go_ret
    refine ⟨v1, rfl, (unhide B0).grown grow1 (unhide B0).size (own_lt (unhide OWN)), ?_⟩
    rw [Nat.zero_add, List.nil_append] at own1
    exact own1
/-- the blocks of what is made anew -/
def NR (w : World) (v : Value) : Nat → Prop := fun q => w.heap.size + 2 ≤ q ∧ v.ownBlock ≠ some q
/-- where apart stands, behind i kids -/
structure AP (w wr : World) (k : Int) (s : Se) (v : Value) (l : List Rx) (ps qs : List (Rx × Value)) (i : Nat) : Prop where
  bel : Below w.heap.size w wr
  b1 : RX wr w.heap.size w.heap.size k s v
  b2 : RX wr w.heap.size (w.heap.size + 1) 0 ⟨0, 0, 0, 0⟩ (.slice none 0 0)
  row : wr.ownsRow (w.heap.size + 2) 27 6 v l.length (cellsL qs)
  fst : qs.map Prod.fst = l
  new : ∀ j p, j < i → qs[j]? = some p → Fit p.1 ∧ KdN (NR w v) wr p.1.ks p.2
  old : ∀ j, i ≤ j → qs[j]? = ps[j]?
theorem AP.below {w wr w' : World} {k : Int} {s : Se} {v : Value} {l : List Rx} {ps qs : List (Rx × Value)} {i : Nat} (A : AP w wr k s v l ps qs i) (b : Below wr.heap.size wr w') : AP w w' k s v l ps qs i :=
  ⟨bel_trans A.bel b, A.b1.below b, A.b2.below b, own_below A.row b, A.fst, fun j p hj hp => ⟨(A.new j p hj hp).1, KdN.move b.size (fun q hq hl => ⟨b.block q hl, hq⟩) _ _ _ (Nat.le_refl _) (A.new j p hj hp).2⟩, A.old⟩
theorem AP.alloc {w wr : World} {k : Int} {s : Se} {v : Value} {l : List Rx} {ps qs : List (Rx × Value)} {i : Nat} (A : AP w wr k s v l ps qs i) (o : Obj) : AP w (wr.alloc o) k s v l ps qs i := A.below ((Below.refl _ _).alloc (Nat.le_refl _) o)
theorem AP.drew {w wr : World} {k : Int} {s : Se} {v : Value} {l : List Rx} {ps qs : List (Rx × Value)} {i : Nat} (A : AP w wr k s v l ps qs i) : AP w wr.drew k s v l ps qs i := A.below (Below.refl _ _).drew
/-- a kid is put in its place -/
theorem AP.put {w wr : World} {k : Int} {s : Se} {l : List Rx} {ps qs : List (Rx × Value)} {i g n c : Nat} {m : Nat} {x : Rx} {k' s1 s2 s3 s4 : Int} {e : Value} (A : AP w wr k s (.slice (some ⟨g, 0, none⟩) n c) l ps qs i) (hn : l.length = n) (hx : l[i]? = some x) (hm : w.heap.size + 2 ≤ m) (hgm : g < m) (V : RexN (fun q => m ≤ q) wr (.agg #[.int .i64 k', .int .u64 s1, .int .u64 s2, .int .u64 s3, .int .u64 s4, e]) x) :
    AP w ((((((wr.setCell ⟨g, i * 6, none⟩ (.int .i64 k')).setCell ⟨g, i * 6 + 1, none⟩ (.int .u64 s1)).setCell ⟨g, i * 6 + 2, none⟩ (.int .u64 s2)).setCell ⟨g, i * 6 + 3, none⟩ (.int .u64 s3)).setCell ⟨g, i * 6 + 4, none⟩ (.int .u64 s4)).setCell ⟨g, i * 6 + 5, none⟩ e) k s (.slice (some ⟨g, 0, none⟩) n c) l ps (qs.set i (x, e)) (i + 1) := by
  subst hn
  obtain ⟨⟨e', h1, h2⟩, hf⟩ := V
  unfold Go.Proofs.Ytjecopdbcaojcaa.rexV at h1
  simp only [Value.agg.injEq, Array.mk.injEq, List.cons.injEq, Value.int.injEq, and_true, true_and] at h1
  obtain ⟨q0, q1, q2, q3, q4, q5⟩ := h1
  subst q5
  have hil : i < l.length := (List.getElem?_eq_some_iff.1 hx).1
  have hql : qs.length = l.length := by have := congrArg List.length A.fst; simpa using this
  obtain ⟨v0, m0⟩ := World.ownsRow.stored A.row (i * 6) (.int .i64 k')
  obtain ⟨v1, m1⟩ := v0.stored (i * 6 + 1) (.int .u64 s1)
  obtain ⟨v2, m2⟩ := v1.stored (i * 6 + 2) (.int .u64 s2)
  obtain ⟨v3, m3⟩ := v2.stored (i * 6 + 3) (.int .u64 s3)
  obtain ⟨v4, m4⟩ := v3.stored (i * 6 + 4) (.int .u64 s4)
  obtain ⟨v5, m5⟩ := v4.stored (i * 6 + 5) e
  have mm := ((((m0.trans m1).trans m2).trans m3).trans m4).trans m5
  have hxs : x.s = ⟨s1, s2, s3, s4⟩ := by rw [q1, q2, q3, q4]
  rw [cellsL_set (by rw [hql]; exact hil) k' s1 s2 s3 s4 e x ⟨q0.symm, hxs⟩] at v5
  have hg := A.row.lt g rfl
  refine ⟨A.bel.grown mm A.bel.size (fun q hq => by cases hq; omega), A.b1.kept mm (fun e => by cases e; omega), A.b2.kept mm (fun e => by cases e; omega), v5, ?_, ?_, ?_⟩
  · rw [List.map_set, A.fst]
    apply List.ext_getElem?
    intro j
    by_cases hj : i = j
    · subst hj; rw [List.getElem?_set_self hil, hx]
    · rw [List.getElem?_set_ne hj]
  · intro j p hj hp
    by_cases hji : i = j
    · subst hji
      rw [List.getElem?_set_self (by rw [hql]; exact hil)] at hp
      cases hp
      exact ⟨hf, KdN.move mm.size (fun q (hq : m ≤ q) hl => ⟨mm.block q hl (fun e => absurd (Option.some.inj e) (by omega)), Nat.le_trans hm hq, fun e => absurd (show g = q from Option.some.inj e) (by omega)⟩) _ _ _ (Nat.le_refl _) h2⟩
    · rw [List.getElem?_set_ne hji] at hp
      obtain ⟨f1, f2⟩ := A.new j p (by omega) hp
      exact ⟨f1, KdN.move mm.size (fun q hq hl => ⟨mm.block q hl (fun e => hq.2 e.symm), hq⟩) _ _ _ (Nat.le_refl _) f2⟩
  · intro j hj
    rw [List.getElem?_set_ne (by omega)]
    exact A.old j (by omega)
/-- all kids are in their places -/
theorem AP.done {w wr : World} {k : Int} {s : Se} {v : Value} {l : List Rx} {ps qs : List (Rx × Value)} (A : AP w wr k s v l ps qs l.length) (hl : l.length ≤ 1000000) : KdN (fun q => w.heap.size + 2 ≤ q) wr l v := by
  have hql : qs.length = l.length := by have := congrArg List.length A.fst; simpa using this
  obtain ⟨o, c, hv⟩ := own_forms A.row
  by_cases hne : l = []
  · rw [KdN]
    subst hne
    refine ⟨⟨o, c, hv, Nat.zero_le _⟩, by simp, fun h => absurd rfl h⟩
  obtain ⟨g, c', hv', hc⟩ := own_form A.row (List.length_pos_iff.2 hne)
  subst hv'
  rw [KdN]
  refine ⟨⟨_, _, rfl, hc⟩, by omega, fun _ => ⟨g, 0, c', rfl, (A.row.lt g rfl).2, (A.row.lt g rfl).1, fun i hi => ?_⟩⟩
  have hqi : qs[i]? = some qs[i] := List.getElem?_eq_getElem (by omega)
  have hfst : qs[i].1 = l[i] := by
    have h1 : (qs.map Prod.fst)[i]? = l[i]? := by rw [A.fst]
    rw [List.getElem?_map, hqi, List.getElem?_eq_getElem hi] at h1
    exact Option.some.inj h1
  obtain ⟨f1, f2⟩ := A.new i _ hi hqi
  obtain ⟨k0, k1, k2, k3, k4, k5⟩ := cellsL_at hqi
  have cc : ∀ j, j < l.length * 6 → wr.cell? ⟨g, 0 + j, none⟩ = (cellsL qs)[j]? := fun j hj => by rw [Nat.zero_add]; exact A.row.cellAt j hj
  rw [hfst] at f1 f2 k0 k1 k2 k3 k4
  rw [Nat.zero_add]
  have cc : ∀ j, j < l.length * 6 → wr.cell? ⟨g, j, none⟩ = (cellsL qs)[j]? := fun j hj => A.row.cellAt j hj
  exact ⟨f1, (cc _ (by omega)).trans k0, (cc _ (by omega)).trans k1, (cc _ (by omega)).trans k2, (cc _ (by omega)).trans k3, (cc _ (by omega)).trans k4, _, (cc _ (by omega)).trans k5, KdN.move (Nat.le_refl _) (fun q hq _ => ⟨rfl, hq.1⟩) _ _ _ (Nat.le_refl _) f2⟩
end Go.Proofs.Ytjecopdbcaojcaa

/- The program's reader: apart, walked. -/
namespace Go.Proofs.Ytjecopdbcaojcaa
open Go.RowKit Kb
set_option linter.unusedVariables false
set_option maxRecDepth 20000

/-- what apart does with an expression -/
def APC (r : Rx) : Prop := ∀ (w : World) (v : Value), RexV w v r →
  Calls Try.prog 16 #[v] w fun e w' => ∃ v', e = .returned v' ∧ RexN (fun q => w.heap.size ≤ q) w' v' r ∧ Below w.heap.size w w'
set_option maxHeartbeats 8000000 in
theorem apart_node (k : Int) (s : Se) (l : List Rx) (hl : l.length ≤ 1000000) (IH : ∀ x ∈ l, APC x) : APC (.mk k s l) := by
  intro w v hV
  have hfit := hV.fit
  obtain ⟨t, ht, hk⟩ := hV.val
  simp only [Rx.ks] at hk
  obtain ⟨ps, hp, hps, hcl⟩ := hk.list
  obtain ⟨o, c, hv, _⟩ := hk.form
  obtain ⟨s1, s2, s3, s4⟩ := s
  unfold rexV at ht
  simp only [Rx.k, Rx.s] at ht
  subst ht
  have A0 : Hid (RX ((w.alloc (.cells #[.int .i64 k, .int .u64 s1, .int .u64 s2, .int .u64 s3, .int .u64 s4, t] 27)).alloc (.cells #[.int .i64 0, .int .u64 0, .int .u64 0, .int .u64 0, .int .u64 0, .slice none 0 0] 27)) w.heap.size w.heap.size k ⟨s1, s2, s3, s4⟩ t) := hide ((RX.new w (Nat.le_refl _) k ⟨s1, s2, s3, s4⟩ t).below ((Below.refl _ _).alloc (Nat.le_refl _) _))
  have A1 := hide (RX.new (base := w.heap.size) (w.alloc (.cells #[.int .i64 k, .int .u64 s1, .int .u64 s2, .int .u64 s3, .int .u64 s4, t] 27)) (by simp) 0 ⟨0, 0, 0, 0⟩ (.slice none 0 0))
  have B0 := hide (((Below.refl w.heap.size w).alloc (Nat.le_refl _) (.cells #[.int .i64 k, .int .u64 s1, .int .u64 s2, .int .u64 s3, .int .u64 s4, t] 27)).alloc (by simp) (.cells #[.int .i64 0, .int .u64 0, .int .u64 0, .int .u64 0, .int .u64 0, .slice none 0 0] 27))
  rw [show (w.alloc (.cells #[.int .i64 k, .int .u64 s1, .int .u64 s2, .int .u64 s3, .int .u64 s4, t] 27)).heap.size = w.heap.size + 1 by simp] at A1
  dsimp only at A1
  obtain ⟨W0, hW0⟩ : ∃ W0, (w.alloc (.cells #[.int .i64 k, .int .u64 s1, .int .u64 s2, .int .u64 s3, .int .u64 s4, t] 27)).alloc (.cells #[.int .i64 0, .int .u64 0, .int .u64 0, .int .u64 0, .int .u64 0, .slice none 0 0] 27) = W0 := ⟨_, rfl⟩
  have hsz0 : W0.heap.size = w.heap.size + 2 := by rw [← hW0]; simp
  rw [hW0] at A0 A1 B0
  have HCL := hide (clone_any W0 t l ps (Kd.below (unhide B0) _ _ _ (Nat.le_refl _) hk) hp (fun p hpm => ⟨(hps p hpm).1, Kd.below (unhide B0) _ _ _ (Nat.le_refl _) (hps p hpm).2⟩) (fun hne => by
    obtain ⟨g, off, c, h1, h2, h3⟩ := hcl hne
    exact ⟨g, off, c, h1, Nat.lt_of_lt_of_le h2 (unhide B0).size, fun j u hu => cell_below (h3 j u hu) h2 (unhide B0)⟩) hl)
  have HREC := hide (fun (x : Rx) (e : Value) (hm : (x, e) ∈ ps) (W : World) (bb : Below w.heap.size w W) => IH x (by rw [← hp]; exact List.mem_map.2 ⟨_, hm, rfl⟩) W (rexV x e) ⟨⟨e, rfl, Kd.below bb _ _ _ (Nat.le_refl _) (hps (x, e) hm).2⟩, (hps (x, e) hm).1⟩)
  have HFORM := hide (fun (x : Rx) (e : Value) (hm : (x, e) ∈ ps) => (hps (x, e) hm).2.form)
  have HP := hide hp
  have HFIT := hide hfit
  subst hv
  obtain ⟨y0, y1, y2, y3, y4, y5⟩ := (unhide A0).cells
  have f5 := (unhide A0).frozen.2.2.2.2.2
  clear hk hps hcl hV IH hfit hp
  go_enter Try.func16, Try.ntmps16
  go_wp2_with fail
  refine (unhide HCL).mono ?_
  rintro e w1 ⟨v', rfl, b1, own1⟩
  clear hW0 y0 y1 y2 y3 y4 y5 f5 HCL
  have A2 := hide ((unhide A0).below b1)
  obtain ⟨o', c', hv'⟩ := own_forms own1
  subst hv'
  obtain ⟨st, gr⟩ := World.ownsRow.stored (unhide A2) 5 (.slice o' l.length c')
  rw [hsz0] at own1
  have AP0 : Hid (AP w (w1.setCell ⟨w.heap.size, 5, none⟩ (.slice o' l.length c')) k ⟨s1, s2, s3, s4⟩ (.slice o' l.length c') l ps ps 0) := hide (by
    refine ⟨(bel_trans (unhide B0) b1).grown gr (bel_trans (unhide B0) b1).size (fun q hq => by cases hq; omega), st, ((unhide A1).below b1).kept gr (fun e => by have := Option.some.inj e; omega), own1.kept gr (.inr (fun e => ?_)), unhide HP, fun j p hj => by omega, fun j _ => rfl⟩
    have := own1.lt w.heap.size e
    omega)
  obtain ⟨y0, y1, y2, y3, y4, y5⟩ := (unhide A2).cells
  have f5 := (unhide A2).frozen.2.2.2.2.2
  dsimp only at y1 y2 y3 y4
  obtain ⟨W2, hW2⟩ : ∃ W2, w1.setCell ⟨w.heap.size, 5, none⟩ (.slice o' l.length c') = W2 := ⟨_, rfl⟩
  rw [hW2] at AP0
  obtain ⟨z0, z1, z2, z3, z4, z5⟩ := (unhide AP0).b1.cells
  dsimp only at z1 z2 z3 z4
  clear st gr b1 own1 A0 A1 B0
  go_wp2_with fail
  clear hW2 A2 y0 y1 y2 y3 y4 y5 f5 z0 z1 z2 z3 z4 z5
  go_loopw [12] (fun x wr => ∃ (i : Nat) (qs : List (Rx × Value)), x = .int .i64 i ∧ i ≤ l.length ∧ AP w wr k ⟨s1, s2, s3, s4⟩ (.slice o' l.length c') l ps qs i) (fun x _ => l.length - (intOf x).toNat)
  case atStart => exact ⟨0, ps, rfl, Nat.zero_le _, unhide AP0⟩
  case round =>
    clear AP0
    obtain ⟨i, qs, rfl, hi, hA⟩ := hrel
    have A := hide hA
    clear hA
    by_cases hil : i < l.length
    · obtain ⟨x, hx⟩ : ∃ x, l[i]? = some x := ⟨l[i], List.getElem?_eq_getElem hil⟩
      obtain ⟨e, hpe⟩ : ∃ e, ps[i]? = some (x, e) := by
        have h1 : (ps.map Prod.fst)[i]? = some x := by rw [unhide HP, hx]
        rw [List.getElem?_map] at h1
        obtain ⟨p, hp1, hp2⟩ := Option.map_eq_some_iff.1 h1
        exact ⟨p.2, by rw [hp1, ← hp2]⟩
      have hmem := List.mem_of_getElem? hpe
      have hqi : qs[i]? = some (x, e) := by rw [(unhide A).old i (Nat.le_refl _), hpe]
      obtain ⟨g, cc, hv, hcc⟩ := own_form (unhide A).row (by omega)
      cases hv
      obtain ⟨k0, k1, k2, k3, k4, k5⟩ := cellsL_at hqi
      have c0 := ((unhide A).row.cellAt (i * 6) (by omega)).trans k0
      have c1 := ((unhide A).row.cellAt (i * 6 + 1) (by omega)).trans k1
      have c2 := ((unhide A).row.cellAt (i * 6 + 2) (by omega)).trans k2
      have c3 := ((unhide A).row.cellAt (i * 6 + 3) (by omega)).trans k3
      have c4 := ((unhide A).row.cellAt (i * 6 + 4) (by omega)).trans k4
      have c5 := ((unhide A).row.cellAt (i * 6 + 5) (by omega)).trans k5
      have HR := hide ((unhide HREC) x e hmem)
      obtain ⟨oe, ce, hfe, _⟩ := (unhide HFORM) x e hmem
      unfold rexV at HR
      have HX := hide hx
      obtain ⟨x0, hx0⟩ : ∃ z, x.k = z := ⟨_, rfl⟩
      obtain ⟨⟨x1, x2, x3, x4⟩, hx1⟩ : ∃ z, x.s = z := ⟨_, rfl⟩
      obtain ⟨ne, hne⟩ : ∃ z, x.ks.length = z := ⟨_, rfl⟩
      dsimp only at c0 c1 c2 c3 c4 c5
      rw [hne] at hfe
      subst hfe
      rw [hx0] at c0 HR
      rw [hx1] at c1 c2 c3 c4 HR
      dsimp only at c1 c2 c3 c4 HR
      have HX0 := hide (And.intro hx0 hx1)
      have HQI := hide hqi
      clear k0 k1 k2 k3 k4 k5 hx hpe hmem hqi hx0 hx1 hne
      have hgl := (unhide A).row.lt g rfl
      have A4 := hide ((unhide A).alloc (.cells #[.int .i64 x0, .int .u64 x1, .int .u64 x2, .int .u64 x3, .int .u64 x4, .slice oe ne ce] 27))
      have K4 := hide (RX.new (base := w.heap.size) wr (unhide A).bel.size x0 ⟨x1, x2, x3, x4⟩ (.slice oe ne ce))
      dsimp only at K4
      obtain ⟨gk, hgk⟩ : ∃ gk, wr.heap.size = gk := ⟨_, rfl⟩
      obtain ⟨W4, hW4⟩ : ∃ W4, wr.alloc (.cells #[.int .i64 x0, .int .u64 x1, .int .u64 x2, .int .u64 x3, .int .u64 x4, .slice oe ne ce] 27) = W4 := ⟨_, rfl⟩
      rw [hW4] at A4 K4
      rw [hgk] at K4
      have hlI : (i : Int) < l.length := by omega
      have hib : 0 ≤ (i : Int) ∧ (i : Int) < l.length := by omega
      go_wp2_with fail
      clear hW4 hgk c0 c1 c2 c3 c4 c5
      obtain ⟨y0, y1, y2, y3, y4, y5⟩ := (unhide K4).cells
      obtain ⟨z0, z1, z2, z3, z4, z5⟩ := (unhide A4).b1.cells
      dsimp only at y1 y2 y3 y4 z1 z2 z3 z4
      have hk4 := (unhide K4).lt.2
      have hg4 := (unhide A4).row.lt g rfl
      go_region_law (go_simp; go_at_call 16; refine ((unhide HR) _ (unhide A4).drew.bel).mono ?_; rintro e5 w5 ⟨v5, rfl, V5, b5⟩; have A5 := hide ((unhide A4).drew.below b5); have V5' := hide V5; obtain ⟨q0, ⟨q1, q2, q3, q4⟩, qo, qn, qc, rfl⟩ := V5.formV; clear V5 b5 y0 y1 y2 y3 y4 y5 z0 z1 z2 z3 z4 z5; obtain ⟨z0, z1, z2, z3, z4, z5⟩ := (unhide A5).b1.cells; obtain ⟨k0, k1, k2, k3, k4, k5⟩ := cellsL_at (unhide HQI); have c0 := ((unhide A5).row.cellAt (i * 6) (by omega)).trans k0; have c1 := ((unhide A5).row.cellAt (i * 6 + 1) (by omega)).trans k1; have c2 := ((unhide A5).row.cellAt (i * 6 + 2) (by omega)).trans k2; have c3 := ((unhide A5).row.cellAt (i * 6 + 3) (by omega)).trans k3; have c4 := ((unhide A5).row.cellAt (i * 6 + 4) (by omega)).trans k4; have c5 := ((unhide A5).row.cellAt (i * 6 + 5) (by omega)).trans k5; have f0 := (unhide A5).row.frozenAt (i * 6); have f1 := (unhide A5).row.frozenAt (i * 6 + 1); have f2 := (unhide A5).row.frozenAt (i * 6 + 2); have f3 := (unhide A5).row.frozenAt (i * 6 + 3); have f4 := (unhide A5).row.frozenAt (i * 6 + 4); have f5 := (unhide A5).row.frozenAt (i * 6 + 5); clear k0 k1 k2 k3 k4 k5; dsimp only at *)
      all_goals (
        go_wp2_with fail
        have hm5 := (unhide A4).bel.size
        have A6 := (unhide A5).put rfl (unhide HX) (m := W4.drew.heap.size) (by show _ ≤ W4.heap.size; have := (unhide A4).b2.lt.2; omega) (by show _ < W4.heap.size; omega) (unhide V5')
        refine ⟨⟨i + 1, _, by go_num, by omega, A6⟩, by simp [intOf]; omega⟩)
    · obtain rfl : i = l.length := by omega
      have hK := (unhide A).done hl
      have HK := hide hK
      obtain ⟨y0, y1, y2, y3, y4, y5⟩ := (unhide A).b2.cells
      obtain ⟨h0, h1, h2, h3, h4, h5⟩ := (unhide A).b2.frozen
      obtain ⟨z0, z1, z2, z3, z4, z5⟩ := (unhide A).b1.cells
      dsimp only at y1 y2 y3 y4 z1 z2 z3 z4
      obtain ⟨p1, p2⟩ := (unhide A).b2.put k s1 s2 s3 s4 (.slice o' l.length c')
      have P1 := hide p1
      have P2 := hide p2
      clear hK p1 p2
      go_wp2_with fail
      (try simp only [Exit.inBlock, Exit.then])
      obtain ⟨fr, hh⟩ := own_one (unhide P1)
      refine bodyPost_ret_by (v := .agg #[.int .i64 k, .int .u64 s1, .int .u64 s2, .int .u64 s3, .int .u64 s4, .slice o' l.length c']) ?_ rfl ⟨_, rfl, ⟨⟨_, rfl, KdN.move (unhide P2).size (fun q (hq : w.heap.size + 2 ≤ q) hl => ⟨(unhide P2).block q hl (fun e => by have := Option.some.inj e; omega), by show w.heap.size ≤ q; omega⟩) _ _ _ (Nat.le_refl _) (unhide HK)⟩, unhide HFIT⟩, (unhide A).bel.grown (unhide P2) (unhide A).bel.size (fun q hq => by have := Option.some.inj hq; omega)⟩
      exact results_cell_row (ty := 27) rfl _ _ (w.heap.size + 1) _ #[.int .i64 k, .int .u64 s1, .int .u64 s2, .int .u64 s3, .int .u64 s4, .slice o' l.length c'] _ _ rfl hh Try.underlying27 rfl (by kernel_rfl)
theorem apart_any (x : Ex) : APC x.rx := by
  induction x with
  | none => exact apart_node _ _ [] (by simp) (fun y hy => by simp at hy)
  | emp => exact apart_node _ _ [] (by simp) (fun y hy => by simp at hy)
  | byte s => exact apart_node _ _ [] (by simp) (fun y hy => by simp at hy)
  | beg => exact apart_node _ _ [] (by simp) (fun y hy => by simp at hy)
  | en => exact apart_node _ _ [] (by simp) (fun y hy => by simp at hy)
  | cat a b ha hb => exact apart_node _ _ [a.rx, b.rx] (by simp) (fun y hy => by simp at hy; rcases hy with rfl | rfl; exact ha; exact hb)
  | alt a b ha hb => exact apart_node _ _ [a.rx, b.rx] (by simp) (fun y hy => by simp at hy; rcases hy with rfl | rfl; exact ha; exact hb)
  | star a ha => exact apart_node _ _ [a.rx] (by simp) (fun y hy => by simp at hy; rw [hy]; exact ha)
end Go.Proofs.Ytjecopdbcaojcaa
