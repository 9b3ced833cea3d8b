/- The program's reader: each node is given a list of its own (apart). -/
import Derived.Test.YtmhjfiaohbioeaaKw
import Derived.WalkSpells
import Derived.Lib.BufferMore
namespace Go.Proofs.Ytmhjfiaohbioeaa
open Go.RowKit Kb
set_option linter.unusedVariables false
set_option maxRecDepth 20000

set_option maxHeartbeats 4000000 in
theorem clone_any (w : World) (v : Value) (l : List Rx) (ps : List (Rx × Value)) (hk : Kd w l v) (hp : ps.map Prod.fst = l) (hs : ∀ p ∈ ps, Fit p.1 ∧ Kd w p.1.ks p.2) (hc : l ≠ [] → ∃ g off c, v = .slice (some ⟨g, off, none⟩) l.length c ∧ g < w.heap.size ∧ ∀ j u, (cellsL ps)[j]? = some u → w.cell? ⟨g, off + j, none⟩ = some u) (hl : l.length ≤ 1000000) :
    Calls Try.prog 27 #[v] w fun e w' => ∃ v', e = .returned v' ∧ Below w.heap.size w w' ∧ w'.ownsRow w.heap.size 27 6 v' l.length (cellsL ps) := by
  obtain ⟨i0, hi, hz0, hz1, hz2⟩ := info_parts infoR
  have hpl : ps.length = l.length := by rw [← hp, List.length_map]
  have hone : ∀ u ∈ cellsL ps, u.oneCell' = true := cellsL_one fun p hpm => by
    obtain ⟨o, c, h, _⟩ := (hs p hpm).2.form
    exact ⟨o, _, c, h⟩
  obtain ⟨o, c, hv, hlc⟩ := hk.form
  cases o with
  | none =>
    have hnil : l = [] := Classical.byContradiction fun hne => by
      obtain ⟨g, off, c', h1, _⟩ := hc hne
      rw [hv] at h1; cases h1
    subst hnil
    have hps : ps = [] := List.map_eq_nil_iff.1 hp
    subst hps
    subst hv
    clear hk hs hc
    simp only [List.length_nil] at *
    go_enter Try.func27, Try.ntmps27
    have heq : ∀ W, (binOp .eql 25 (.slice none 0 c) (.slice none 0 0)).run Try.prog W = .ok (.bool true) W := fun W => run_eql_nil_slice W _ _ none 0 0 0 c Try.underlying25
    go_wp2_with fail
    go_ret
    exact ⟨_, rfl, Below.refl _ _, World.ownsRow_nil _ _ _ _⟩
  | some ad =>
    have hlen : (cellsL ps).length = l.length * 6 := by rw [cellsL_length, hpl]
    have hnews' : ∀ (j : Nat) (u : Value), (cellsL ps)[j]? = some u → (w.alloc (.cells #[] 27)).cell? (ad.add j) = some u := by
      intro j u hu
      have hne : l ≠ [] := fun e => by
        subst e
        have hps : ps = [] := List.map_eq_nil_iff.1 hp
        subst hps
        simp [cellsL] at hu
      obtain ⟨g, off, c', h1, hgl, h3⟩ := hc hne
      rw [hv] at h1
      cases h1
      rw [Addr.add_lit]; exact cell_below (h3 j u hu) hgl ((Below.refl _ _).alloc (Nat.le_refl _) _)
    have HN := hide hnews'
    have OWN := hide (World.ownsRow_lit (e := 27) (size := 6) w #[] 0 (Nat.le_refl w.heap.size) (by unfold maxLen; omega) rfl)
    have B0 := hide ((Below.refl w.heap.size w).alloc (Nat.le_refl _) (.cells #[] 27))
    obtain ⟨L, hL⟩ : ∃ L, cellsL ps = L := ⟨_, rfl⟩
    obtain ⟨n, hn⟩ : ∃ n, l.length = n := ⟨_, rfl⟩
    rw [hL] at HN hone hlen ⊢
    rw [hn] at hlen hv hl ⊢
    subst hv
    have HO := hide hone
    have HLEN := hide hlen
    clear hk hs hc hnews' hone hlen hL hn hpl hlc hp
    have heq : ∀ W, (binOp .eql 25 (.slice (some ad) n c) (.slice none 0 0)).run Try.prog W = .ok (.bool false) W := fun W => Go.Lib.run_eql_slice_some_nil W ad n c Try.underlying25
    have b3 : 0 + n ≤ maxLen := by unfold maxLen; omega
    have b4 : (0 + n) * 64 ≤ 140737488355328 := by omega
    go_enter Try.func27, Try.ntmps27
    go_wp2_with (at_builtin; go_loud (
                 refine wpList_append_own_at _ rfl _ _ 25 rfl w.heap.size 27 i0 _ 6 64 Try.underlying25 hi hz0 hz1 hz2 rfl (by decide) _ 0 [] rfl (unhide OWN) ad n c L rfl (unhide HLEN) (unhide HN) (unhide HO) b3 b4 (unhide B0).size ?_; intro v1 w1 own1 grow1 _ hat))
    go_ret
    refine ⟨v1, rfl, (unhide B0).grown grow1 (unhide B0).size (own_lt (unhide OWN)), ?_⟩
    rw [Nat.zero_add, List.nil_append] at own1
    exact own1
/-- the blocks of what is made anew -/
def NR (w : World) (v : Value) : Nat → Prop := fun q => w.heap.size + 2 ≤ q ∧ v.ownBlock ≠ some q
/-- where apart stands, behind i kids -/
structure AP (w wr : World) (k : Int) (s : Se) (v : Value) (l : List Rx) (ps qs : List (Rx × Value)) (i : Nat) : Prop where
  bel : Below w.heap.size w wr
  b1 : RX wr w.heap.size w.heap.size k s v
  b2 : RX wr w.heap.size (w.heap.size + 1) 0 ⟨0, 0, 0, 0⟩ (.slice none 0 0)
  row : wr.ownsRow (w.heap.size + 2) 27 6 v l.length (cellsL qs)
  fst : qs.map Prod.fst = l
  new : ∀ j p, j < i → qs[j]? = some p → Fit p.1 ∧ KdN (NR w v) wr p.1.ks p.2
  old : ∀ j, i ≤ j → qs[j]? = ps[j]?
theorem AP.below {w wr w' : World} {k : Int} {s : Se} {v : Value} {l : List Rx} {ps qs : List (Rx × Value)} {i : Nat} (A : AP w wr k s v l ps qs i) (b : Below wr.heap.size wr w') : AP w w' k s v l ps qs i :=
  ⟨bel_trans A.bel b, A.b1.below b, A.b2.below b, own_below A.row b, A.fst, fun j p hj hp => ⟨(A.new j p hj hp).1, KdN.move b.size (fun q hq hl => ⟨b.block q hl, hq⟩) _ _ _ (Nat.le_refl _) (A.new j p hj hp).2⟩, A.old⟩
theorem AP.alloc {w wr : World} {k : Int} {s : Se} {v : Value} {l : List Rx} {ps qs : List (Rx × Value)} {i : Nat} (A : AP w wr k s v l ps qs i) (o : Obj) : AP w (wr.alloc o) k s v l ps qs i := A.below ((Below.refl _ _).alloc (Nat.le_refl _) o)
theorem AP.drew {w wr : World} {k : Int} {s : Se} {v : Value} {l : List Rx} {ps qs : List (Rx × Value)} {i : Nat} (A : AP w wr k s v l ps qs i) : AP w wr.drew k s v l ps qs i := A.below (Below.refl _ _).drew
/-- a kid is put in its place -/
theorem AP.put {w wr : World} {k : Int} {s : Se} {l : List Rx} {ps qs : List (Rx × Value)} {i g n c : Nat} {m : Nat} {x : Rx} {k' s1 s2 s3 s4 : Int} {e : Value} (A : AP w wr k s (.slice (some ⟨g, 0, none⟩) n c) l ps qs i) (hn : l.length = n) (hx : l[i]? = some x) (hm : w.heap.size + 2 ≤ m) (hgm : g < m) (V : RexN (fun q => m ≤ q) wr (.agg #[.int .i64 k', .int .u64 s1, .int .u64 s2, .int .u64 s3, .int .u64 s4, e]) x) :
    AP w ((((((wr.setCell ⟨g, i * 6, none⟩ (.int .i64 k')).setCell ⟨g, i * 6 + 1, none⟩ (.int .u64 s1)).setCell ⟨g, i * 6 + 2, none⟩ (.int .u64 s2)).setCell ⟨g, i * 6 + 3, none⟩ (.int .u64 s3)).setCell ⟨g, i * 6 + 4, none⟩ (.int .u64 s4)).setCell ⟨g, i * 6 + 5, none⟩ e) k s (.slice (some ⟨g, 0, none⟩) n c) l ps (qs.set i (x, e)) (i + 1) := by
  subst hn
  obtain ⟨⟨e', h1, h2⟩, hf⟩ := V
  unfold Go.Proofs.Ytmhjfiaohbioeaa.rexV at h1
  simp only [Value.agg.injEq, Array.mk.injEq, List.cons.injEq, Value.int.injEq, and_true, true_and] at h1
  obtain ⟨q0, q1, q2, q3, q4, q5⟩ := h1
  subst q5
  have hil : i < l.length := (List.getElem?_eq_some_iff.1 hx).1
  have hql : qs.length = l.length := by have := congrArg List.length A.fst; simpa using this
  obtain ⟨v0, m0⟩ := World.ownsRow.stored A.row (i * 6) (.int .i64 k')
  obtain ⟨v1, m1⟩ := v0.stored (i * 6 + 1) (.int .u64 s1)
  obtain ⟨v2, m2⟩ := v1.stored (i * 6 + 2) (.int .u64 s2)
  obtain ⟨v3, m3⟩ := v2.stored (i * 6 + 3) (.int .u64 s3)
  obtain ⟨v4, m4⟩ := v3.stored (i * 6 + 4) (.int .u64 s4)
  obtain ⟨v5, m5⟩ := v4.stored (i * 6 + 5) e
  have mm := ((((m0.trans m1).trans m2).trans m3).trans m4).trans m5
  have hxs : x.s = ⟨s1, s2, s3, s4⟩ := by rw [q1, q2, q3, q4]
  rw [cellsL_set (by rw [hql]; exact hil) k' s1 s2 s3 s4 e x ⟨q0.symm, hxs⟩] at v5
  have hg := A.row.lt g rfl
  refine ⟨A.bel.grown mm A.bel.size (fun q hq => by cases hq; omega), A.b1.kept mm (fun e => by cases e; omega), A.b2.kept mm (fun e => by cases e; omega), v5, ?_, ?_, ?_⟩
  · rw [List.map_set, A.fst]
    apply List.ext_getElem?
    intro j
    by_cases hj : i = j
    · subst hj; rw [List.getElem?_set_self hil, hx]
    · rw [List.getElem?_set_ne hj]
  · intro j p hj hp
    by_cases hji : i = j
    · subst hji
      rw [List.getElem?_set_self (by rw [hql]; exact hil)] at hp
      cases hp
      exact ⟨hf, KdN.move mm.size (fun q (hq : m ≤ q) hl => ⟨mm.block q hl (fun e => absurd (Option.some.inj e) (by omega)), Nat.le_trans hm hq, fun e => absurd (show g = q from Option.some.inj e) (by omega)⟩) _ _ _ (Nat.le_refl _) h2⟩
    · rw [List.getElem?_set_ne hji] at hp
      obtain ⟨f1, f2⟩ := A.new j p (by omega) hp
      exact ⟨f1, KdN.move mm.size (fun q hq hl => ⟨mm.block q hl (fun e => hq.2 e.symm), hq⟩) _ _ _ (Nat.le_refl _) f2⟩
  · intro j hj
    rw [List.getElem?_set_ne (by omega)]
    exact A.old j (by omega)
/-- all kids are in their places -/
theorem AP.done {w wr : World} {k : Int} {s : Se} {v : Value} {l : List Rx} {ps qs : List (Rx × Value)} (A : AP w wr k s v l ps qs l.length) (hl : l.length ≤ 1000000) : KdN (fun q => w.heap.size + 2 ≤ q) wr l v := by
  have hql : qs.length = l.length := by have := congrArg List.length A.fst; simpa using this
  obtain ⟨o, c, hv⟩ := own_forms A.row
  by_cases hne : l = []
  · rw [KdN]
    subst hne
    refine ⟨⟨o, c, hv, Nat.zero_le _⟩, by simp, fun h => absurd rfl h⟩
  obtain ⟨g, c', hv', hc⟩ := own_form A.row (List.length_pos_iff.2 hne)
  subst hv'
  rw [KdN]
  refine ⟨⟨_, _, rfl, hc⟩, by omega, fun _ => ⟨g, 0, c', rfl, (A.row.lt g rfl).2, (A.row.lt g rfl).1, fun i hi => ?_⟩⟩
  have hqi : qs[i]? = some qs[i] := List.getElem?_eq_getElem (by omega)
  have hfst : qs[i].1 = l[i] := by
    have h1 : (qs.map Prod.fst)[i]? = l[i]? := by rw [A.fst]
    rw [List.getElem?_map, hqi, List.getElem?_eq_getElem hi] at h1
    exact Option.some.inj h1
  obtain ⟨f1, f2⟩ := A.new i _ hi hqi
  obtain ⟨k0, k1, k2, k3, k4, k5⟩ := cellsL_at hqi
  have cc : ∀ j, j < l.length * 6 → wr.cell? ⟨g, 0 + j, none⟩ = (cellsL qs)[j]? := fun j hj => by rw [Nat.zero_add]; exact A.row.cellAt j hj
  rw [hfst] at f1 f2 k0 k1 k2 k3 k4
  rw [Nat.zero_add]
  have cc : ∀ j, j < l.length * 6 → wr.cell? ⟨g, j, none⟩ = (cellsL qs)[j]? := fun j hj => A.row.cellAt j hj
  exact ⟨f1, (cc _ (by omega)).trans k0, (cc _ (by omega)).trans k1, (cc _ (by omega)).trans k2, (cc _ (by omega)).trans k3, (cc _ (by omega)).trans k4, _, (cc _ (by omega)).trans k5, KdN.move (Nat.le_refl _) (fun q hq _ => ⟨rfl, hq.1⟩) _ _ _ (Nat.le_refl _) f2⟩
end Go.Proofs.Ytmhjfiaohbioeaa
