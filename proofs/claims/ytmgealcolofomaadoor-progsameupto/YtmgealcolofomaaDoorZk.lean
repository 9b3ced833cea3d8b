/- The program's spans of a star. -/
import Derived.Test.YtmgealcolofomaaDoorZj
namespace Go.Proofs.YtmgealcolofomaaDoor
open Go.RowKit Kb Go.Shelf
attribute [local go_sem] Oper.semAt_some
set_option linter.unusedVariables false
set_option maxRecDepth 20000
open Sp

namespace Sp
/-- a row of a star's spans, its ways having been gone through up to pre -/
def rowS (n : Nat) (A : Nat → Nat → Bool) (i : Nat) (pre : List Nat) (j : Nat) : Bool := decide (j = i) || pre.any fun k => decide (i < k) && star n A k j
/-- the rows from p on are there, and row i in part -/
def tabS (n : Nat) (A : Nat → Nat → Bool) (i : Nat) (pre : List Nat) (r j : Nat) : Bool := (decide (i < r) && star n A r j) || (decide (r = i) && rowS n A i pre j)
theorem tabS_step {n : Nat} {A : Nat → Nat → Bool} {i x : Nat} {pre : List Nat} (hx : i ≤ x) (r j : Nat) : (tabS n A i pre r j || (decide (r = i) && tabS n A i pre x j)) = tabS n A i (pre ++ [x]) r j := by
  unfold tabS rowS
  rw [List.any_append]
  by_cases e : r = i
  · subst e
    simp only [decide_true, Bool.true_and, Nat.lt_irrefl, decide_false, Bool.false_and, Bool.false_or, List.any_cons, List.any_nil, Bool.or_false]
    by_cases h : x = r
    · subst h
      simp
    · have h1 : r < x := by omega
      have h2 : decide (r < x) = true := decide_eq_true h1
      have h3 : decide (x = r) = false := decide_eq_false h
      rw [h2, h3]
      simp only [Bool.true_and, Bool.false_and, Bool.or_false]
      rw [Bool.or_assoc]
  · simp [e]
theorem tabS_done {n : Nat} {A : Nat → Nat → Bool} {i : Nat} (hi : i ≤ n) (hn : n < 320) (hA : ∀ i j, A i j = true → i ≤ j ∧ j ≤ n) (r j : Nat) : tabS n A i (plc (A i) 320) r j = (decide (i ≤ r) && star n A r j) := by
  unfold tabS
  by_cases e : r = i
  · subst e
    simp only [decide_true, Bool.true_and, Nat.lt_irrefl, decide_false, Bool.false_and, Bool.false_or, Nat.le_refl]
    rw [Bool.eq_iff_iff, star_iff]
    unfold rowS
    simp only [Bool.or_eq_true, decide_eq_true_eq, List.any_eq_true, plc_mem, Bool.and_eq_true]
    constructor
    · rintro (h | ⟨k, ⟨h1, h2⟩, h3, h4⟩)
      · exact ⟨hi, .inl h.symm⟩
      · exact ⟨hi, .inr ⟨k, h3, (hA _ _ h2).2, h2, h4⟩⟩
    · rintro ⟨_, h | ⟨k, h1, h2, h3, h4⟩⟩
      · exact .inl h.symm
      · exact .inr ⟨k, ⟨by omega, h3⟩, h1, h4⟩
  · rw [decide_eq_false e, Bool.false_and, Bool.or_false]
    congr 1
    rw [decide_eq_decide]; omega
theorem tabS_new {n : Nat} {A : Nat → Nat → Bool} {i : Nat} (r j : Nat) : ((decide (i + 1 ≤ r) && star n A r j) || (decide (r = i) && decide (j = i))) = tabS n A i [] r j := by
  unfold tabS rowS
  simp only [List.any_nil, Bool.or_false]
  rfl
end Sp
def muQ (a : Act) (w : World) : Nat := match a.tmps.getD 4 undef with
  | .pointer (some p) => (match w.cell? p with | some (.int _ z) => (z + 1).toNat | _ => 0)
  | _ => 0
set_option maxHeartbeats 4000000 in
theorem repeated_any (va : Value) (n : Nat) (A : Nat → Nat → Bool) (w : World) (hm : n ≤ 300) (ha : PR w va (n + 1) A) (hA : ∀ i j, A i j = true → i ≤ j ∧ j ≤ n) (hT : TZ w) :
    Calls Tryd.prog 67 #[va] w fun e w' => ∃ v, e = .returned v ∧ PR w' v (n + 1) (star n A) ∧ Below w.heap.size w w' := by
  obtain ⟨m, hmn⟩ : ∃ m, n + 1 = m := ⟨_, rfl⟩
  rw [hmn] at ha ⊢
  have hmb : 1 ≤ m ∧ m ≤ 301 := by omega
  obtain ⟨ga, ca, rfl, hca, hSa⟩ := ha
  have hmk := make_spans m (by omega)
  have hS := SP.made w m 86
  obtain ⟨cs, hcs⟩ : ∃ cs, madeCells #[.int .u64 0, .int .u64 0, .int .u64 0, .int .u64 0, .int .u64 0] (m * 5) = cs := ⟨_, rfl⟩
  rw [hcs] at hmk hS
  clear hcs
  obtain ⟨W1, hW1⟩ : ∃ W1, ((w.alloc (.cells cs 86)).alloc (.cells #[.slice (some ⟨w.heap.size, 0, none⟩) m m] 83)).alloc (.cells #[.int .i64 ((m : Int) - 1)] 3) = W1 := ⟨_, rfl⟩
  have hsz : W1.heap.size = w.heap.size + 1 + 1 + 1 := by rw [← hW1]; simp
  have hb1 : Below w.heap.size w W1 := by rw [← hW1]; exact (((Below.refl _ w).alloc (Nat.le_refl _) _).alloc (by simp) _).alloc (by simp; omega) _
  have hc1 : W1.cell? ⟨w.heap.size + 1, 0, none⟩ = some (.slice (some ⟨w.heap.size, 0, none⟩) m m) := by
    rw [← hW1, World.cell?_alloc_lt _ _ _ (by simp)]
    have h := World.cell?_alloc_new (w.alloc (.cells cs 86)) #[.slice (some ⟨w.heap.size, 0, none⟩) m m] 83 0
    rw [World.size_alloc] at h
    exact h
  have hc2 : W1.cell? ⟨w.heap.size + 1 + 1, 0, none⟩ = some (.int .i64 ((m : Int) - 1)) := by
    rw [← hW1]
    have h := World.cell?_alloc_new ((w.alloc (.cells cs 86)).alloc (.cells #[.slice (some ⟨w.heap.size, 0, none⟩) m m] 83)) #[.int .i64 ((m : Int) - 1)] 3 0
    rw [World.size_alloc, World.size_alloc] at h
    exact h
  have hf2 : W1.frozen? ⟨w.heap.size + 1 + 1, 0, none⟩ = false := by
    rw [← hW1]
    have h := World.frozen?_alloc_new ((w.alloc (.cells cs 86)).alloc (.cells #[.slice (some ⟨w.heap.size, 0, none⟩) m m] 83)) #[.int .i64 ((m : Int) - 1)] 3 0
    rw [World.size_alloc, World.size_alloc] at h
    exact h
  have hS1 : SP W1 w.heap.size m (fun _ _ => false) := by
    rw [← hW1]
    have hl := hS.lt
    exact hS.kept (by simp) ((Below.heap_alloc _ _ _ (by rw [World.size_alloc]; omega)).trans (Below.heap_alloc _ _ _ hl))
  have HFR : Hid (∀ W, W1.grownBy W (some w.heap.size) → W.cell? ⟨w.heap.size + 1, 0, none⟩ = some (.slice (some ⟨w.heap.size, 0, none⟩) m m) ∧ SP W ga m A ∧ TZ W ∧ Below w.heap.size w W) := hide (fun W g => by
    have hbW : Below w.heap.size w W := hb1.grown g (by omega) (fun q hq => by have := Option.some.inj hq; omega)
    exact ⟨(World.cell?_of_block (a := ⟨w.heap.size + 1, 0, none⟩) (g.block (w.heap.size + 1) (by omega) (fun e => by have := Option.some.inj e; omega))).trans hc1, hSa.below hbW, hT.below hT.lt hbW, hbW⟩)
  have HS1 := hide hS1
  have HSZ := hide hsz
  have HA := hide hA
  have HC2 := hide hc2
  have HF2 := hide hf2
  have HMN := hide hmn
  clear hsz hb1 hc1 hc2 hf2 hS1 hS hSa hA hT hmn
  refine (callsIn_wide (n := 5)).1 ?_
  refine callsIn_of_wp_marks Tryd.func67 rfl trivial ?_ rfl
  simp only [Tryd.ntmps67, List.size_toArray, List.length_cons, List.length_nil, Nat.reduceAdd, Nat.reduceSub, Array.replicate_succ, Array.replicate_zero, List.push_toArray, List.append_toArray, List.nil_append, List.cons_append]
  gi_wp2
  clear hW1 hmk
  refine wpIn_loop (fun a wr => ∃ (p : Nat) (Ds : List Nat) (q : Nat) (u5 u12 u13 u14 u15 u16 u17 u18 u19 u20 u21 u22 u23 u24 u25 u26 u27 u28 u29 u30 u31 u32 u33 u34 u35 : Value), a = { tmps := #[.slice (some ⟨ga, 0, none⟩) m ca, undef, .slice none 0 0, .pointer (some ⟨w.heap.size + 1, 0, none⟩), .pointer (some ⟨q, 0, none⟩), u5, .slice (some ⟨ga, 0, none⟩) m ca, .int .i64 m, .slice (some ⟨w.heap.size, 0, none⟩) m m, .slice (some ⟨ga, 0, none⟩) m ca, .int .i64 m, .int .i64 ((m : Int) - 1), u12, u13, u14, u15, u16, u17, u18, u19, u20, u21, u22, u23, u24, u25, u26, u27, u28, u29, u30, u31, u32, u33, u34, u35, undef], defers := Ds.map markOf } ∧
      p ≤ m ∧ SP wr w.heap.size m (fun r j => decide (p ≤ r) && star n A r j) ∧ W1.grownBy wr (some w.heap.size) ∧ (w.heap.size < q ∧ wr.cell? ⟨q, 0, none⟩ = some (.int .i64 ((p : Int) - 1)) ∧ wr.frozen? ⟨q, 0, none⟩ = false) ∧ Ds.Nodup ∧ ∀ D ∈ Ds, W1.heap.size ≤ D ∧ wr.heap[D]? = some (.deferred (some [])))
    muQ ?_ ?_
  · refine ⟨m, [], w.heap.size + 1 + 1, _, _, _, _, _, _, _, _, _, _, _, _, _, _, _, _, _, _, _, _, _, _, _, _, _, rfl, Nat.le_refl _, SP.congr (T' := fun r j => decide (m ≤ r) && star n A r j) (unhide HS1) (fun r j hr _ => by rw [decide_eq_false (by omega : ¬ m ≤ r)]; rfl), ⟨rfl, rfl, rfl, Nat.le_refl _, fun _ _ _ => rfl⟩, ⟨by omega, unhide HC2, unhide HF2⟩, List.nodup_nil, fun D hD => (List.not_mem_nil hD).elim⟩
  · rintro a wr ⟨p, Ds, q, u5, u12, u13, u14, u15, u16, u17, u18, u19, u20, u21, u22, u23, u24, u25, u26, u27, u28, u29, u30, u31, u32, u33, u34, u35, rfl, hp, hsp, hg, ⟨hqn, hqc, hqf⟩, hnd, hds⟩
    clear HS1 HC2 HF2
    have SPH := hide hsp
    have GR := hide hg
    have ND := hide hnd
    have DS := hide hds
    clear hsp hg hnd hds
    match p, hp with
    | 0, _ =>
      rw [show ((0 : Nat) : Int) - 1 = -1 by omega] at hqc
      obtain ⟨f1, fA, fT, fb⟩ := (unhide HFR) wr (unhide GR)
      have HFB := hide fb
      have HP : Hid (SP wr w.heap.size m (star n A)) := hide ((unhide SPH).congr (fun r j hr _ => by rw [decide_eq_true (by omega : 0 ≤ r), Bool.true_and]))
      clear fA fT fb
      gi_wp2
      refine leaves_marks Ds wr (unhide ND) (fun D hD => ((unhide DS) D hD).2) (fun W' h1 h2 h3 h4 h5 => ?_)
      have hsz := unhide HSZ
      have hfb := unhide HFB
      have hout : ∀ k, k < W1.heap.size → k ∉ Ds := fun k hk h => by have := ((unhide DS) k h).1; omega
      refine ⟨_, results_tmp rfl _ _ _, _, rfl, ⟨_, _, rfl, Nat.le_refl _, (unhide HP).kept (by omega) (h5 _ (hout _ (by omega)))⟩, ?_⟩
      exact ⟨h1.trans hfb.os, h2.trans hfb.tape, h3.trans hfb.output, by rw [h4]; exact hfb.size, fun k hk => (h5 k (hout k (by omega))).trans (hfb.block k hk)⟩
    | i + 1, hp =>
      rw [show ((i + 1 : Nat) : Int) - 1 = (i : Int) by omega] at hqc
      obtain ⟨f1, fA, fT, fb⟩ := (unhide HFR) wr (unhide GR)
      have hI : (i : Int) < m := by omega
      have HADD := hide (fun W' h => add_any w.heap.size m i i (fun r j => decide (i + 1 ≤ r) && star n A r j) W' h (by omega) (by have := unhide HMN; omega))
      clear fA fT fb
      gi_wp2
      refine wpIn_wide.2 ?_
      go_still_tail 4, (by kernel_rfl)
      go_wp2_with (go_at_call 86; refine ((unhide HADD) _ (by exact (unhide SPH).kept (Nat.le_refl _) rfl)).mono ?_; rintro e w2 ⟨⟨v, rfl⟩, hS2, hG2⟩)
      have hG4 : wr.grownBy w2 (some w.heap.size) := ⟨hG2.os, hG2.tape, hG2.output, hG2.size, hG2.block⟩
      have hS3 := hS2.congr (T' := tabS n A i []) (fun r j _ _ => tabS_new r j)
      have hql := World.block_lt_of_cell? _ _ hqc
      dsimp only at hql
      have hqk := hG4.block q hql (fun e => by have := Option.some.inj e; omega)
      have hqc2 : w2.cell? ⟨q, 0, none⟩ = some (.int .i64 i) := (World.cell?_of_block (a := ⟨q, 0, none⟩) hqk).trans hqc
      have G2 := hide ((unhide GR).trans hG4)
      have G4 := hide hG4
      have S2 := hide hS3
      have HQ2 := hide hqc2
      have HQ1 := hide hqc
      have HQL : Hid (w.heap.size < q ∧ q < w2.heap.size) := hide ⟨hqn, Nat.lt_of_lt_of_le hql hG4.size⟩
      have him : i < m := by omega
      obtain ⟨g1, gA, gT, gb⟩ := (unhide HFR) w2 (unhide G2)
      obtain ⟨a0, a1, a2, a3, a4⟩ := gA.words him
      clear hS2 hG2 hG4 hS3 hqk f1 hqc hqf gA gT gb HADD SPH
      gi_wp2
      clear a0 a1 a2 a3 a4
      refine wp_each (f := A i) ?_ ?_
        (fun pre W => SP W w.heap.size m (tabS n A i pre) ∧ w2.grownBy W (some w.heap.size))
        (fun _ _ _ => False)
        (fun pre W h => ((unhide HFR) W ((unhide G2).trans h.2)).2.2.1)
        (fun pre W o h => ?_) (fun _ _ _ _ h => h.elim) (fun o o' o'' => ?_)
        (fun x => { tmps := #[.slice (some ⟨ga, 0, none⟩) m ca, undef, .slice none 0 0, .pointer (some ⟨w.heap.size + 1, 0, none⟩), .pointer (some ⟨q, 0, none⟩), .int .i64 x, .slice (some ⟨ga, 0, none⟩) m ca, .int .i64 m, .slice (some ⟨w.heap.size, 0, none⟩) m m, .slice (some ⟨ga, 0, none⟩) m ca, .int .i64 m, .int .i64 ((m : Int) - 1), .int .i64 i, .bool true, u14, u15, .slice (some ⟨w.heap.size, 0, none⟩) m m, .int .i64 i, .pointer (some ⟨w.heap.size, i * 5, none⟩), .int .i64 i, v, .slice (some ⟨ga, 0, none⟩) m ca, .int .i64 i, .pointer (some ⟨ga, i * 5, none⟩), plV (A i), .func (.func 69) #[plV (A i)] #[], .int .i64 x, u27, u28, u29, u30, u31, u32, u33, u34, u35, undef], defers := [] })
        ?_ ?_ ?_ ?_
      · rfl
      · rfl
      · have hl := h.1.lt
        have hne : w.heap.size ≠ w2.heap.size + 1 := by have := (unhide S2).lt; omega
        exact ⟨h.1.kept (by simp) (World.putObj_heap_other hne), grownBy_put w2 W _ o _ h.2 (by omega)⟩
      · have g3 := grownBy_over (V := w2) (W := w2) o o' o'' w.heap.size
        have b3 : Below w2.heap.size w2 (((w2.alloc o).alloc o').alloc o'') := (((Below.refl _ w2).alloc (Nat.le_refl _) _).alloc (by simp) _).alloc (by simp; omega) _
        exact ⟨(unhide S2).below b3, g3⟩
      · intro l x W K hK
        unfold plV at hK
        gi_wp2
        exact hK
      · rintro pre x W hx hx3 hfx hlw ⟨h1, h2⟩
        obtain ⟨f1, fA, fT, fb⟩ := (unhide HFR) W ((unhide G2).trans h2)
        have hix := (unhide HA) i x hfx
        have hxm : x < m := by have := unhide HMN; omega
        have hxI : (x : Int) < m := by omega
        obtain ⟨a0, a1, a2, a3, a4⟩ := h1.words hxm
        have hci : W.cell? ⟨q, 0, none⟩ = some (.int .i64 i) :=
          (World.cell?_of_block (a := ⟨q, 0, none⟩) (h2.block q (unhide HQL).2 (fun e => by have := Option.some.inj e; have := (unhide HQL).1; omega))).trans (unhide HQ2)
        have HSW := hide h1
        have HJ := hide (fun (W' : World) (h : SP W' w.heap.size m (tabS n A i pre)) => join_any w.heap.size m i (tabS n A i pre) (tabS n A i pre x) W' h him)
        unfold plV at HJ
        have hmo : Tryd.prog.follows .mixedOrders = true := by kernel_rfl
        have HFIN : Hid (∀ w3 : World, SP w3 w.heap.size m (fun r j => tabS n A i pre r j || (decide (r = i) && tabS n A i pre x j)) → W.grownBy w3 (some w.heap.size) →
            (∀ k, k = w2.heap.size ∨ k = w2.heap.size + 1 → w3.heap[k]? = W.heap[k]?) ∧ SP w3 w.heap.size m (tabS n A i (pre ++ [x])) ∧ w2.grownBy w3 (some w.heap.size)) := hide (fun w3 hs hg => by
          refine ⟨fun k hk => ?_, hs.congr (fun r j _ _ => tabS_step hix.1 r j), h2.trans hg⟩
          have h4 := (unhide S2).lt
          exact hg.block k (by omega) (fun e => by have := Option.some.inj e; omega))
        clear fA fT fb h1 h2 hx
        gi_wp2
        gi_region_with_o (refine ⟨trivial, ?_⟩; gi_at_call 88; refine (CallsIn.inRound _ (callsIn_wide.2 ((unhide HJ) _ (by first | exact unhide HSW | exact (unhide HSW).kept (Nat.le_refl _) rfl)))).mono ?_; rintro e w3 ⟨⟨v', rfl⟩, hS3, hG3⟩)
        all_goals exact (unhide HFIN) w3 hS3 ⟨hG3.os, hG3.tape, hG3.output, hG3.size, hG3.block⟩
      · rintro W ⟨h1, h2⟩ hK
        have H1 := hide (h1.congr (T' := fun r j => decide (i ≤ r) && star n A r j) (fun r j _ _ => tabS_done (by have := unhide HMN; omega) (by omega) (unhide HA) r j))
        have H2 := hide h2
        have hci : W.cell? ⟨q, 0, none⟩ = some (.int .i64 i) :=
          (World.cell?_of_block (a := ⟨q, 0, none⟩) (h2.block q (unhide HQL).2 (fun e => by have := Option.some.inj e; have := (unhide HQL).1; omega))).trans (unhide HQ2)
        clear h1 h2
        gi_wp2
        have hWl := (unhide H1).lt
        refine ⟨⟨i, w2.heap.size :: Ds, W.heap.size, _, _, _, _, _, _, _, _, _, _, _, _, _, _, _, _, _, _, _, _, _, _, _, _, _, rfl, by omega, (unhide H1).kept (by simp) (Below.heap_alloc _ _ _ hWl), (((unhide G2).trans (unhide H2)).trans (grownBy_alloc' W w.heap.size _)), ⟨hWl, World.cell?_alloc_new _ _ _ _, World.frozen?_alloc_new _ _ _ _⟩, ?_, ?_⟩, ?_⟩
        · refine List.nodup_cons.2 ⟨fun h => ?_, unhide ND⟩
          have h1 := (Array.getElem?_eq_some_iff.1 ((unhide DS) _ h).2).1
          have := (unhide G4).size
          omega
        · intro D hD
          have hVl : W1.heap.size ≤ w2.heap.size := (unhide G2).size
          have hWd : ∀ E, E < W.heap.size → (W.alloc (.cells #[.int .i64 ((i : Int) - 1)] 3)).heap[E]? = W.heap[E]? := fun E hE => Below.heap_alloc _ _ _ hE
          rcases List.mem_cons.1 hD with rfl | hD
          · exact ⟨hVl, (hWd _ (Array.getElem?_eq_some_iff.1 hK).1).trans hK⟩
          · have h1 := (unhide DS) D hD
            have hl := (Array.getElem?_eq_some_iff.1 h1.2).1
            have hsz := unhide HSZ
            have hne : some D ≠ some w.heap.size := fun e => by have := Option.some.inj e; omega
            have h3 := ((unhide H2).block D (by have := (unhide G4).size; omega) hne).trans (((unhide G4).block D hl hne).trans h1.2)
            exact ⟨h1.1, (hWd _ (Array.getElem?_eq_some_iff.1 h3).1).trans h3⟩
        · unfold muQ
          simp [unhide HQ1]
          try omega
      · intro e pre W _ h _
        exact h.elim
end Go.Proofs.YtmgealcolofomaaDoor
