/- The program's spans of two, one behind the other. -/
import Derived.Test.YtmgealcolofomaaDoorZi
import Derived.Test.YtmgealcolofomaaDoorZg
namespace Go.Proofs.YtmgealcolofomaaDoor
open Go.RowKit Kb Go.Shelf
attribute [local go_sem] Oper.semAt_some
set_option linter.unusedVariables false
set_option maxRecDepth 20000
open Sp

namespace Sp
theorem any_plc (f : Nat → Bool) (g : Nat → Bool) (m : Nat) (hm : m ≤ 320) (hf : ∀ k, f k = true → k < m) : (plc f 320).any g = (List.range m).any fun k => f k && g k := by
  rw [Bool.eq_iff_iff]
  simp only [List.any_eq_true, plc_mem, List.mem_range, Bool.and_eq_true]
  constructor
  · rintro ⟨k, ⟨h1, h2⟩, h3⟩; exact ⟨k, hf k h2, h2, h3⟩
  · rintro ⟨k, h1, h2, h3⟩; exact ⟨k, ⟨by omega, h2⟩, h3⟩
theorem grownBy_put (V W : World) (l : Nat) (o : Obj) (r : Nat) (h : V.grownBy W (some r)) (hl : V.heap.size ≤ l) : V.grownBy (W.putObj l o) (some r) :=
  ⟨h.os, h.tape, h.output, Nat.le_trans h.size (by simp), fun k hk hn => (World.putObj_heap_other (by omega)).trans (h.block k hk hn)⟩
theorem grownBy_over {V W : World} (o o' o'' : Obj) (r : Nat) : V.grownBy (((V.alloc o).alloc o').alloc o'') (some r) :=
  ((grownBy_alloc' V r o).trans (grownBy_alloc' _ r o')).trans (grownBy_alloc' _ r o'')
end Sp
set_option maxHeartbeats 4000000 in
theorem behind_any (va vb : Value) (m : Nat) (A B : Nat → Nat → Bool) (w : World) (hm : m ≤ 301) (ha : PR w va m A) (hb : PR w vb m B) (hA : ∀ i j, A i j = true → j < m) (hT : TZ w) :
    Calls Tryd.prog 65 #[va, vb] w fun e w' => ∃ v, e = .returned v ∧ PR w' v m (fun r j => (List.range m).any fun k => A r k && B k j) ∧ Below w.heap.size w w' := by
  obtain ⟨ga, ca, rfl, hca, hSa⟩ := ha
  obtain ⟨gb, cb, rfl, hcb, hSb⟩ := hb
  have hmk := make_spans m (by omega)
  have hS := SP.made (w.alloc (.cells #[.slice (some ⟨gb, 0, none⟩) m cb] 83)) m 86
  rw [World.size_alloc] at hS
  obtain ⟨cs, hcs⟩ : ∃ cs, madeCells #[.int .u64 0, .int .u64 0, .int .u64 0, .int .u64 0, .int .u64 0] (m * 5) = cs := ⟨_, rfl⟩
  rw [hcs] at hmk hS
  clear hcs
  obtain ⟨W1, hW1⟩ : ∃ W1, ((w.alloc (.cells #[.slice (some ⟨gb, 0, none⟩) m cb] 83)).alloc (.cells cs 86)).alloc (.cells #[.slice (some ⟨w.heap.size + 1, 0, none⟩) m m] 83) = W1 := ⟨_, rfl⟩
  have hsz : W1.heap.size = w.heap.size + 1 + 1 + 1 := by rw [← hW1]; simp
  have hb1 : Below w.heap.size w W1 := by rw [← hW1]; exact (((Below.refl _ w).alloc (Nat.le_refl _) _).alloc (by simp) _).alloc (by simp; omega) _
  have hc0 : W1.cell? ⟨w.heap.size, 0, none⟩ = some (.slice (some ⟨gb, 0, none⟩) m cb) := by
    rw [← hW1, World.cell?_alloc_lt _ _ _ (by simp; omega), World.cell?_alloc_lt _ _ _ (by simp), World.cell?_alloc_new]; rfl
  have hc2 : W1.cell? ⟨w.heap.size + 1 + 1, 0, none⟩ = some (.slice (some ⟨w.heap.size + 1, 0, none⟩) m m) := by
    rw [← hW1]
    have h := World.cell?_alloc_new ((w.alloc (.cells #[.slice (some ⟨gb, 0, none⟩) m cb] 83)).alloc (.cells cs 86)) #[.slice (some ⟨w.heap.size + 1, 0, none⟩) m m] 83 0
    rw [World.size_alloc, World.size_alloc] at h
    exact h
  have hS1 : SP W1 (w.heap.size + 1) m (fun _ _ => false) := by rw [← hW1]; exact hS.kept (by simp) (Below.heap_alloc _ _ _ hS.lt)
  have HFR : Hid (∀ W, W1.grownBy W (some (w.heap.size + 1)) → W.cell? ⟨w.heap.size, 0, none⟩ = some (.slice (some ⟨gb, 0, none⟩) m cb) ∧ W.cell? ⟨w.heap.size + 1 + 1, 0, none⟩ = some (.slice (some ⟨w.heap.size + 1, 0, none⟩) m m) ∧ SP W ga m A ∧ SP W gb m B ∧ TZ W ∧ Below w.heap.size w W) := hide (fun W g => by
    have hbW : Below w.heap.size w W := hb1.grown g (by omega) (fun q hq => by have := Option.some.inj hq; omega)
    exact ⟨(World.cell?_of_block (a := ⟨w.heap.size, 0, none⟩) (g.block w.heap.size (by omega) (fun e => by have := Option.some.inj e; omega))).trans hc0,
      (World.cell?_of_block (a := ⟨w.heap.size + 1 + 1, 0, none⟩) (g.block (w.heap.size + 1 + 1) (by omega) (fun e => by have := Option.some.inj e; omega))).trans hc2,
      hSa.below hbW, hSb.below hbW, hT.below hT.lt hbW, hbW⟩)
  have HS1 := hide hS1
  have HSZ := hide hsz
  have HA := hide hA
  clear hsz hb1 hc0 hc2 hS1 hS hSa hSb hA hT
  refine (callsIn_wide (n := 5)).1 ?_
  refine callsIn_of_wp_marks Tryd.func65 rfl trivial ?_ rfl
  simp only [Tryd.ntmps65, List.size_toArray, List.length_cons, List.length_nil, Nat.reduceAdd, Nat.reduceSub, Array.replicate_succ, Array.replicate_zero, List.push_toArray, List.append_toArray, List.nil_append, List.cons_append]
  gi_wp2
  clear hW1 hmk
  refine wpIn_loop (fun a wr => ∃ (i : Nat) (Ds : List Nat) (u6 u7 u8 u15 u16 u17 u18 u19 u20 u21 u22 u23 u24 u25 u26 u27 u28 u29 u30 : Value),
      a = { tmps := #[.slice (some ⟨ga, 0, none⟩) m ca, .slice (some ⟨gb, 0, none⟩) m cb, undef, .pointer (some ⟨w.heap.size, 0, none⟩), .slice none 0 0, .pointer (some ⟨w.heap.size + 1 + 1, 0, none⟩), u6, u7, u8,
              .slice (some ⟨ga, 0, none⟩) m ca, .int .i64 m, .slice (some ⟨w.heap.size + 1, 0, none⟩) m m, .slice (some ⟨ga, 0, none⟩) m ca, .int .i64 m, .int .i64 i, u15, u16, u17, u18, u19, u20, u21, u22, u23, u24, u25, u26, u27, u28, u29, u30, undef],
            defers := Ds.map markOf } ∧
      i ≤ m ∧ SP wr (w.heap.size + 1) m (fun r j => decide (r < i) && (List.range m).any fun k => A r k && B k j) ∧ W1.grownBy wr (some (w.heap.size + 1)) ∧ Ds.Nodup ∧ ∀ D ∈ Ds, W1.heap.size ≤ D ∧ wr.heap[D]? = some (.deferred (some [])))
    (fun a _ => m - (intOf (a.tmps.getD 14 undef)).toNat) ?_ ?_
  · refine ⟨0, [], _, _, _, _, _, _, _, _, _, _, _, _, _, _, _, _, _, _, _, rfl, by omega, (unhide HS1).congr (fun r j _ _ => by simp), ⟨rfl, rfl, rfl, Nat.le_refl _, fun _ _ _ => rfl⟩, List.nodup_nil, fun D hD => (List.not_mem_nil hD).elim⟩
  · rintro a wr ⟨i, Ds, u6, u7, u8, u15, u16, u17, u18, u19, u20, u21, u22, u23, u24, u25, u26, u27, u28, u29, u30, rfl, hi, hsp, hg, hnd, hds⟩
    clear HS1
    have SPH := hide hsp
    have GR := hide hg
    have ND := hide hnd
    have DS := hide hds
    clear hsp hg hnd hds
    by_cases hlt : i < m
    · have hI : (i : Int) < m := by omega
      obtain ⟨f0, f2, fA, fB, fT, fb⟩ := (unhide HFR) wr (unhide GR)
      obtain ⟨a0, a1, a2, a3, a4⟩ := fA.words hlt
      clear fA fB fT fb f0 f2
      obtain ⟨V, hV⟩ : ∃ V, (wr.alloc (.cells #[.int .i64 i] 3)).alloc (.cells #[.int .u64 (wd (A i) 0), .int .u64 (wd (A i) 1), .int .u64 (wd (A i) 2), .int .u64 (wd (A i) 3), .int .u64 (wd (A i) 4)] 86) = V := ⟨_, rfl⟩
      have hbx : ∀ k v, (#[.int .u64 (wd (A i) 0), .int .u64 (wd (A i) 1), .int .u64 (wd (A i) 2), .int .u64 (wd (A i) 3), .int .u64 (wd (A i) 4)] : Array Value)[k]? = some v → V.cell? ⟨wr.heap.size + 1, k, none⟩ = some v := fun k v h => by
        rw [← hV]
        have h2 := World.cell?_alloc_new (wr.alloc (.cells #[.int .i64 i] 3)) #[.int .u64 (wd (A i) 0), .int .u64 (wd (A i) 1), .int .u64 (wd (A i) 2), .int .u64 (wd (A i) 3), .int .u64 (wd (A i) 4)] 86 k
        rw [World.size_alloc] at h2
        exact h2.trans h
      have q0 := hbx 0 _ rfl
      have q1 := hbx 1 _ rfl
      have q2 := hbx 2 _ rfl
      have q3 := hbx 3 _ rfl
      have q4 := hbx 4 _ rfl
      have hci : V.cell? ⟨wr.heap.size, 0, none⟩ = some (.int .i64 i) := by
        rw [← hV, World.cell?_alloc_lt _ _ _ (by simp), World.cell?_alloc_new]; rfl
      have hVs : V.heap.size = wr.heap.size + 1 + 1 := by rw [← hV]; simp
      have hVg : wr.grownBy V (some (w.heap.size + 1)) := by rw [← hV]; exact (grownBy_alloc' _ _ _).trans (grownBy_alloc' _ _ _)
      have HVS := hide hVs
      have HVG := hide hVg
      have HCI := hide hci
      have HVSP := hide ((unhide SPH).kept hVg.size (by
        rw [← hV]
        exact (Below.heap_alloc _ _ _ (by have := (unhide SPH).lt; simp; omega)).trans (Below.heap_alloc _ _ _ (unhide SPH).lt)))
      clear hbx hci hVs hVg
      gi_wp2
      clear hV q0 q1 q2 q3 q4 a0 a1 a2 a3 a4
      refine wp_each (f := A i) ?_ ?_
        (fun pre W => SP W (w.heap.size + 1) m (fun r j => (decide (r < i) && (List.range m).any fun k => A r k && B k j) || (decide (r = i) && pre.any fun k => B k j)) ∧ V.grownBy W (some (w.heap.size + 1)))
        (fun _ _ _ => False)
        (fun pre W h => ((unhide HFR) W (((unhide GR).trans (unhide HVG)).trans h.2)).2.2.2.2.1)
        (fun pre W o h => ?_) (fun _ _ _ _ h => h.elim) (fun o o' o'' => ?_)
        (fun x => { tmps := #[.slice (some ⟨ga, 0, none⟩) m ca, .slice (some ⟨gb, 0, none⟩) m cb, undef, .pointer (some ⟨w.heap.size, 0, none⟩), .slice none 0 0, .pointer (some ⟨w.heap.size + 1 + 1, 0, none⟩), .pointer (some ⟨wr.heap.size, 0, none⟩), .pointer (some ⟨wr.heap.size + 1, 0, none⟩), .int .i64 x,
              .slice (some ⟨ga, 0, none⟩) m ca, .int .i64 m, .slice (some ⟨w.heap.size + 1, 0, none⟩) m m, .slice (some ⟨ga, 0, none⟩) m ca, .int .i64 m, .int .i64 i, .bool true, .int .i64 i, .pointer (some ⟨ga, i * 5, none⟩), plV (A i), plV (A i), .func (.func 69) #[plV (A i)] #[], .int .i64 x, u22, u23, u24, u25, u26, u27, u28, u29, u30, undef], defers := [] })
        ?_ ?_ ?_ ?_
      · rfl
      · rfl
      · have hl := h.1.lt
        have hne : w.heap.size + 1 ≠ V.heap.size + 1 := by have := unhide HVS; have := (unhide SPH).lt; omega
        exact ⟨h.1.kept (by simp) (World.putObj_heap_other hne), grownBy_put V W _ o _ h.2 (by omega)⟩
      · have g3 := grownBy_over (V := V) (W := V) o o' o'' (w.heap.size + 1)
        have b3 : Below V.heap.size V (((V.alloc o).alloc o').alloc o'') := (((Below.refl _ V).alloc (Nat.le_refl _) _).alloc (by simp) _).alloc (by simp; omega) _
        exact ⟨((unhide HVSP).below b3).congr (fun r j _ _ => by simp), g3⟩
      · intro l x W K hK
        unfold plV at hK
        gi_wp2
        exact hK
      · rintro pre x W hx hx3 hfx hlw ⟨h1, h2⟩
        obtain ⟨f0, f2, fA, fB, fT, fb⟩ := (unhide HFR) W (((unhide GR).trans (unhide HVG)).trans h2)
        have hxm := (unhide HA) i x hfx
        have hxI : (x : Int) < m := by omega
        obtain ⟨a0, a1, a2, a3, a4⟩ := fB.words hxm
        have hci : W.cell? ⟨wr.heap.size, 0, none⟩ = some (.int .i64 i) :=
          (World.cell?_of_block (a := ⟨wr.heap.size, 0, none⟩) (h2.block wr.heap.size (by have := unhide HVS; omega) (fun e => by have := Option.some.inj e; have := (unhide SPH).lt; omega))).trans (unhide HCI)
        obtain ⟨Tp, hTp⟩ : ∃ Tp : Nat → Nat → Bool, (fun r j => (decide (r < i) && (List.range m).any fun k => A r k && B k j) || (decide (r = i) && pre.any fun k => B k j)) = Tp := ⟨_, rfl⟩
        rw [hTp] at h1
        have HTP := hide hTp
        have HSW := hide h1
        have HGW := hide h2
        have HJ := hide (fun (T : Nat → Nat → Bool) (W' : World) (h : SP W' (w.heap.size + 1) m T) => join_any (w.heap.size + 1) m i T (B x) W' h hlt)
        unfold plV at HJ
        have hmo : Tryd.prog.follows .mixedOrders = true := by kernel_rfl
        have HFIN : Hid (∀ w3 : World, SP w3 (w.heap.size + 1) m (fun r j => Tp r j || (decide (r = i) && B x j)) → W.grownBy w3 (some (w.heap.size + 1)) →
            (∀ k, k = V.heap.size ∨ k = V.heap.size + 1 → w3.heap[k]? = W.heap[k]?) ∧ SP w3 (w.heap.size + 1) m (fun r j => (decide (r < i) && (List.range m).any fun k => A r k && B k j) || (decide (r = i) && (pre ++ [x]).any fun k => B k j)) ∧ V.grownBy w3 (some (w.heap.size + 1))) := hide (fun w3 hs hg => by
          refine ⟨fun k hk => ?_, hs.congr (fun r j _ _ => ?_), h2.trans hg⟩
          · have h3 := unhide HVS
            have h4 := (unhide SPH).lt
            exact hg.block k (by omega) (fun e => by have := Option.some.inj e; omega)
          · rw [← hTp]
            dsimp only
            rw [List.any_append, Bool.or_assoc, ← Bool.and_or_distrib_left]
            simp)
        clear fA fB fT fb h1 h2 hTp hx
        gi_wp2
        gi_region_with_o (refine ⟨trivial, ?_⟩; gi_at_call 88; refine (CallsIn.inRound _ (callsIn_wide.2 ((unhide HJ) Tp _ (by first | exact unhide HSW | exact (unhide HSW).kept (Nat.le_refl _) rfl)))).mono ?_; rintro e w3 ⟨⟨v, rfl⟩, hS3, hG3⟩)
        all_goals exact (unhide HFIN) w3 hS3 ⟨hG3.os, hG3.tape, hG3.output, hG3.size, hG3.block⟩
      · rintro W ⟨h1, h2⟩ hK
        have H1 := hide h1
        have H2 := hide h2
        clear h1 h2
        gi_wp2
        have e1 : (i : Int) + 1 = ((i + 1 : Nat) : Int) := by omega
        rw [e1]
        refine ⟨⟨i + 1, V.heap.size :: Ds, _, _, _, _, _, _, _, _, _, _, _, _, _, _, _, _, _, _, _, rfl, by omega, (unhide H1).congr (fun r j _ _ => ?_), ((unhide GR).trans (unhide HVG)).trans (unhide H2), ?_, ?_⟩, ?_⟩
        · rw [any_plc (A i) (fun k => B k j) m (by omega) ((unhide HA) i)]
          by_cases e : r = i
          · subst e
            simp
          · rw [decide_eq_false e, Bool.false_and, Bool.or_false]
            congr 1
            rw [decide_eq_decide]; omega
        · refine List.nodup_cons.2 ⟨fun h => ?_, unhide ND⟩
          have h1 := (Array.getElem?_eq_some_iff.1 ((unhide DS) _ h).2).1
          have := unhide HVS
          omega
        · intro D hD
          have hVl : W1.heap.size ≤ V.heap.size := Nat.le_trans (unhide GR).size (unhide HVG).size
          rcases List.mem_cons.1 hD with rfl | hD
          · exact ⟨hVl, hK⟩
          · have h1 := (unhide DS) D hD
            have hl := (Array.getElem?_eq_some_iff.1 h1.2).1
            have hsz := unhide HSZ
            have hne : some D ≠ some (w.heap.size + 1) := fun e => by have := Option.some.inj e; omega
            exact ⟨h1.1, ((unhide H2).block D (by have := (unhide HVG).size; omega) hne).trans (((unhide HVG).block D hl hne).trans h1.2)⟩
        · simp [intOf]; omega
      · intro e pre W _ h _
        exact h.elim
    · have hI : ¬ ((i : Int) < m) := by omega
      have him : i = m := by omega
      obtain ⟨f0, f2, fA, fB, fT, fb⟩ := (unhide HFR) wr (unhide GR)
      have HFB := hide fb
      have HP : Hid (SP wr (w.heap.size + 1) m (fun r j => (List.range m).any fun k => A r k && B k j)) := hide ((unhide SPH).congr (fun r j hr _ => by rw [decide_eq_true (by omega : r < i), Bool.true_and]))
      clear fA fB fT fb f0
      gi_wp2
      refine leaves_marks Ds wr (unhide ND) (fun D hD => ((unhide DS) D hD).2) (fun W' h1 h2 h3 h4 h5 => ?_)
      have hsz := unhide HSZ
      have hfb := unhide HFB
      have hout : ∀ k, k < W1.heap.size → k ∉ Ds := fun k hk h => by have := ((unhide DS) k h).1; omega
      refine ⟨_, results_tmp rfl _ _ _, _, rfl, ⟨_, _, rfl, Nat.le_refl _, (unhide HP).kept (by omega) (h5 _ (hout _ (by omega)))⟩, ?_⟩
      exact ⟨h1.trans hfb.os, h2.trans hfb.tape, h3.trans hfb.output, by rw [h4]; exact hfb.size, fun k hk => (h5 k (hout k (by omega))).trans (hfb.block k hk)⟩
end Go.Proofs.YtmgealcolofomaaDoor
