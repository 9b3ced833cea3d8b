/- The program's Bytes: the walk. -/
import Derived.Test.YtgmpgacedmjgdaaDoorSt
namespace Go.Proofs.YtgmpgacedmjgdaaDoor
open Go.RowKit Kb Go.Shelf
attribute [local go_sem] Oper.semAt_some
set_option linter.unusedVariables false
set_option maxRecDepth 20000

/-- the call's own boxes: the two results, and the set -/
structure BS (w : World) (N : Nat) (s : Se) (W : World) : Prop where
  r : W.ownsRow N 37 4 (.slice (some ⟨N, 0, none⟩) 1 1) 1 (cellsW ⟨0, 0, 0, 0⟩)
  e : W.cell? ⟨N + 1, 0, none⟩ = some (.int .i64 0)
  f : W.frozen? ⟨N + 1, 0, none⟩ = false
  t : W.ownsRow N 37 4 (.slice (some ⟨N + 1 + 1, 0, none⟩) 1 1) 1 (cellsW s)
  b : Below N w W
theorem BS.grown {w : World} {N : Nat} {s : Se} {W W' : World} {row : Nat} (h : BS w N s W) (g : W.grownBy W' (some row)) (hr : N + 1 + 1 < row) : BS w N s W' :=
  have hlt : N + 1 < W.heap.size := cell_lt (a := ⟨N + 1, 0, none⟩) h.e
  have hk : W'.heap[N + 1]? = W.heap[N + 1]? := g.block _ hlt (fun e => by have := Option.some.inj e; omega)
  ⟨h.r.kept g (.inr (by simp [Value.ownBlock]; omega)), by rw [World.cell?_of_block (w := W) (a := ⟨N + 1, 0, none⟩) hk]; exact h.e, by rw [World.frozen?_of_block (w := W) (a := ⟨N + 1, 0, none⟩) hk]; exact h.f, h.t.kept g (.inr (by simp [Value.ownBlock]; omega)), h.b.grown g (by omega) (fun q hq => by have := Option.some.inj hq; omega)⟩
theorem BS.drewN {w : World} {N : Nat} {s : Se} {W : World} (h : BS w N s W) (k : Nat) : BS w N s (W.drewN k) :=
  ⟨h.r, h.e, h.f, h.t, ⟨h.b.os, h.b.tape, h.b.output, h.b.size, h.b.block⟩⟩
theorem BS.alloc {w : World} {N : Nat} {s : Se} {W : World} (h : BS w N s W) (o : Obj) : BS w N s (W.alloc o) :=
  have hlt : N + 1 < W.heap.size := cell_lt (a := ⟨N + 1, 0, none⟩) h.e
  ⟨h.r.alloc o, by rw [World.cell?_of_block (w := W) (a := ⟨N + 1, 0, none⟩) (Below.heap_alloc _ _ _ hlt)]; exact h.e, by rw [World.frozen?_of_block (w := W) (a := ⟨N + 1, 0, none⟩) (Below.heap_alloc _ _ _ hlt)]; exact h.f, h.t.alloc o, h.b.alloc (by omega) o⟩
theorem BS.over {w : World} {N : Nat} {s : Se} {W W' : World} (h : BS w N s W) (b : Below W.heap.size W W') : BS w N s W' :=
  have hlt : N + 1 < W.heap.size := cell_lt (a := ⟨N + 1, 0, none⟩) h.e
  ⟨own_below h.r b, by rw [b.cell (p := ⟨N + 1, 0, none⟩) hlt]; exact h.e, by rw [b.frozen (p := ⟨N + 1, 0, none⟩) hlt]; exact h.f, own_below h.t b, h.b.trans (b.mono (by omega))⟩
theorem BS.put {w : World} {N : Nat} {s p : Se} {W : World} (h : BS w N s W) :
    BS w N p ((((W.setCell ⟨N + 1 + 1, 0, none⟩ (.int .u64 p.a)).setCell ⟨N + 1 + 1, 1, none⟩ (.int .u64 p.b)).setCell ⟨N + 1 + 1, 2, none⟩ (.int .u64 p.c)).setCell ⟨N + 1 + 1, 3, none⟩ (.int .u64 p.d)) ∧
    ∀ k, N + 1 + 1 < k → k < W.heap.size → ((((W.setCell ⟨N + 1 + 1, 0, none⟩ (.int .u64 p.a)).setCell ⟨N + 1 + 1, 1, none⟩ (.int .u64 p.b)).setCell ⟨N + 1 + 1, 2, none⟩ (.int .u64 p.c)).setCell ⟨N + 1 + 1, 3, none⟩ (.int .u64 p.d)).heap[k]? = W.heap[k]? := by
  obtain ⟨q1, g1⟩ := h.t.stored 0 (.int .u64 p.a)
  obtain ⟨q2, g2⟩ := q1.stored 1 (.int .u64 p.b)
  obtain ⟨q3, g3⟩ := q2.stored 2 (.int .u64 p.c)
  obtain ⟨q4, g4⟩ := q3.stored 3 (.int .u64 p.d)
  have g := ((g1.trans g2).trans g3).trans g4
  have hlt : N + 1 < W.heap.size := cell_lt (a := ⟨N + 1, 0, none⟩) h.e
  have hk := g.block (N + 1) hlt (fun e => by have := Option.some.inj e; omega)
  refine ⟨⟨h.r.kept g (.inr (by simp [Value.ownBlock]; omega)), ?_, ?_, q4, h.b.grown g (by omega) (fun q hq => by have := Option.some.inj hq; omega)⟩, fun k h1 h2 => g.block k h2 (fun e => by have := Option.some.inj e; omega)⟩
  · exact (World.cell?_of_block (w := W) (a := ⟨N + 1, 0, none⟩) hk).trans h.e
  · exact (World.frozen?_of_block (w := W) (a := ⟨N + 1, 0, none⟩) hk).trans h.f
theorem BS.fail {w : World} {N : Nat} {s : Se} {W : World} (h : BS w N s W) (p : Se) (z : Int) (W' : World) (hW : W' = ((((W.setCell ⟨N, 0, none⟩ (.int .u64 p.a)).setCell ⟨N, 1, none⟩ (.int .u64 p.b)).setCell ⟨N, 2, none⟩ (.int .u64 p.c)).setCell ⟨N, 3, none⟩ (.int .u64 p.d)).setCell ⟨N + 1, 0, none⟩ (.int .i64 z)) :
    W'.ownsRow N 37 4 (.slice (some ⟨N, 0, none⟩) 1 1) 1 (cellsW p) ∧ W'.cell? ⟨N + 1, 0, none⟩ = some (.int .i64 z) ∧ Below N w W' ∧ ∀ k, N + 1 + 1 < k → k < W.heap.size → W'.heap[k]? = W.heap[k]? := by
  obtain ⟨q1, g1⟩ := h.r.stored 0 (.int .u64 p.a)
  obtain ⟨q2, g2⟩ := q1.stored 1 (.int .u64 p.b)
  obtain ⟨q3, g3⟩ := q2.stored 2 (.int .u64 p.c)
  obtain ⟨q4, g4⟩ := q3.stored 3 (.int .u64 p.d)
  have g := ((g1.trans g2).trans g3).trans g4
  have hlt : N + 1 < W.heap.size := cell_lt (a := ⟨N + 1, 0, none⟩) h.e
  have hk := g.block (N + 1) hlt (fun e => by have := Option.some.inj e; omega)
  have hb := h.b.grown g (by omega) (fun q hq => by have := Option.some.inj hq; omega)
  have hc := (World.cell?_of_block (w := W) (a := ⟨N + 1, 0, none⟩) hk).trans h.e
  have hs := g.size
  subst hW
  have g5 := grownBy_setCell' ((((W.setCell ⟨N, 0, none⟩ (.int .u64 p.a)).setCell ⟨N, 1, none⟩ (.int .u64 p.b)).setCell ⟨N, 2, none⟩ (.int .u64 p.c)).setCell ⟨N, 3, none⟩ (.int .u64 p.d)) (N + 1) (.int .i64 z)
  refine ⟨q4.kept g5 (.inr (by simp [Value.ownBlock])), World.cell?_setCell_same' _ _ _ (by rw [hc]; rfl), hb.grown g5 (by have := hb.size; simp; omega) (fun q hq => by have := Option.some.inj hq; omega), fun k h1 h2 => (g5.block k (by simpa using h2) (fun e => by have := Option.some.inj e; omega)).trans (g.block k h2 (fun e => by have := Option.some.inj e; omega))⟩
theorem results_cc {fn : Func} {p u : Tmp} {ty ty' : TypeId} (h : fn.results = #[.cell p ty, .cell u ty']) (tmps : Array Value) (w : World) (g g' : Nat) (v x : Value)
    (hp : tmps.getD p undef = .pointer (some ⟨g, 0, none⟩)) (hl : (loadVar ty ⟨g, 0, none⟩).run Tryd.prog w = .ok v w)
    (hq : tmps.getD u undef = .pointer (some ⟨g', 0, none⟩)) (hx : (loadVar ty' ⟨g', 0, none⟩).run Tryd.prog w = .ok x w) :
    (results fn tmps).run Tryd.prog w = .ok (.tuple #[v, x]) w := by
  have hp' : tmps[p]?.getD undef = .pointer (some ⟨g, 0, none⟩) := by simpa using hp
  have hq' : tmps[u]?.getD undef = .pointer (some ⟨g', 0, none⟩) := by simpa using hq
  simp [results, h, hp', hq', asAddr, hl, hx, Sem.run_bind, Result.andThen]
theorem end_mark {fn : Func} {R : Ending → World → Prop} {n d : Nat} {tmps : Array Value} {W : World} {v : Value} (hd : W.heap[d]? = some (.deferred (some [])))
    (hres : (results fn tmps).run Tryd.prog (W.putObj d (.deferred none)) = .ok v (W.putObj d (.deferred none))) (hR : R (.returned v) (W.putObj d (.deferred none))) :
    bodyPostM Fence.wide n Tryd.prog fn R .ret { tmps := tmps, defers := [{ target := .collected d, args := #[] }] } W :=
  ⟨by simp, .inl ⟨d, _, rfl, run_takeDeferred hd, v, hres, hR⟩⟩
theorem load_err {w : World} {g : Nat} {x : Int} (h : w.cell? ⟨g, 0, none⟩ = some (.int .i64 x)) : (loadVar 28 ⟨g, 0, none⟩).run Tryd.prog w = .ok (.int .i64 x) w := by
  simp [loadVar, go_sem, h]
theorem load_set' {w : World} {N g : Nat} {s : Se} (h : w.ownsRow N 37 4 (.slice (some ⟨g, 0, none⟩) 1 1) 1 (cellsW s)) : (loadVar 37 ⟨g, 0, none⟩).run Tryd.prog w = .ok (setV s) w := by
  obtain ⟨fr, hh⟩ := own_one' h
  exact run_loadVar_row w g 37 37 (cellsW s).toArray fr _ hh Tryd.underlying37 rfl (by kernel_rfl)
namespace Nt
def hits (x : List UInt8) (j : Nat) : Bool := match rng x with
  | some (f, t) => decide (f ≤ j) && decide (j ≤ t)
  | none => false
end Nt
set_option maxHeartbeats 2000000 in
theorem Bytes_any (s : ByteArray) (m : Int) (w : World) (hs : s.size ≤ 4294960000) (hm : MX m w) :
    Calls Tryd.prog 12 #[.string s] w fun e w' => ((∃ q, e = .returned (.tuple #[setV q, .int .i64 0]) ∧ FitS q ∧ (∀ x ∈ Cs.cut 44 s.data.toList, (Nt.rng x).isSome = true) ∧ ∀ j, j < 256 → bit q j = (Cs.cut 44 s.data.toList).any (Nt.hits · j)) ∨ (e = .returned (.tuple #[setV ⟨0, 0, 0, 0⟩, .int .i64 3]) ∧ ∃ x ∈ Cs.cut 44 s.data.toList, Nt.rng x = none)) ∧ Below w.heap.size w w' := by
  obtain ⟨w0, hw0⟩ : ∃ w0, ((w.alloc (.cells #[.int .u64 0, .int .u64 0, .int .u64 0, .int .u64 0] 37)).alloc (.cells #[.int .i64 0] 28)).alloc (.cells #[.int .u64 0, .int .u64 0, .int .u64 0, .int .u64 0] 37) = w0 := ⟨_, rfl⟩
  have HB : Hid (BS w w.heap.size ⟨0, 0, 0, 0⟩ w0) := hide (by
    rw [← hw0]
    have e1 : (w.alloc (.cells #[.int .u64 0, .int .u64 0, .int .u64 0, .int .u64 0] 37)).heap.size = w.heap.size + 1 := by simp
    have e2 : ((w.alloc (.cells #[.int .u64 0, .int .u64 0, .int .u64 0, .int .u64 0] 37)).alloc (.cells #[.int .i64 0] 28)).heap.size = w.heap.size + 1 + 1 := by simp
    have r0 := World.ownsRow_lit (e := 37) (size := 4) w #[.int .u64 0, .int .u64 0, .int .u64 0, .int .u64 0] 1 (Nat.le_refl _) (by unfold maxLen; omega) rfl
    have bE := (Boxed.new (w.alloc (.cells #[.int .u64 0, .int .u64 0, .int .u64 0, .int .u64 0] 37)) 28 (.int .i64 0)).alloc (.cells #[.int .u64 0, .int .u64 0, .int .u64 0, .int .u64 0] 37)
    have r2 := World.ownsRow_lit (e := 37) (size := 4) (base := w.heap.size) ((w.alloc (.cells #[.int .u64 0, .int .u64 0, .int .u64 0, .int .u64 0] 37)).alloc (.cells #[.int .i64 0] 28)) #[.int .u64 0, .int .u64 0, .int .u64 0, .int .u64 0] 1 (by simp; omega) (by unfold maxLen; omega) rfl
    rw [e1] at bE
    rw [e2] at r2
    exact ⟨(World.ownsRow.alloc r0 _).alloc _, bE.cell, bE.frozen, r2, (((Below.refl _ w).alloc (Nat.le_refl _) _).alloc (by simp) _).alloc (by simp; omega) _⟩)
  refine (callsIn_wide (n := 5)).1 ?_
  refine callsIn_of_wp_marks Tryd.func12 rfl trivial ?_ rfl
  simp only [Tryd.ntmps12, List.size_toArray, List.length_cons, List.length_nil, Nat.reduceAdd, Nat.reduceSub, Array.replicate_succ, Array.replicate_zero, List.push_toArray, List.append_toArray, List.nil_append, List.cons_append]
  gi_wp2
  refine ⟨trivial, ?_⟩
  refine (callsIn_wide.2 (splitSeq_any s 44 _)).mono ?_
  rintro e w1 ⟨bp, bs, bq, rfl, hc, b1, h0, h1, h2, h3, h4, h5⟩
  have HB1 := hide ((unhide HB).over b1)
  have hN : w.heap.size + 1 + 1 < w0.heap.size := by rw [← hw0]; simp
  have hMX : ∀ W, Below w.heap.size w W → MX m W := fun W b => hm.below b
  have HMX := hide hMX
  clear hw0 HB hMX hm
  have HC := hide hc
  clear hc
  gi_wp2
  refine wp_pieces (bp := bp) (bs := bs) (bq := bq) rfl (unhide HC) hs rfl
    (fun pre W => (∀ x ∈ pre, (Nt.rng x).isSome = true) ∧ ∃ q, FitS q ∧ (∀ j, j < 256 → bit q j = pre.any (Nt.hits · j)) ∧ BS w w.heap.size q W)
    (fun c pre W => c = .ret ∧ (∃ x ∈ pre, Nt.rng x = none) ∧ W.ownsRow w.heap.size 37 4 (.slice (some ⟨w.heap.size, 0, none⟩) 1 1) 1 (cellsW ⟨0, 0, 0, 0⟩) ∧ W.cell? ⟨w.heap.size + 1, 0, none⟩ = some (.int .i64 3) ∧ Below w.heap.size w W)
    (fun pre W k h => ⟨h.1, h.2.imp fun q h => ⟨h.1, h.2.1, h.2.2.drewN k⟩⟩)
    (fun pre W v h => ⟨h.1, h.2.imp fun q h => ⟨h.1, h.2.1, h.2.2.grown (grownBy_setCell' W bs v) (by omega)⟩⟩)
    (fun pre W o h => ⟨h.1, h.2.imp fun q h => ⟨h.1, h.2.1, h.2.2.grown (grownBy_putObj' W _ o) (by omega)⟩⟩)
    ?_ (fun o o' => ⟨fun x hx => (List.not_mem_nil hx).elim, ⟨0, 0, 0, 0⟩, by unfold FitS; simp, fun j hj => by unfold bit wordS; split <;> simp, ((unhide HB1).alloc o).alloc o'⟩)
    (fun x => { tmps := #[.string s, undef, .pointer (some ⟨w.heap.size, 0, none⟩), .pointer (some ⟨w.heap.size + 1, 0, none⟩), .pointer (some ⟨w.heap.size + 1 + 1, 0, none⟩), .string (mk x), undef, undef, undef, .string s, .func (.func 55) #[] #[.pointer (some ⟨bp, 0, none⟩), .pointer (some ⟨bs, 0, none⟩), .pointer (some ⟨bq, 0, none⟩)], .string (mk x), undef, undef, undef, undef, undef, undef, undef, undef, undef, undef, undef, undef, undef, undef], defers := [] })
    ?_ ?_ ?_ ?_
  · rintro c pre W o ⟨rfl, hx, hr, he, hb⟩
    have hlt : w.heap.size + 1 < W.heap.size := cell_lt (a := ⟨w.heap.size + 1, 0, none⟩) he
    have hlt2 : w.heap.size ≤ W.heap.size := Nat.le_of_lt (Nat.lt_of_succ_lt hlt)
    have g := grownBy_putObj' W (w1.heap.size + 1) o
    exact ⟨rfl, hx, hr.kept g (.inr (by simp [Value.ownBlock]; omega)), by rw [World.cell?_of_block (w := W) (a := ⟨w.heap.size + 1, 0, none⟩) (g.block (w.heap.size + 1) hlt (fun e => by have := Option.some.inj e; omega))]; exact he, hb.grown g hlt2 (fun q hq => by have := Option.some.inj hq; omega)⟩
  · intro l x W K hK
    gi_wp2
    exact hK
  · rintro pre x W hx hlw ⟨hp, q, hq1, hq2, hq3⟩
    have hxm : x ∈ Cs.cut 44 s.data.toList := hx.subset (by simp)
    have hxl : x.length ≤ s.size + 1 := by
      have h := Cs.wt_mem _ x hxm
      rw [Cs.wt_cut, len_data] at h
      omega
    obtain ⟨o, ho⟩ : ∃ o, Nt.rng x = o := ⟨_, rfl⟩
    have HE := hide (ends_any (mk x) m W (by rw [szM]; omega) ((unhide HMX) W hq3.b) o (by rw [show (mk x).data.toList = x by simp [mk]]; exact ho))
    have HS := hide hq3
    clear hq3
    gi_wp2
    refine ⟨trivial, ?_⟩
    refine (CallsIn.inRound _ (callsIn_wide.2 (unhide HE))).mono ?_
    rintro e W1 ⟨⟨f, t, rfl, hft⟩, bb1⟩
    have HS1 := hide ((unhide HS).over bb1)
    have HBB := hide bb1
    clear HS HE bb1
    cases o with
    | none =>
      have r0 := (unhide HS1).r.cellAt 0 (by omega)
      have r1 := (unhide HS1).r.cellAt 1 (by omega)
      have r2 := (unhide HS1).r.cellAt 2 (by omega)
      have r3 := (unhide HS1).r.cellAt 3 (by omega)
      have f0 := (unhide HS1).r.frozenAt 0
      have f1 := (unhide HS1).r.frozenAt 1
      have f2 := (unhide HS1).r.frozenAt 2
      have f3 := (unhide HS1).r.frozenAt 3
      have e0 := (unhide HS1).e
      have e1 := (unhide HS1).f
      simp only [cellsW] at r0 r1 r2 r3
      gi_wp2
      have h9 := (unhide HS1).fail ⟨0, 0, 0, 0⟩ 3 _ rfl
      refine ⟨fun k hk => ?_, rfl, ⟨x, by simp, ho⟩, h9.1, h9.2.1, h9.2.2.1⟩
      have hk1 : w.heap.size + 1 + 1 < k ∧ k < W.heap.size := by rcases hk with h | h | h | h | h <;> omega
      exact (h9.2.2.2 k hk1.1 (Nat.lt_of_lt_of_le hk1.2 (unhide HBB).size)).trans ((unhide HBB).block k hk1.2)
    | some p =>
      obtain ⟨x1, x2⟩ := p
      obtain ⟨rfl, rfl⟩ := hft x1 x2 rfl
      have hrb := Nt.rng_bd ho
      obtain ⟨q1, q2, q3, q4⟩ := q
      have r0 := (unhide HS1).t.cellAt 0 (by omega)
      have r1 := (unhide HS1).t.cellAt 1 (by omega)
      have r2 := (unhide HS1).t.cellAt 2 (by omega)
      have r3 := (unhide HS1).t.cellAt 3 (by omega)
      simp only [cellsW] at r0 r1 r2 r3
      gi_wp2
      refine ⟨trivial, ?_⟩
      refine (CallsIn.inRound _ (callsIn_wide.2 (with_any ⟨q1, q2, q3, q4⟩ x1 x2 W1 hq1 hrb.1 hrb.2))).mono ?_
      rintro e W2 ⟨q', rfl, hq', hbits, bb2⟩
      have HS2 := hide ((unhide HS1).over bb2)
      have HBC := hide bb2
      clear HS1 bb2 r0 r1 r2 r3
      obtain ⟨p1, p2, p3, p4⟩ := q'
      unfold setV
      have r0 := (unhide HS2).t.cellAt 0 (by omega)
      have r1 := (unhide HS2).t.cellAt 1 (by omega)
      have r2 := (unhide HS2).t.cellAt 2 (by omega)
      have r3 := (unhide HS2).t.cellAt 3 (by omega)
      have f0 := (unhide HS2).t.frozenAt 0
      have f1 := (unhide HS2).t.frozenAt 1
      have f2 := (unhide HS2).t.frozenAt 2
      have f3 := (unhide HS2).t.frozenAt 3
      simp only [cellsW] at r0 r1 r2 r3
      gi_wp2
      obtain ⟨h8, h9⟩ := (unhide HS2).put (p := ⟨p1, p2, p3, p4⟩)
      refine ⟨fun k hk => ?_, ?_, ⟨p1, p2, p3, p4⟩, hq', fun j hj => ?_, h8⟩
      · have hk1 : w.heap.size + 1 + 1 < k ∧ k < W.heap.size := by rcases hk with h | h | h | h | h <;> omega
        have hk2 := Nat.lt_of_lt_of_le hk1.2 (unhide HBB).size
        exact (h9 k hk1.1 (Nat.lt_of_lt_of_le hk2 (unhide HBC).size)).trans (((unhide HBC).block k hk2).trans ((unhide HBB).block k hk1.2))
      · intro y hy
        rcases List.mem_append.1 hy with hy | hy
        · exact hp y hy
        · rw [List.mem_singleton.1 hy, ho]; rfl
      · rw [hbits j hj, hq2 j hj, List.any_append]
        simp [Nt.hits, ho]
  · rintro W ⟨hp, ⟨q1, q2, q3, q4⟩, hq1, hq2, hq3⟩ hd
    have HS1 := hide hq3
    clear hq3
    have c0 := (unhide HS1).t.cellAt 0 (by omega)
    have c1 := (unhide HS1).t.cellAt 1 (by omega)
    have c2 := (unhide HS1).t.cellAt 2 (by omega)
    have c3 := (unhide HS1).t.cellAt 3 (by omega)
    have r0 := (unhide HS1).r.cellAt 0 (by omega)
    have r1 := (unhide HS1).r.cellAt 1 (by omega)
    have r2 := (unhide HS1).r.cellAt 2 (by omega)
    have r3 := (unhide HS1).r.cellAt 3 (by omega)
    have f0 := (unhide HS1).r.frozenAt 0
    have f1 := (unhide HS1).r.frozenAt 1
    have f2 := (unhide HS1).r.frozenAt 2
    have f3 := (unhide HS1).r.frozenAt 3
    have e0 := (unhide HS1).e
    have e1 := (unhide HS1).f
    simp only [cellsW] at c0 c1 c2 c3 r0 r1 r2 r3
    gi_wp2
    have h9 := (unhide HS1).fail ⟨q1, q2, q3, q4⟩ 0
    generalize hW9 : World.setCell _ ⟨w.heap.size + 1, 0, none⟩ _ = W9
    obtain ⟨hr, he, hb, hkk⟩ := h9 W9 hW9.symm
    have hd' := (hkk w1.heap.size (by omega) (Array.getElem?_eq_some_iff.1 hd).1).trans hd
    have g := grownBy_putObj' W9 w1.heap.size (.deferred none)
    have hlt : w.heap.size + 1 < W9.heap.size := cell_lt (a := ⟨w.heap.size + 1, 0, none⟩) he
    have hk := g.block (w.heap.size + 1) hlt (fun e => by have := Option.some.inj e; omega)
    have he' := (World.cell?_of_block (w := W9) (a := ⟨w.heap.size + 1, 0, none⟩) hk).trans he
    exact end_mark hd' (results_cc (p := 2) (u := 3) rfl _ _ w.heap.size (w.heap.size + 1) _ _ rfl (load_set' (hr.kept g (.inr (by simp [Value.ownBlock]; omega)))) rfl (load_err he')) ⟨.inl ⟨_, rfl, hq1, hp, hq2⟩, hb.grown g hb.size (fun q hq => by have := Option.some.inj hq; omega)⟩
  · rintro c pre W hpre ⟨rfl, hx, hr, he, hb⟩ hd
    gi_wp2
    have g := grownBy_putObj' W w1.heap.size (.deferred none)
    have hlt : w.heap.size + 1 < W.heap.size := cell_lt (a := ⟨w.heap.size + 1, 0, none⟩) he
    have hk := g.block (w.heap.size + 1) hlt (fun e => by have := Option.some.inj e; omega)
    have he' := (World.cell?_of_block (w := W) (a := ⟨w.heap.size + 1, 0, none⟩) hk).trans he
    refine end_mark hd (results_cc (p := 2) (u := 3) rfl _ _ w.heap.size (w.heap.size + 1) _ _ rfl (load_set' (hr.kept g (.inr (by simp [Value.ownBlock]; omega)))) rfl (load_err he')) ⟨.inr ⟨rfl, ?_⟩, hb.grown g hb.size (fun q hq => by have := Option.some.inj hq; omega)⟩
    obtain ⟨y, hy, hn⟩ := hx
    exact ⟨y, hpre.subset hy, hn⟩
end Go.Proofs.YtgmpgacedmjgdaaDoor
