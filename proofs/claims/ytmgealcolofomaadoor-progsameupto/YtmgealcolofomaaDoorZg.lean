/- The program's last place. -/
import Derived.Test.YtmgealcolofomaaDoorZf
namespace Go.Proofs.YtmgealcolofomaaDoor
open Go.RowKit Kb Go.Shelf
attribute [local go_sem] Oper.semAt_some
set_option linter.unusedVariables false
set_option maxRecDepth 20000
open Sp

namespace Sp
def lastI (l : List Nat) : Int := match l.getLast? with
  | some x => x
  | none => -1
theorem lastI_snoc (l : List Nat) (x : Nat) : lastI (l ++ [x]) = x := by unfold lastI; simp
end Sp
set_option maxHeartbeats 2000000 in
theorem last_any (f : Nat → Bool) (w : World) (hT : TZ w) :
    Calls Tryd.prog 41 #[plV f] w fun e w' => e = .returned (.int .i64 (lastI (plc f 320))) ∧ Below w.heap.size w w' := by
  unfold plV
  obtain ⟨w1, hw1⟩ : ∃ w1, (w.alloc (.cells #[.int .u64 (wd f 0), .int .u64 (wd f 1), .int .u64 (wd f 2), .int .u64 (wd f 3), .int .u64 (wd f 4)] 86)).alloc (.cells #[.int .i64 (-1)] 3) = w1 := ⟨_, rfl⟩
  have hsz : w1.heap.size = w.heap.size + 1 + 1 := by rw [← hw1]; simp
  have hc1 : w1.cell? ⟨w.heap.size + 1, 0, none⟩ = some (.int .i64 (lastI [])) := by
    rw [← hw1]
    have h := World.cell?_alloc_new (w.alloc (.cells #[.int .u64 (wd f 0), .int .u64 (wd f 1), .int .u64 (wd f 2), .int .u64 (wd f 3), .int .u64 (wd f 4)] 86)) #[.int .i64 (-1)] 3 0
    rw [World.size_alloc] at h
    exact h
  have hf1 : w1.frozen? ⟨w.heap.size + 1, 0, none⟩ = false := by
    rw [← hw1]
    have h := World.frozen?_alloc_new (w.alloc (.cells #[.int .u64 (wd f 0), .int .u64 (wd f 1), .int .u64 (wd f 2), .int .u64 (wd f 3), .int .u64 (wd f 4)] 86)) #[.int .i64 (-1)] 3 0
    rw [World.size_alloc] at h
    exact h
  have hbx : ∀ k v, (#[.int .u64 (wd f 0), .int .u64 (wd f 1), .int .u64 (wd f 2), .int .u64 (wd f 3), .int .u64 (wd f 4)] : Array Value)[k]? = some v → w1.cell? ⟨w.heap.size, k, none⟩ = some v := fun k v h => by
    rw [← hw1, World.cell?_alloc_lt _ _ _ (by simp), World.cell?_alloc_new]; exact h
  have q0 := hbx 0 _ rfl
  have q1 := hbx 1 _ rfl
  have q2 := hbx 2 _ rfl
  have q3 := hbx 3 _ rfl
  have q4 := hbx 4 _ rfl
  clear hbx
  have hb1 : Below w.heap.size w w1 := by rw [← hw1]; exact ((Below.refl _ w).alloc (Nat.le_refl _) _).alloc (by simp) _
  have HC1 := hide hc1
  have HF1 := hide hf1
  have HB1 := hide hb1
  have HT := hide hT
  have HSZ := hide hsz
  clear hc1 hf1 hb1 hT hsz
  refine (callsIn_wide (n := 5)).1 ?_
  refine callsIn_of_wp_marks Tryd.func41 rfl trivial ?_ rfl
  simp only [Tryd.ntmps41, List.size_toArray, List.length_cons, List.length_nil, Nat.reduceAdd, Nat.reduceSub, Array.replicate_succ, Array.replicate_zero, List.push_toArray, List.append_toArray, List.nil_append, List.cons_append]
  gi_wp2
  clear hw1 q0 q1 q2 q3 q4
  refine wp_each (f := f) ?_ ?_
    (fun pre W => W.cell? ⟨w.heap.size + 1, 0, none⟩ = some (.int .i64 (lastI pre)) ∧ W.frozen? ⟨w.heap.size + 1, 0, none⟩ = false ∧ Below w.heap.size w W)
    (fun _ _ _ => False)
    (fun pre W h => (unhide HT).below (unhide HT).lt h.2.2)
    (fun pre W o h => ?_) (fun _ _ _ _ h => h.elim) (fun o o' o'' => ?_)
    (fun x => { tmps := #[plV f, .pointer (some ⟨w.heap.size, 0, none⟩), .int .i64 0, .pointer (some ⟨w.heap.size + 1, 0, none⟩), .int .i64 x, plV f, .func (.func 69) #[plV f] #[], .int .i64 x, undef, undef], defers := [] })
    ?_ ?_ ?_ ?_
  · rfl
  · rfl
  · have hlt := World.block_lt_of_cell? _ _ h.1
    have g := grownBy_putObj' W (w1.heap.size + 1) o
    have hne : w.heap.size + 1 ≠ w1.heap.size + 1 := by rw [unhide HSZ]; omega
    have hk := g.block _ hlt (fun e => hne (Option.some.inj e))
    exact ⟨(World.cell?_of_block (a := ⟨w.heap.size + 1, 0, none⟩) hk).trans h.1, (World.frozen?_of_block (a := ⟨w.heap.size + 1, 0, none⟩) hk).trans h.2.1, h.2.2.grown g (by dsimp only at hlt; omega) (fun q hq => by have := Option.some.inj hq; have := unhide HSZ; omega)⟩
  · have b3 : Below w1.heap.size w1 (((w1.alloc o).alloc o').alloc o'') := (((Below.refl _ w1).alloc (Nat.le_refl _) _).alloc (by simp) _).alloc (by simp; omega) _
    have hlt := World.block_lt_of_cell? _ _ (unhide HC1)
    exact ⟨(b3.cell (p := ⟨w.heap.size + 1, 0, none⟩) hlt).trans (unhide HC1), (b3.frozen (p := ⟨w.heap.size + 1, 0, none⟩) hlt).trans (unhide HF1), bel_trans (unhide HB1) b3⟩
  · intro l x W K hK
    unfold plV at hK
    gi_wp2
    exact hK
  · rintro pre x W hx hx3 hfx hlw ⟨h1, h2, h3⟩
    have B3 := hide h3
    clear h3
    gi_wp2
    refine ⟨fun k hk => Below.heap_setCell _ _ _ _ (by have := unhide HSZ; show k ≠ w.heap.size + 1; omega), ?_, by rw [World.frozen?_setCell]; exact h2, (unhide B3).setCell (p := ⟨w.heap.size + 1, 0, none⟩) (by simp) _⟩
    rw [lastI_snoc]
    exact World.cell?_setCell_same' _ _ _ (by rw [h1]; rfl)
  · rintro W ⟨h1, h2, h3⟩ hK
    have B3 := hide h3
    clear h3
    gi_wp2
    refine ⟨by simp, .inl ⟨_, _, rfl, run_takeDeferred hK, ?_⟩⟩
    have g := grownBy_putObj' W w1.heap.size (.deferred none)
    refine ⟨_, results_tmp rfl _ _ _, rfl, (unhide B3).grown g ?_ (fun q hq => ?_)⟩
    · exact Nat.le_of_lt (Nat.lt_of_succ_lt (World.block_lt_of_cell? _ _ h1))
    · have := Option.some.inj hq; have := unhide HSZ; omega
  · intro e pre W _ h _
    exact h.elim
end Go.Proofs.YtmgealcolofomaaDoor
