/- A range over the program's iterator over places: the step of the walk, at the wide fence; the ends of a function that holds many. -/
import Derived.Test.YtmgealcolofomaaDoorZe
namespace Go.Proofs.YtmgealcolofomaaDoor
open Go.RowKit Kb Go.Shelf
set_option linter.unusedVariables false
set_option maxRecDepth 20000
open Sp

/-- how a round's body may end: the loop's two blocks as they were -/
def eachEnd (d : Nat) (I : List Nat → World → Prop) (Ix : Code → List Nat → World → Prop) (pre : List Nat) (W : World) : Exit → Act → World → Prop
  | .normal, _, W' => (∀ k, k = d ∨ k = d + 1 → W'.heap[k]? = W.heap[k]?) ∧ I pre W'
  | .ret, _, W' => (∀ k, k = d ∨ k = d + 1 → W'.heap[k]? = W.heap[k]?) ∧ Ix .ret pre W'
  | .exit id, _, W' => (∀ k, k = d ∨ k = d + 1 → W'.heap[k]? = W.heap[k]?) ∧ Ix (.exit id) pre W'
  | .goto t, _, W' => (∀ k, k = d ∨ k = d + 1 → W'.heap[k]? = W.heap[k]?) ∧ Ix (.goto t) pre W'
  | .panic _, _, _ => False
  | .outgrown, _, _ => False
theorem wp_each {n : Nat} {g : Operand} {ps : Array Tmp} {assign body : Code} {Q : Exit → Act → World → Prop} {a : Act} {w : World} {f : Nat → Bool}
    (hg : a.eval g = .func (.func 69) #[plV f] #[]) (hps : ps.size = 1)
    (I : List Nat → World → Prop) (Ix : Code → List Nat → World → Prop) (hTZ : ∀ pre W, I pre W → TZ W)
    (hIp : ∀ pre W o, I pre W → I pre (W.putObj (w.heap.size + 1) o)) (hXp : ∀ e pre W o, Ix e pre W → Ix e pre (W.putObj (w.heap.size + 1) o))
    (h0 : ∀ o o' o'', I [] (((w.alloc o).alloc o').alloc o'')) (a1 : Nat → Act)
    (hassign : ∀ l x W (K : Act → World → Prop), K (a1 x) W → assign.wpIn (Fence.wide.inRound l) (n - 1 - 1) Tryd.prog (Exit.then K (fun _ _ _ => False)) { tmps := (ps.zip #[.int .i64 x]).foldl (fun t (p, v) => t.setIfInBounds p v) a.tmps, defers := [] } W)
    (hbody : ∀ pre x W, pre ++ [x] <+: plc f 320 → x < 320 → f x = true → w.heap.size + 1 < W.heap.size → I pre W → body.wpIn (Fence.wide.inRound (w.heap.size + 1)) (n - 1 - 1) Tryd.prog (eachEnd w.heap.size I Ix (pre ++ [x]) W) (a1 x) W)
    (hdone : ∀ W, I (plc f 320) W → W.heap[w.heap.size]? = some (.deferred (some [])) → Q .normal { a with defers := { target := .collected w.heap.size, args := #[] } :: a.defers } W)
    (hstop : ∀ e pre W, pre <+: plc f 320 → Ix e pre W → W.heap[w.heap.size]? = some (.deferred (some [])) → e.wpIn Fence.wide n Tryd.prog Q { a with defers := { target := .collected w.heap.size, args := #[] } :: a.defers } W) :
    (Code.rangeFunc g ps assign body).wpIn Fence.wide n Tryd.prog Q a w := by
  refine wpIn_rangeFunc fun fn hfn => ?_
  obtain ⟨rec, hrec⟩ : ∃ rec : LoopState → Option Code → Loop, rec = fun st pe => { state := st, pending := pe, fn, tmps := a.tmps, params := ps, assign, body, defers := w.heap.size } := ⟨_, rfl⟩
  have hl0 : ((w.alloc (.deferred (some []))).alloc (.loop (rec .ready none))).heap[w.heap.size + 1]? = some (.loop (rec .ready none)) := by
    have h := World.alloc_heap_new (w.alloc (.deferred (some []))) (.loop (rec .ready none))
    rwa [World.size_alloc] at h
  have hd0 : ((w.alloc (.deferred (some []))).alloc (.loop (rec .ready none))).heap[w.heap.size]? = some (.deferred (some [])) :=
    (Below.heap_alloc _ _ _ (by simp)).trans (World.alloc_heap_new w _)
  refine ⟨w.heap.size + 1, [{ target := .collected w.heap.size, args := #[] }], (w.alloc (.deferred (some []))).alloc (.loop (rec .ready none)), { target := .fn (.func 69) #[], args := #[plV f, .func (.yield (w.heap.size + 1)) #[] #[]] }, (w.alloc (.deferred (some []))).alloc (.loop (rec .ready none)), 69,
    #[plV f, .func (.yield (w.heap.size + 1)) #[] #[]], (w.alloc (.deferred (some []))).alloc (.loop (rec .ready none)), ?_, ?_, ?_, ?_, fun h => by simp [Fence.wide] at h, ?_⟩
  · rw [hrec]; exact run_enterLoop_outer _ _ _ _ _
  · simp only [resolve, hg]
    simp [go_sem]
  · intro f' hf'; trivial
  · simp [invoke, go_sem]
  · have own : ∀ (W : World) (o o' : Obj), W.heap[w.heap.size]? = some o → (W.putObj (w.heap.size + 1) o').heap[w.heap.size]? = some o := fun W o o' h => (World.putObj_heap_other (by omega)).trans h
    refine (each_in (n - 1) (w.heap.size + 1) f
      (fun pre W => I pre W ∧ W.heap[w.heap.size + 1]? = some (.loop (rec .ready none)) ∧ W.heap[w.heap.size]? = some (.deferred (some [])))
      (fun pre W => ∃ e, Ix e pre W ∧ W.heap[w.heap.size + 1]? = some (.loop (rec .done (some e))) ∧ W.heap[w.heap.size]? = some (.deferred (some [])))
      (fun pre W h => hTZ _ _ h.1)
      ?_ _ (fun o => ⟨h0 _ _ _, (Below.heap_alloc _ _ _ (by simp)).trans hl0, (Below.heap_alloc _ _ _ (by simp; omega)).trans hd0⟩)).mono ?_
    · rintro pre x W hx hx3 hfx ⟨hi, hl, hd⟩
      have hlt : w.heap.size + 1 < W.heap.size := (Array.getElem?_eq_some_iff.1 hl).1
      have hy := run_yield (P := Tryd.prog) (args := #[.int .i64 x]) hl (by rw [hrec]; exact hps.symm)
      rw [hrec] at hy
      refine ⟨fn, _, assign, body, hy, roundIn_of_wpIn hfn (hassign _ x W _ ⟨_, run_beginRound hl (by rw [hrec]), ?_⟩)⟩
      obtain ⟨W2, hW2⟩ : ∃ W2, W.putObj (w.heap.size + 1) (.loop { rec .ready none with state := .busy }) = W2 := ⟨_, rfl⟩
      have hl2 : W2.heap[w.heap.size + 1]? = some (.loop { rec .ready none with state := .busy }) := by rw [← hW2]; exact World.putObj_heap_same hlt
      have hk2 : ∀ k, k ≠ w.heap.size + 1 → W2.heap[k]? = W.heap[k]? := fun k hk => by rw [← hW2]; exact World.putObj_heap_other hk
      rw [hW2]
      refine wpIn_mono (hbody pre x W2 hx hx3 hfx (by rw [← hW2]; simpa using hlt) (by rw [← hW2]; exact hIp _ _ _ hi)) ?_
      have fin : ∀ (jump : Option Code) (W3 : World), (∀ k, k = w.heap.size ∨ k = w.heap.size + 1 → W3.heap[k]? = W2.heap[k]?) →
          (Instr.endRound (w.heap.size + 1) jump).run Tryd.prog W3 = .ok (.bool jump.isNone) (W3.putObj (w.heap.size + 1) (.loop (rec (if jump.isNone then .ready else .done) jump))) ∧
          (W3.putObj (w.heap.size + 1) (.loop (rec (if jump.isNone then .ready else .done) jump))).heap[w.heap.size + 1]? = some (.loop (rec (if jump.isNone then .ready else .done) jump)) ∧
          (W3.putObj (w.heap.size + 1) (.loop (rec (if jump.isNone then .ready else .done) jump))).heap[w.heap.size]? = some (.deferred (some [])) := fun jump W3 hk3 => by
        have hl3 := (hk3 _ (.inr rfl)).trans hl2
        have h := run_endRound (P := Tryd.prog) jump hl3
        exact ⟨by rw [hrec] at h ⊢; exact h, World.putObj_heap_same (Array.getElem?_eq_some_iff.1 hl3).1, (World.putObj_heap_other (by omega)).trans ((hk3 _ (.inl rfl)).trans ((hk2 _ (by omega)).trans hd))⟩
      rintro e a3 W3 hp
      cases e with
      | normal =>
        obtain ⟨hk3, hi3⟩ := hp
        obtain ⟨hr, hl4, hd4⟩ := fin none W3 hk3
        exact ⟨_, _, hr, .inl ⟨rfl, hIp _ _ _ hi3, hl4, hd4⟩⟩
      | ret =>
        obtain ⟨hk3, hi3⟩ := hp
        obtain ⟨hr, hl4, hd4⟩ := fin (some .ret) W3 hk3
        exact ⟨_, _, hr, .inr ⟨rfl, .ret, hXp _ _ _ _ hi3, hl4, hd4⟩⟩
      | exit id =>
        obtain ⟨hk3, hi3⟩ := hp
        obtain ⟨hr, hl4, hd4⟩ := fin (some (.exit id)) W3 hk3
        exact ⟨_, _, hr, .inr ⟨rfl, .exit id, hXp _ _ _ _ hi3, hl4, hd4⟩⟩
      | goto t =>
        obtain ⟨hk3, hi3⟩ := hp
        obtain ⟨hr, hl4, hd4⟩ := fin (some (.goto t)) W3 hk3
        exact ⟨_, _, hr, .inr ⟨rfl, .goto t, hXp _ _ _ _ hi3, hl4, hd4⟩⟩
      | panic ch => exact hp.elim
      | outgrown => exact hp.elim
    · rintro e W2 ⟨⟨v, rfl⟩, (⟨hi, hl, hd⟩ | ⟨pre, hpre, e, hi, hl, hd⟩)⟩
      · exact ⟨none, _, by have h := run_endLoop (P := Tryd.prog) hl (by rw [hrec]; simp); rw [hrec] at h; exact h, hdone _ (hIp _ _ _ hi) (own _ _ _ hd)⟩
      · exact ⟨some e, _, by have h := run_endLoop (P := Tryd.prog) hl (by rw [hrec]; simp); rw [hrec] at h; exact h, hstop _ pre _ hpre (hXp _ _ _ _ hi) (own _ _ _ hd)⟩
/-- the marks that many loops over iterators have left -/
def markOf (D : Nat) : Deferred := { target := .collected D, args := #[] }
theorem leaves_marks {n : Nat} {fn : Func} {tmps : Array Value} {R : Ending → World → Prop} : ∀ (Ds : List Nat) (W : World), Ds.Nodup → (∀ D ∈ Ds, W.heap[D]? = some (.deferred (some []))) →
    (∀ W' : World, W'.os = W.os → W'.tape = W.tape → W'.output = W.output → W'.heap.size = W.heap.size → (∀ k, k ∉ Ds → W'.heap[k]? = W.heap[k]?) → LeavesIn Fence.wide n Tryd.prog fn tmps R [] .returning W') →
    LeavesInM Fence.wide n Tryd.prog fn tmps R (Ds.map markOf) .returning W := by
  intro Ds
  induction Ds with
  | nil => intro W _ _ h; exact h W rfl rfl rfl rfl (fun _ _ => rfl)
  | cons D Ds ih =>
    intro W hnd hD h
    obtain ⟨hn1, hn2⟩ := List.nodup_cons.1 hnd
    refine ⟨by simp, .inl ⟨D, _, rfl, run_takeDeferred (hD D List.mem_cons_self), ih _ hn2 (fun E hE => ?_) (fun W' h1 h2 h3 h4 h5 => h W' h1 h2 h3 (by rw [h4]; simp) (fun k hk => ?_))⟩⟩
    · exact (World.putObj_heap_other (fun e => hn1 (by rw [← e]; exact hE))).trans (hD E (List.mem_cons_of_mem _ hE))
    · rw [List.mem_cons, not_or] at hk
      exact (h5 k hk.2).trans (World.putObj_heap_other hk.1)
end Go.Proofs.YtmgealcolofomaaDoor
