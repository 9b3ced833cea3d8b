/- A range over the iterator of strings.SplitSeq: the step of the walk, at the wide fence. -/
import Derived.Test.YtgmpgacedmjgdaaDoorSr
namespace Go.Proofs.YtgmpgacedmjgdaaDoor
open Go.RowKit Kb Go.Shelf
set_option linter.unusedVariables false
set_option maxRecDepth 20000

/-- how a round's body may end: the captured boxes and the loop's two blocks as they were -/
def pieceEnd (bp bs bq d : Nat) (I : List (List UInt8) → World → Prop) (Ix : Code → List (List UInt8) → World → Prop) (pre : List (List UInt8)) (W : World) : Exit → Act → World → Prop
  | .normal, _, W' => (∀ k, k = bp ∨ k = bs ∨ k = bq ∨ k = d ∨ k = d + 1 → W'.heap[k]? = W.heap[k]?) ∧ I pre W'
  | .ret, _, W' => (∀ k, k = bp ∨ k = bs ∨ k = bq ∨ k = d ∨ k = d + 1 → W'.heap[k]? = W.heap[k]?) ∧ Ix .ret pre W'
  | .exit id, _, W' => (∀ k, k = bp ∨ k = bs ∨ k = bq ∨ k = d ∨ k = d + 1 → W'.heap[k]? = W.heap[k]?) ∧ Ix (.exit id) pre W'
  | .goto t, _, W' => (∀ k, k = bp ∨ k = bs ∨ k = bq ∨ k = d ∨ k = d + 1 → W'.heap[k]? = W.heap[k]?) ∧ Ix (.goto t) pre W'
  | .panic _, _, _ => False
  | .outgrown, _, _ => False
theorem wp_pieces {n : Nat} {g : Operand} {ps : Array Tmp} {assign body : Code} {Q : Exit → Act → World → Prop} {a : Act} {w : World} {bp bs bq : Nat} {c : UInt8} {s : ByteArray}
    (hg : a.eval g = .func (.func 55) #[] #[.pointer (some ⟨bp, 0, none⟩), .pointer (some ⟨bs, 0, none⟩), .pointer (some ⟨bq, 0, none⟩)])
    (hC : Caps w bp bs bq c s) (hs : s.size ≤ 4294960000) (hps : ps.size = 1)
    (I : List (List UInt8) → World → Prop) (Ix : Code → List (List UInt8) → World → Prop)
    (hId : ∀ pre W k, I pre W → I pre (W.drewN k)) (hIs : ∀ pre W v, I pre W → I pre (W.setCell ⟨bs, 0, none⟩ v))
    (hIp : ∀ pre W o, I pre W → I pre (W.putObj (w.heap.size + 1) o)) (hXp : ∀ e pre W o, Ix e pre W → Ix e pre (W.putObj (w.heap.size + 1) o))
    (h0 : ∀ o o', I [] ((w.alloc o).alloc o')) (a1 : List UInt8 → Act)
    (hassign : ∀ l x W (K : Act → World → Prop), K (a1 x) W → assign.wpIn (Fence.wide.inRound l) (n - 1 - 1) Tryd.prog (Exit.then K (fun _ _ _ => False)) { tmps := (ps.zip #[.string (mk x)]).foldl (fun t (p, v) => t.setIfInBounds p v) a.tmps, defers := [] } W)
    (hbody : ∀ pre x W, pre ++ [x] <+: Cs.cut c s.data.toList → w.heap.size + 1 < W.heap.size → I pre W → body.wpIn (Fence.wide.inRound (w.heap.size + 1)) (n - 1 - 1) Tryd.prog (pieceEnd bp bs bq w.heap.size I Ix (pre ++ [x]) W) (a1 x) W)
    (hdone : ∀ W, I (Cs.cut c s.data.toList) W → W.heap[w.heap.size]? = some (.deferred (some [])) → Q .normal { a with defers := { target := .collected w.heap.size, args := #[] } :: a.defers } W)
    (hstop : ∀ e pre W, pre <+: Cs.cut c s.data.toList → Ix e pre W → W.heap[w.heap.size]? = some (.deferred (some [])) → e.wpIn Fence.wide n Tryd.prog Q { a with defers := { target := .collected w.heap.size, args := #[] } :: a.defers } W) :
    (Code.rangeFunc g ps assign body).wpIn Fence.wide n Tryd.prog Q a w := by
  have lp : bp < w.heap.size := cell_lt hC.p
  have ls : bs < w.heap.size := cell_lt hC.s
  have lq : bq < w.heap.size := cell_lt hC.q
  refine wpIn_rangeFunc fun fn hfn => ?_
  obtain ⟨rec, hrec⟩ : ∃ rec : LoopState → Option Code → Loop, rec = fun st pe => { state := st, pending := pe, fn, tmps := a.tmps, params := ps, assign, body, defers := w.heap.size } := ⟨_, rfl⟩
  have hl0 : ((w.alloc (.deferred (some []))).alloc (.loop (rec .ready none))).heap[w.heap.size + 1]? = some (.loop (rec .ready none)) := by
    have h := World.alloc_heap_new (w.alloc (.deferred (some []))) (.loop (rec .ready none))
    rwa [World.size_alloc] at h
  have hd0 : ((w.alloc (.deferred (some []))).alloc (.loop (rec .ready none))).heap[w.heap.size]? = some (.deferred (some [])) :=
    (Below.heap_alloc _ _ _ (by simp)).trans (World.alloc_heap_new w _)
  have old : ∀ k, k < w.heap.size → ((w.alloc (.deferred (some []))).alloc (.loop (rec .ready none))).heap[k]? = w.heap[k]? := fun k hk =>
    (Below.heap_alloc _ _ _ (by simp; omega)).trans (Below.heap_alloc _ _ _ hk)
  have hC0 : Caps ((w.alloc (.deferred (some []))).alloc (.loop (rec .ready none))) bp bs bq c s := hC.kept (fun k hk => old k (by rcases hk with h | h | h <;> omega))
  refine ⟨w.heap.size + 1, [{ target := .collected w.heap.size, args := #[] }], (w.alloc (.deferred (some []))).alloc (.loop (rec .ready none)), { target := .fn (.func 55) #[.pointer (some ⟨bp, 0, none⟩), .pointer (some ⟨bs, 0, none⟩), .pointer (some ⟨bq, 0, none⟩)], args := #[.func (.yield (w.heap.size + 1)) #[] #[]] }, (w.alloc (.deferred (some []))).alloc (.loop (rec .ready none)), 55,
    #[.func (.yield (w.heap.size + 1)) #[] #[]] ++ #[.pointer (some ⟨bp, 0, none⟩), .pointer (some ⟨bs, 0, none⟩), .pointer (some ⟨bq, 0, none⟩)], (w.alloc (.deferred (some []))).alloc (.loop (rec .ready none)), ?_, ?_, ?_, ?_, fun h => by simp [Fence.wide] at h, ?_⟩
  · rw [hrec]; exact run_enterLoop_outer _ _ _ _ _
  · simp only [resolve, hg]
    simp [go_sem]
  · intro f' hf'; trivial
  · simp [invoke, go_sem]
  · have own : ∀ (W : World) (o o' : Obj), W.heap[w.heap.size]? = some o → (W.putObj (w.heap.size + 1) o').heap[w.heap.size]? = some o := fun W o o' h => (World.putObj_heap_other (by omega)).trans h
    refine (split1_in (n - 1) (w.heap.size + 1) bp bs bq c s
      (fun pre W => I pre W ∧ W.heap[w.heap.size + 1]? = some (.loop (rec .ready none)) ∧ W.heap[w.heap.size]? = some (.deferred (some [])))
      (fun pre W => ∃ e, Ix e pre W ∧ W.heap[w.heap.size + 1]? = some (.loop (rec .done (some e))) ∧ W.heap[w.heap.size]? = some (.deferred (some [])))
      (fun pre W k h => ⟨hId _ _ _ h.1, h.2.1, h.2.2⟩)
      (fun pre W v h => ⟨hIs _ _ _ h.1, (Below.heap_setCell _ _ _ _ (show w.heap.size + 1 ≠ bs by omega)).trans h.2.1, (Below.heap_setCell _ _ _ _ (show w.heap.size ≠ bs by omega)).trans h.2.2⟩)
      ?_ _ hC0 ⟨h0 _ _, hl0, hd0⟩ hs).mono ?_
    · rintro pre x W hx ⟨hi, hl, hd⟩
      have hlt : w.heap.size + 1 < W.heap.size := (Array.getElem?_eq_some_iff.1 hl).1
      have hy := run_yield (P := Tryd.prog) (args := #[.string (mk x)]) hl (by rw [hrec]; exact hps.symm)
      rw [hrec] at hy
      refine ⟨fn, _, assign, body, hy, roundIn_of_wpIn hfn (hassign _ x W _ ⟨_, run_beginRound hl (by rw [hrec]), ?_⟩)⟩
      obtain ⟨W2, hW2⟩ : ∃ W2, W.putObj (w.heap.size + 1) (.loop { rec .ready none with state := .busy }) = W2 := ⟨_, rfl⟩
      have hl2 : W2.heap[w.heap.size + 1]? = some (.loop { rec .ready none with state := .busy }) := by rw [← hW2]; exact World.putObj_heap_same hlt
      have hk2 : ∀ k, k ≠ w.heap.size + 1 → W2.heap[k]? = W.heap[k]? := fun k hk => by rw [← hW2]; exact World.putObj_heap_other hk
      rw [hW2]
      refine wpIn_mono (hbody pre x W2 hx (by rw [← hW2]; simpa using hlt) (by rw [← hW2]; exact hIp _ _ _ hi)) ?_
      have fin : ∀ (jump : Option Code) (W3 : World), (∀ k, k = bp ∨ k = bs ∨ k = bq ∨ k = w.heap.size ∨ k = w.heap.size + 1 → W3.heap[k]? = W2.heap[k]?) →
          (Instr.endRound (w.heap.size + 1) jump).run Tryd.prog W3 = .ok (.bool jump.isNone) (W3.putObj (w.heap.size + 1) (.loop (rec (if jump.isNone then .ready else .done) jump))) ∧
          (W3.putObj (w.heap.size + 1) (.loop (rec (if jump.isNone then .ready else .done) jump))).heap[w.heap.size + 1]? = some (.loop (rec (if jump.isNone then .ready else .done) jump)) ∧
          (W3.putObj (w.heap.size + 1) (.loop (rec (if jump.isNone then .ready else .done) jump))).heap[w.heap.size]? = some (.deferred (some [])) ∧
          ∀ k, k = bp ∨ k = bs ∨ k = bq → (W3.putObj (w.heap.size + 1) (.loop (rec (if jump.isNone then .ready else .done) jump))).heap[k]? = W.heap[k]? := fun jump W3 hk3 => by
        have hl3 := (hk3 _ (.inr (.inr (.inr (.inr rfl))))).trans hl2
        have h := run_endRound (P := Tryd.prog) jump hl3
        refine ⟨by rw [hrec] at h ⊢; exact h, World.putObj_heap_same (Array.getElem?_eq_some_iff.1 hl3).1, (World.putObj_heap_other (by omega)).trans ((hk3 _ (.inr (.inr (.inr (.inl rfl))))).trans ((hk2 _ (by omega)).trans hd)), ?_⟩
        intro k hk
        have hne : k ≠ w.heap.size + 1 := by rcases hk with rfl | rfl | rfl <;> omega
        exact (World.putObj_heap_other hne).trans ((hk3 k (by rcases hk with h | h | h <;> simp [h])).trans (hk2 k hne))
      rintro e a3 W3 hp
      cases e with
      | normal =>
        obtain ⟨hk3, hi3⟩ := hp
        obtain ⟨hr, hl4, hd4, hk4⟩ := fin none W3 hk3
        exact ⟨_, _, hr, .inl ⟨rfl, ⟨hIp _ _ _ hi3, hl4, hd4⟩, hk4⟩⟩
      | ret =>
        obtain ⟨hk3, hi3⟩ := hp
        obtain ⟨hr, hl4, hd4, hk4⟩ := fin (some .ret) W3 hk3
        exact ⟨_, _, hr, .inr ⟨rfl, .ret, hXp _ _ _ _ hi3, hl4, hd4⟩⟩
      | exit id =>
        obtain ⟨hk3, hi3⟩ := hp
        obtain ⟨hr, hl4, hd4, hk4⟩ := fin (some (.exit id)) W3 hk3
        exact ⟨_, _, hr, .inr ⟨rfl, .exit id, hXp _ _ _ _ hi3, hl4, hd4⟩⟩
      | goto t =>
        obtain ⟨hk3, hi3⟩ := hp
        obtain ⟨hr, hl4, hd4, hk4⟩ := fin (some (.goto t)) W3 hk3
        exact ⟨_, _, hr, .inr ⟨rfl, .goto t, hXp _ _ _ _ hi3, hl4, hd4⟩⟩
      | panic ch => exact hp.elim
      | outgrown => exact hp.elim
    · rintro e W2 ⟨⟨v, rfl⟩, (⟨hi, hl, hd⟩ | ⟨pre, hpre, e, hi, hl, hd⟩)⟩
      · exact ⟨none, _, by have h := run_endLoop (P := Tryd.prog) hl (by rw [hrec]; simp); rw [hrec] at h; exact h, hdone _ (hIp _ _ _ hi) (own _ _ _ hd)⟩
      · exact ⟨some e, _, by have h := run_endLoop (P := Tryd.prog) hl (by rw [hrec]; simp); rw [hrec] at h; exact h, hstop _ pre _ hpre (hXp _ _ _ _ hi) (own _ _ _ hd)⟩
end Go.Proofs.YtgmpgacedmjgdaaDoor
