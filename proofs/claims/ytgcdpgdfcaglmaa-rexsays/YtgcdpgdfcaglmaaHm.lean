/- How the document writes expressions: RexText. -/
import Derived.Test.YtgcdpgdfcaglmaaHl
namespace Go.Proofs.Ytgcdpgdfcaglmaa
open Go.RowKit Kb Pop
set_option linter.unusedVariables false
set_option maxRecDepth 20000

theorem kidT_at (x : Ex) (HX : RT x) (hn : x.nodes ≤ 80) (hfl : x.Full) (w : World) (ks : List Rx) (o1 : Option Addr) (c1 : Nat) (hkd : Kd w ks (.slice o1 ks.length c1)) (i : Nat) (hx : ks[i]? = some x.rx) (W : World) (b : Below w.heap.size w W) (gb : Nat) (hgb : gb < W.heap.size) (c5 : W.cell? ⟨gb, 5, none⟩ = some (.slice o1 ks.length c1))
    (kn : List Int) (hkl : kn.length ≤ 4) (h : Nat) (o : Option Addr) (c : Nat) (ho : kn ≠ [] → o = some ⟨h, 0, none⟩) (hh : kn ≠ [] → h < W.heap.size) (hks : ∀ j q, kn[j]? = some q → W.cell? ⟨h, j, none⟩ = some (.int .i64 q)) :
    Calls Try.prog 19 #[.int .i64 i, .slice o kn.length c, .pointer (some ⟨gb, 0, none⟩)] W fun e w' => e = .returned (.string (mk (brk (decide (x.kind ∈ kn)) x.tx))) ∧ Below W.heap.size W w' := by
  obtain ⟨g1, f1, d1, e1, he1, hg1, fx, a0, a1, a2, a3, a4, a5, kx⟩ := hkd.at_ hx
  have hroom := hkd.room
  cases he1
  exact kidT_any x HX hn hfl W i ks.length c1 g1 f1 gb e1 (Kd.below b _ _ _ (Nat.le_refl _) kx) fx (cell_below a0 hg1 b) (cell_below a1 hg1 b) (cell_below a2 hg1 b) (cell_below a3 hg1 b) (cell_below a4 hg1 b) (cell_below a5 hg1 b) (Nat.lt_of_lt_of_le hg1 b.size) hgb c5 (List.getElem?_eq_some_iff.1 hx).1 hroom kn hkl h o c ho hh hks
theorem kinds_cells (W : World) (ks : List Int) (h : Nat) (hh : W.heap.size = h) : ∀ j q, ks[j]? = some q → (W.alloc (.cells (ks.map (Value.int .i64)).toArray 3)).cell? ⟨h, j, none⟩ = some (.int .i64 q) := by
  intro j q hq
  subst hh
  rw [World.cell?_alloc_new]
  simp [hq]
set_option maxHeartbeats 1000000 in
theorem rt_none : RT .none := by
  intro w rv hV hn hfl
  obtain ⟨t, rfl, hkd⟩ := hV.val
  obtain ⟨o, c, rfl, _⟩ := hkd.form
  unfold rexV
  simp only [Ex.rx, Ex.tx, noB, Rx.k, Rx.s, Rx.ks, noSet, List.length_nil] at *
  have bb : Hid (Below w.heap.size w (w.alloc (.cells #[.int .i64 1, .int .u64 0, .int .u64 0, .int .u64 0, .int .u64 0, .slice o 0 c] 27))) := hide ((Below.refl _ _).alloc (Nat.le_refl _) _)
  go_enter Try.func8, Try.ntmps8
  go_wp2_with fail
  go_ret
  exact ⟨rfl, unhide bb⟩
set_option maxHeartbeats 1000000 in
theorem rt_emp : RT .emp := by
  intro w rv hV hn hfl
  obtain ⟨t, rfl, hkd⟩ := hV.val
  obtain ⟨o, c, rfl, _⟩ := hkd.form
  unfold rexV
  simp only [Ex.rx, Ex.tx, Rx.k, Rx.s, Rx.ks, noSet, List.length_nil] at *
  have bb : Hid (Below w.heap.size w (w.alloc (.cells #[.int .i64 2, .int .u64 0, .int .u64 0, .int .u64 0, .int .u64 0, .slice o 0 c] 27))) := hide ((Below.refl _ _).alloc (Nat.le_refl _) _)
  go_enter Try.func8, Try.ntmps8
  go_wp2_with fail
  go_ret
  exact ⟨rfl, unhide bb⟩
set_option maxHeartbeats 1000000 in
theorem rt_beg : RT .beg := by
  intro w rv hV hn hfl
  obtain ⟨t, rfl, hkd⟩ := hV.val
  obtain ⟨o, c, rfl, _⟩ := hkd.form
  unfold rexV
  simp only [Ex.rx, Ex.tx, Rx.k, Rx.s, Rx.ks, noSet, List.length_nil] at *
  have bb : Hid (Below w.heap.size w (w.alloc (.cells #[.int .i64 7, .int .u64 0, .int .u64 0, .int .u64 0, .int .u64 0, .slice o 0 c] 27))) := hide ((Below.refl _ _).alloc (Nat.le_refl _) _)
  go_enter Try.func8, Try.ntmps8
  go_wp2_with fail
  go_ret
  exact ⟨rfl, unhide bb⟩
set_option maxHeartbeats 1000000 in
theorem rt_en : RT .en := by
  intro w rv hV hn hfl
  obtain ⟨t, rfl, hkd⟩ := hV.val
  obtain ⟨o, c, rfl, _⟩ := hkd.form
  unfold rexV
  simp only [Ex.rx, Ex.tx, Rx.k, Rx.s, Rx.ks, noSet, List.length_nil] at *
  have bb : Hid (Below w.heap.size w (w.alloc (.cells #[.int .i64 8, .int .u64 0, .int .u64 0, .int .u64 0, .int .u64 0, .slice o 0 c] 27))) := hide ((Below.refl _ _).alloc (Nat.le_refl _) _)
  go_enter Try.func8, Try.ntmps8
  go_wp2_with fail
  go_ret
  exact ⟨rfl, unhide bb⟩
theorem mem_bra6 (q : Int) (i : Nat) : decide (q ∈ [(2 : Int), 4, 5, 6]) = bra 6 i q := by unfold bra; rw [if_pos rfl, decide_eq_decide]; simp
theorem mem_bra40 (q : Int) : decide (q ∈ [(2 : Int), 5]) = bra 4 0 q := by unfold bra; rw [if_neg (by decide), if_pos rfl, decide_eq_decide]; simp
theorem mem_bra41 (q : Int) : decide (q ∈ [(2 : Int), 5, 4]) = bra 4 1 q := by unfold bra; rw [if_neg (by decide), if_pos rfl, decide_eq_decide]; simp
theorem mem_bra50 (q : Int) : decide (q ∈ ([] : List Int)) = bra 5 0 q := by unfold bra; rw [if_neg (by decide), if_neg (by decide), decide_eq_decide]; simp
theorem mem_bra51 (q : Int) : decide (q ∈ [(5 : Int)]) = bra 5 1 q := by unfold bra; rw [if_neg (by decide), if_neg (by decide), decide_eq_decide]; simp
set_option maxHeartbeats 2000000 in
theorem rt_star (a : Ex) (ha : RT a) : RT (.star a) := by
  intro w rv hV hn hfl
  obtain ⟨t, rfl, hkd⟩ := hV.val
  obtain ⟨o, c, rfl, _⟩ := hkd.form
  simp only [Ex.nodes] at hn
  have la := tx_len a
  have lb := brk_len (bra 6 0 a.kind) a.tx
  obtain ⟨P, hP⟩ : ∃ P, Obj.cells #[.int .i64 6, .int .u64 0, .int .u64 0, .int .u64 0, .int .u64 0, .slice o 1 c] 27 = P := ⟨_, rfl⟩
  have bb : Below w.heap.size w ((w.alloc P).alloc (.cells #[.int .i64 2, .int .i64 4, .int .i64 5, .int .i64 6] 3)) := ((Below.refl _ w).alloc (Nat.le_refl _) P).alloc (by simp) _
  have hc5 : ((w.alloc P).alloc (.cells #[.int .i64 2, .int .i64 4, .int .i64 5, .int .i64 6] 3)).cell? ⟨w.heap.size, 5, none⟩ = some (.slice o 1 c) := by
    rw [World.cell?_alloc_old _ _ _ (by simp), ← hP, World.cell?_alloc_new]; rfl
  have HK := hide (kidT_at a ha (by omega) hfl w [a.rx] o c hkd 0 rfl _ bb w.heap.size (by simp; omega) hc5 [2, 4, 5, 6] (by decide) (w.heap.size + 1) (some ⟨w.heap.size + 1, 0, none⟩) 4 (fun _ => rfl) (fun _ => by simp) (kinds_cells (w.alloc P) [2, 4, 5, 6] _ (by simp)))
  rw [mem_bra6 a.kind 0] at HK
  show Calls _ _ _ _ (fun e w' => e = .returned (.string (mk (brk (bra 6 0 a.kind) a.tx ++ [42]))) ∧ Below w.heap.size w w')
  obtain ⟨T, hT⟩ : ∃ T, brk (bra 6 0 a.kind) a.tx = T := ⟨_, rfl⟩
  rw [hT] at HK lb ⊢
  have BB := hide bb
  rw [← hP] at HK BB
  unfold rexV at *
  simp only [Ex.rx, Rx.k, Rx.s, Rx.ks, noSet, List.length_cons, List.length_nil, Nat.zero_add, Nat.reduceAdd] at *
  obtain ⟨mT, hmT⟩ : ∃ m, mk T = m := ⟨_, rfl⟩
  have hs : mT.size ≤ 200000 := by rw [← hmT, mk_size]; omega
  have HMT := hide hmT
  rw [hmT] at HK
  clear hT hP hc5 bb hkd hV hmT
  go_enter Try.func8, Try.ntmps8
  go_wp2_with fail
  refine (unhide HK).mono ?_
  rintro e w3 ⟨rfl, b3⟩
  have B3 := hide (bel_trans (unhide BB) b3)
  clear b3 HK
  go_wp2_with fail
  go_ret
  refine ⟨Kb.ret_str ?_, unhide B3⟩
  rw [← unhide HMT]
  show mk T ++ mk [42] = _
  rw [cat_mk]
end Go.Proofs.Ytgcdpgdfcaglmaa
