/- How the document writes expressions: two of them. -/
import Derived.Test.YtgcdpgdfcaglmaaHm
namespace Go.Proofs.Ytgcdpgdfcaglmaa
open Go.RowKit Kb Pop
set_option linter.unusedVariables false
set_option maxRecDepth 20000

set_option maxHeartbeats 3000000 in
theorem rt_cat (a b : Ex) (ha : RT a) (hb : RT b) : RT (.cat a b) := by
  intro w rv hV hn hfl
  obtain ⟨t, rfl, hkd⟩ := hV.val
  obtain ⟨o, c, rfl, _⟩ := hkd.form
  simp only [Ex.nodes] at hn
  have la := tx_len a
  have lb := tx_len b
  have l0 := brk_len (bra 4 0 a.kind) a.tx
  have l1 := brk_len (bra 4 1 b.kind) b.tx
  obtain ⟨P, hP⟩ : ∃ P, Obj.cells #[.int .i64 4, .int .u64 0, .int .u64 0, .int .u64 0, .int .u64 0, .slice o 2 c] 27 = P := ⟨_, rfl⟩
  have bb : Below w.heap.size w ((w.alloc P).alloc (.cells #[.int .i64 2, .int .i64 5] 3)) := ((Below.refl _ w).alloc (Nat.le_refl _) P).alloc (by simp) _
  have hc5 : ((w.alloc P).alloc (.cells #[.int .i64 2, .int .i64 5] 3)).cell? ⟨w.heap.size, 5, none⟩ = some (.slice o 2 c) := by
    rw [World.cell?_alloc_old _ _ _ (by simp), ← hP, World.cell?_alloc_new]; rfl
  have hgb : w.heap.size < ((w.alloc P).alloc (.cells #[.int .i64 2, .int .i64 5] 3)).heap.size := (by simp; omega)
  have HK0 := hide (kidT_at a ha (by omega) hfl.1 w [a.rx, b.rx] o c hkd 0 rfl _ bb w.heap.size hgb hc5 [2, 5] (by decide) (w.heap.size + 1) (some ⟨w.heap.size + 1, 0, none⟩) 2 (fun _ => rfl) (fun _ => by simp) (kinds_cells (w.alloc P) [2, 5] _ (by simp)))
  have HK1 : Hid (∀ w3, Below ((w.alloc P).alloc (.cells #[.int .i64 2, .int .i64 5] 3)).heap.size ((w.alloc P).alloc (.cells #[.int .i64 2, .int .i64 5] 3)) w3 → Calls Try.prog 19 #[.int .i64 1, .slice (some ⟨w3.heap.size, 0, none⟩) 3 3, .pointer (some ⟨w.heap.size, 0, none⟩)] (w3.alloc (.cells #[.int .i64 2, .int .i64 5, .int .i64 4] 3)) fun e w' => e = .returned (.string (mk (brk (decide (b.kind ∈ [(2 : Int), 5, 4])) b.tx))) ∧ Below (w3.alloc (.cells #[.int .i64 2, .int .i64 5, .int .i64 4] 3)).heap.size (w3.alloc (.cells #[.int .i64 2, .int .i64 5, .int .i64 4] 3)) w') := hide (fun w3 b3 =>
    kidT_at b hb (by omega) hfl.2 w [a.rx, b.rx] o c hkd 1 rfl _ ((bel_trans bb b3).alloc (bel_trans bb b3).size _) w.heap.size (by have := b3.size; simp; omega) (by rw [World.cell?_alloc_old _ _ _ (Nat.ne_of_lt (Nat.lt_of_lt_of_le hgb b3.size))]; exact cell_below hc5 hgb b3) [2, 5, 4] (by decide) w3.heap.size (some ⟨w3.heap.size, 0, none⟩) 3 (fun _ => rfl) (fun _ => by simp) (kinds_cells w3 [2, 5, 4] _ rfl))
  rw [mem_bra40 a.kind] at HK0
  rw [mem_bra41 b.kind] at HK1
  show Calls _ _ _ _ (fun e w' => e = .returned (.string (mk (brk (bra 4 0 a.kind) a.tx ++ brk (bra 4 1 b.kind) b.tx))) ∧ Below w.heap.size w w')
  obtain ⟨T0, hT0⟩ : ∃ T, brk (bra 4 0 a.kind) a.tx = T := ⟨_, rfl⟩
  obtain ⟨T1, hT1⟩ : ∃ T, brk (bra 4 1 b.kind) b.tx = T := ⟨_, rfl⟩
  rw [hT0] at HK0 l0 ⊢
  rw [hT1] at HK1 l1 ⊢
  have BB := hide bb
  rw [← hP] at HK0 HK1 BB
  unfold rexV at *
  simp only [Ex.rx, Rx.k, Rx.s, Rx.ks, noSet, List.length_cons, List.length_nil, Nat.zero_add, Nat.reduceAdd] at *
  obtain ⟨m0, hm0⟩ : ∃ m, mk T0 = m := ⟨_, rfl⟩
  obtain ⟨m1, hm1⟩ : ∃ m, mk T1 = m := ⟨_, rfl⟩
  have hs0 : m0.size ≤ 200000 := by rw [← hm0, mk_size]; omega
  have hs1 : m1.size ≤ 200000 := by rw [← hm1, mk_size]; omega
  have HM0 := hide hm0
  have HM1 := hide hm1
  rw [hm0] at HK0
  rw [hm1] at HK1
  clear hT0 hT1 hP hc5 hgb bb hkd hV hm0 hm1
  go_enter Try.func8, Try.ntmps8
  go_wp2_with fail
  refine (unhide HK0).mono ?_
  rintro e w3 ⟨rfl, b3⟩
  have HK2 := hide ((unhide HK1) w3 b3)
  have B3 := hide ((bel_trans (unhide BB) b3).alloc (bel_trans (unhide BB) b3).size (.cells #[.int .i64 2, .int .i64 5, .int .i64 4] 3))
  clear b3 HK0 HK1
  go_wp2_with fail
  refine (unhide HK2).mono ?_
  rintro e w4 ⟨rfl, b4⟩
  have B4 := hide (bel_trans (unhide B3) b4)
  clear b4 HK2
  go_wp2_with fail
  go_ret
  refine ⟨Kb.ret_str ?_, unhide B4⟩
  rw [← unhide HM0, ← unhide HM1]
  show mk T0 ++ mk T1 = _
  rw [cat_mk]
set_option maxHeartbeats 3000000 in
theorem rt_alt (a b : Ex) (ha : RT a) (hb : RT b) : RT (.alt a b) := by
  intro w rv hV hn hfl
  obtain ⟨t, rfl, hkd⟩ := hV.val
  obtain ⟨o, c, rfl, _⟩ := hkd.form
  simp only [Ex.nodes] at hn
  have la := tx_len a
  have lb := tx_len b
  have l0 := brk_len (bra 5 0 a.kind) a.tx
  have l1 := brk_len (bra 5 1 b.kind) b.tx
  obtain ⟨P, hP⟩ : ∃ P, Obj.cells #[.int .i64 5, .int .u64 0, .int .u64 0, .int .u64 0, .int .u64 0, .slice o 2 c] 27 = P := ⟨_, rfl⟩
  have bb : Below w.heap.size w (w.alloc P) := (Below.refl _ w).alloc (Nat.le_refl _) P
  have hc5 : (w.alloc P).cell? ⟨w.heap.size, 5, none⟩ = some (.slice o 2 c) := by
    rw [← hP, World.cell?_alloc_new]; rfl
  have hgb : w.heap.size < (w.alloc P).heap.size := (by simp)
  have HK0 := hide (kidT_at a ha (by omega) hfl.1 w [a.rx, b.rx] o c hkd 0 rfl _ bb w.heap.size hgb hc5 ([] : List Int) (by decide) 0 none 0 (fun h => absurd rfl h) (fun h => absurd rfl h) (fun j q h => by simp at h))
  have HK1 : Hid (∀ w3, Below (w.alloc P).heap.size (w.alloc P) w3 → Calls Try.prog 19 #[.int .i64 1, .slice (some ⟨w3.heap.size, 0, none⟩) 1 1, .pointer (some ⟨w.heap.size, 0, none⟩)] (w3.alloc (.cells #[.int .i64 5] 3)) fun e w' => e = .returned (.string (mk (brk (decide (b.kind ∈ [(5 : Int)])) b.tx))) ∧ Below (w3.alloc (.cells #[.int .i64 5] 3)).heap.size (w3.alloc (.cells #[.int .i64 5] 3)) w') := hide (fun w3 b3 =>
    kidT_at b hb (by omega) hfl.2 w [a.rx, b.rx] o c hkd 1 rfl _ ((bel_trans bb b3).alloc (bel_trans bb b3).size _) w.heap.size (by have := b3.size; simp; omega) (by rw [World.cell?_alloc_old _ _ _ (Nat.ne_of_lt (Nat.lt_of_lt_of_le hgb b3.size))]; exact cell_below hc5 hgb b3) [5] (by decide) w3.heap.size (some ⟨w3.heap.size, 0, none⟩) 1 (fun _ => rfl) (fun _ => by simp) (kinds_cells w3 [5] _ rfl))
  rw [mem_bra50 a.kind] at HK0
  rw [mem_bra51 b.kind] at HK1
  show Calls _ _ _ _ (fun e w' => e = .returned (.string (mk (brk (bra 5 0 a.kind) a.tx ++ 124 :: brk (bra 5 1 b.kind) b.tx))) ∧ Below w.heap.size w w')
  obtain ⟨T0, hT0⟩ : ∃ T, brk (bra 5 0 a.kind) a.tx = T := ⟨_, rfl⟩
  obtain ⟨T1, hT1⟩ : ∃ T, brk (bra 5 1 b.kind) b.tx = T := ⟨_, rfl⟩
  rw [hT0] at HK0 l0 ⊢
  rw [hT1] at HK1 l1 ⊢
  have BB := hide bb
  rw [← hP] at HK0 HK1 BB
  unfold rexV at *
  simp only [Ex.rx, Rx.k, Rx.s, Rx.ks, noSet, List.length_cons, List.length_nil, Nat.zero_add, Nat.reduceAdd] at *
  obtain ⟨m0, hm0⟩ : ∃ m, mk T0 = m := ⟨_, rfl⟩
  obtain ⟨m1, hm1⟩ : ∃ m, mk T1 = m := ⟨_, rfl⟩
  have hs0 : m0.size ≤ 200000 := by rw [← hm0, mk_size]; omega
  have hs1 : m1.size ≤ 200000 := by rw [← hm1, mk_size]; omega
  have HM0 := hide hm0
  have HM1 := hide hm1
  rw [hm0] at HK0
  rw [hm1] at HK1
  clear hT0 hT1 hP hc5 hgb bb hkd hV hm0 hm1
  go_enter Try.func8, Try.ntmps8
  go_wp2_with fail
  refine (unhide HK0).mono ?_
  rintro e w3 ⟨rfl, b3⟩
  have HK2 := hide ((unhide HK1) w3 b3)
  have B3 := hide ((bel_trans (unhide BB) b3).alloc (bel_trans (unhide BB) b3).size (.cells #[.int .i64 5] 3))
  clear b3 HK0 HK1
  go_wp2_with fail
  refine (unhide HK2).mono ?_
  rintro e w4 ⟨rfl, b4⟩
  have B4 := hide (bel_trans (unhide B3) b4)
  clear b4 HK2
  go_wp2_with fail
  go_ret
  refine ⟨Kb.ret_str ?_, unhide B4⟩
  rw [← unhide HM0, ← unhide HM1]
  show mk T0 ++ mk [124] ++ mk T1 = _
  rw [cat_mk, cat_mk]
  simp
end Go.Proofs.Ytgcdpgdfcaglmaa
