/- Two trees in memory that hold the same nodes: the document's comparing says so. -/
import Derived.Test.YtmmjcbfffcnfiaaFb
namespace Go.Proofs.Ytmmjcbfffcnfiaa
open Go.RowKit Kb Ph
set_option linter.unusedVariables false
set_option maxRecDepth 20000

set_option maxHeartbeats 4000000 in
theorem equal_ints (w : World) (v u : Value) (l : List Int) (h1 : Ints w v l) (h2 : Ints w u l) :
    Calls Try.prog 30 #[v, u] w fun e w' => e = .returned (.bool true) ∧ Below w.heap.size w w' := by
  obtain ⟨o1, c1, rfl, _⟩ := h1.form
  obtain ⟨o2, c2, rfl, _⟩ := h2.form
  have hroom := h1.room
  have H1 := hide h1
  have H2 := hide h2
  clear h1 h2
  go_enter Try.func30, Try.ntmps30
  go_wp2_with fail
  go_loopw [13] (fun x wr => ∃ j : Nat, x = .int .i64 j ∧ j ≤ l.length ∧ Below w.heap.size w wr) (fun x _ => l.length - (intOf x).toNat)
  case atStart => exact ⟨0, rfl, Nat.zero_le _, Below.refl _ _⟩
  case round =>
    obtain ⟨j, rfl, hj, hb⟩ := hrel
    have HB := hide hb
    clear hb
    by_cases hlt : j < l.length
    · obtain ⟨x, hx⟩ : ∃ x, l[j]? = some x := ⟨l[j], List.getElem?_eq_getElem hlt⟩
      obtain ⟨g1, f1, cc1, he1, hg1, hc1⟩ := ((unhide H1).below (unhide HB)).at_ (by intro e; rw [e] at hlt; cases hlt)
      obtain ⟨g2, f2, cc2, he2, hg2, hc2⟩ := ((unhide H2).below (unhide HB)).at_ (by intro e; rw [e] at hlt; cases hlt)
      have a0 := hc1 j x hx
      have b0 := hc2 j x hx
      cases he1
      cases he2
      have hI : (j : Int) < l.length := by omega
      clear hx hc1 hc2
      go_wp2_with fail
      go_quiet (fail)
      go_wp2
      exact ⟨⟨j + 1, by go_num, by omega, Go.below_drewN (unhide HB) _⟩, by simp [intOf]; omega⟩
    · obtain rfl : j = l.length := by omega
      go_wp2
      go_ret
      exact ⟨rfl, unhide HB⟩
set_option maxHeartbeats 4000000 in
theorem same1_any (w : World) (c p f : Int) (v u : Value) (l : List Int) (h1 : Ints w v l) (h2 : Ints w u l) :
    Calls Try.prog 29 #[.agg #[.int .u8 c, .int .i64 p, .int .i64 f, v], .agg #[.int .u8 c, .int .i64 p, .int .i64 f, u]] w fun e w' => e = .returned (.bool true) ∧ Below w.heap.size w w' := by
  have HE := hide (fun w' (b : Below w.heap.size w w') => equal_ints w' v u l (h1.below b) (h2.below b))
  obtain ⟨o1, c1, rfl, _⟩ := h1.form
  obtain ⟨o2, c2, rfl, _⟩ := h2.form
  clear h1 h2
  go_enter Try.func29, Try.ntmps29
  go_wp2_with fail
  have bb : Below w.heap.size w ((w.alloc (.cells #[.int .u8 c, .int .i64 p, .int .i64 f, .slice o1 l.length c1] 57)).alloc (.cells #[.int .u8 c, .int .i64 p, .int .i64 f, .slice o2 l.length c2] 57)) := ((Below.refl _ _).alloc (Nat.le_refl _) _).alloc (by simp) _
  refine ((unhide HE) _ bb).mono ?_
  rintro e w3 ⟨rfl, b3⟩
  have B3 := hide (bel_trans bb b3)
  clear b3 bb HE
  go_wp2_with fail
  go_ret
  exact ⟨rfl, unhide B3⟩
set_option maxHeartbeats 4000000 in
theorem equalF_any (w : World) (v u : Value) (T : List Nd) (h1 : Tree w v T) (h2 : Tree w u T) :
    Calls Try.prog 28 #[v, u, .func (.func 29) #[] #[]] w fun e w' => e = .returned (.bool true) ∧ Below w.heap.size w w' := by
  obtain ⟨o1, c1, rfl, _⟩ := h1.form
  obtain ⟨o2, c2, rfl, _⟩ := h2.form
  have hroom := h1.room
  have H1 := hide h1
  have H2 := hide h2
  clear h1 h2
  go_enter Try.func28, Try.ntmps28
  go_wp2_with fail
  go_loopw [17] (fun x wr => ∃ j : Nat, x = .int .i64 j ∧ j ≤ T.length ∧ Below w.heap.size w wr) (fun x _ => T.length - (intOf x).toNat)
  case atStart => exact ⟨0, rfl, Nat.zero_le _, Below.refl _ _⟩
  case round =>
    obtain ⟨j, rfl, hj, hb⟩ := hrel
    have HB := hide hb
    clear hb
    by_cases hlt : j < T.length
    · obtain ⟨g1, f1, cc1, e1, he1, hc1, hg1, a0, a1, a2, a3, I1⟩ := ((unhide H1).below (unhide HB)).node hlt
      obtain ⟨g2, f2, cc2, e2, he2, hc2, hg2, b0, b1, b2, b3, I2⟩ := ((unhide H2).below (unhide HB)).node hlt
      obtain ⟨c, hc⟩ : ∃ c, (nd T j).c = c := ⟨_, rfl⟩
      obtain ⟨p, hp⟩ : ∃ c, (nd T j).up = c := ⟨_, rfl⟩
      obtain ⟨f, hf⟩ : ∃ c, (nd T j).fail = c := ⟨_, rfl⟩
      obtain ⟨l, hl⟩ : ∃ c, (nd T j).ends = c := ⟨_, rfl⟩
      rw [hc] at a0 b0
      rw [hp] at a1 b1
      rw [hf] at a2 b2
      rw [hl] at I1 I2
      have HS := hide (fun w' (b : Below wr.heap.size wr w') => same1_any w' c p f e1 e2 l (I1.below b) (I2.below b))
      obtain ⟨oe1, ce1, rfl, _⟩ := I1.form
      obtain ⟨oe2, ce2, rfl, _⟩ := I2.form
      cases he1
      cases he2
      have hI : (j : Int) < T.length := by omega
      clear I1 I2 hc hp hf hl
      go_wp2_with fail
      have bb : Below wr.heap.size wr ((wr.alloc (.cells #[.int .u8 c, .int .i64 p, .int .i64 f, .slice oe1 l.length ce1] 57)).alloc (.cells #[.int .u8 c, .int .i64 p, .int .i64 f, .slice oe2 l.length ce2] 57)) := ((Below.refl _ _).alloc (Nat.le_refl _) _).alloc (by simp) _
      refine ((unhide HS) _ bb).mono ?_
      rintro e w3 ⟨rfl, b3⟩
      have B3 := hide (bel_trans (unhide HB) (bel_trans bb b3))
      clear b3 bb HS
      go_wp2_with fail
      exact ⟨⟨j + 1, by go_num, by omega, unhide B3⟩, by simp [intOf]; omega⟩
    · obtain rfl : j = T.length := by omega
      go_wp2
      go_ret
      exact ⟨rfl, unhide HB⟩
theorem sameTrie_any (w : World) (v u : Value) (T : List Nd) (h1 : Tree w v T) (h2 : Tree w u T) :
    Calls Try.prog 10 #[v, u] w fun e w' => e = .returned (.bool true) ∧ Below w.heap.size w w' := by
  have HE := hide (equalF_any w v u T h1 h2)
  obtain ⟨o1, c1, rfl, _⟩ := h1.form
  obtain ⟨o2, c2, rfl, _⟩ := h2.form
  clear h1 h2
  go_enter Try.func10, Try.ntmps10
  go_wp2_with fail
  refine (unhide HE).mono ?_
  rintro e w3 ⟨rfl, b3⟩
  have B3 := hide b3
  clear b3 HE
  go_wp2_with fail
  go_ret
  exact ⟨rfl, unhide B3⟩
end Go.Proofs.Ytmmjcbfffcnfiaa
