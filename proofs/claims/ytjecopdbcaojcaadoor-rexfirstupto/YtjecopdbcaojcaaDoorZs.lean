/- The law's own closure: is a piece matched whole? -/
import Derived.Test.YtjecopdbcaojcaaDoorZp
import Derived.Laws.StructEq
import Derived.Deep.RegionLaw
namespace Go.Proofs.YtjecopdbcaojcaaDoor
open Go.RowKit Kb Pop
set_option linter.unusedVariables false
set_option maxRecDepth 20000
open Sp

/-- a piece that is matched whole -/
theorem law_piece {x : Ex} {s p : ByteArray} {f t : Nat} {a b : Int} {is ok : Bool} (hft : f ≤ t) (hts : t ≤ s.size) (hs : s.size ≤ 300) (hp : p.data.toList = (s.data.toList.drop f).take (t - f)) (hc : chkR (wholeR x.rx) = 0)
    (hb : NoBeg x) (he : NoEn x) (h : Fo (wholeR x.rx) p a b is ok) : (is && (a == 0 && b == ((t : Int) - f))) = M s.data.toList x f t := by
  have hl : s.data.toList.length = s.size := len_data s
  have hpl : p.data.toList.length = t - f := by rw [hp]; simp; omega
  have hpz : p.size = t - f := by rw [← len_data p]; exact hpl
  rcases h with ⟨_, _, _, _, h | h⟩ | ⟨_, _, _, z, o, hz, _, ho, h2, h3⟩
  · exact absurd hc h
  · omega
  · obtain ⟨y, hy, rfl⟩ := wholeR_ex hz
    obtain rfl := rx_inj x y hy
    have hm : ∀ i j, M p.data.toList (.cat (.cat .beg x) .en) i j = true ↔ i = 0 ∧ j = t - f ∧ M s.data.toList x f t = true := fun i j => by
      rw [M_whole, hpl, hp, M_piece s.data.toList f (t - f) (by omega) x he hb, Nat.zero_add, show t - f + f = t by omega]
      constructor
      · rintro ⟨h1, h2, _, _, h3⟩; exact ⟨h1, h2, h3⟩
      · rintro ⟨h1, h2, h3⟩; exact ⟨h1, h2, Nat.le_refl _, by omega, h3⟩
    cases o with
    | none =>
      subst h2
      simp only [Option.isSome_none, Bool.false_and]
      cases ht : M s.data.toList x f t with
      | false => rfl
      | true =>
        have := ho 0 (t - f)
        rw [(hm 0 (t - f)).2 ⟨rfl, rfl, ht⟩] at this
        cases this
    | some q =>
      subst h2
      obtain ⟨h4, h5, h6⟩ := (hm _ _).1 ho.1
      have h7 := h3
      dsimp only at h7
      rw [h6, h7.1, h7.2, h4, h5]
      simp; omega
theorem span_alloc {V w2 : World} (bb : Below (V.alloc (.cells #[.int .i64 0, .int .i64 0] 29)).heap.size (V.alloc (.cells #[.int .i64 0, .int .i64 0] 29)) w2) :
    w2.cell? ⟨V.heap.size, 0, none⟩ = some (.int .i64 0) ∧ w2.cell? ⟨V.heap.size, 1, none⟩ = some (.int .i64 0) ∧ w2.frozen? ⟨V.heap.size, 0, none⟩ = false ∧ w2.frozen? ⟨V.heap.size, 1, none⟩ = false ∧ V.heap.size < w2.heap.size := by
  have h : V.heap.size < (V.alloc (.cells #[.int .i64 0, .int .i64 0] 29)).heap.size := by simp
  exact ⟨(bb.cell (p := ⟨V.heap.size, 0, none⟩) h).trans (by rw [World.cell?_alloc_new]; rfl), (bb.cell (p := ⟨V.heap.size, 1, none⟩) h).trans (by rw [World.cell?_alloc_new]; rfl), (bb.frozen (p := ⟨V.heap.size, 0, none⟩) h).trans (World.frozen?_alloc_new _ _ _ _), (bb.frozen (p := ⟨V.heap.size, 1, none⟩) h).trans (World.frozen?_alloc_new _ _ _ _), Nat.lt_of_lt_of_le h bb.size⟩
theorem span_alloc_d {V w2 : World} (bb : Below (V.alloc (.cells #[.int .i64 0, .int .i64 0] 29)).drew.heap.size (V.alloc (.cells #[.int .i64 0, .int .i64 0] 29)).drew w2) :
    w2.cell? ⟨V.heap.size, 0, none⟩ = some (.int .i64 0) ∧ w2.cell? ⟨V.heap.size, 1, none⟩ = some (.int .i64 0) ∧ w2.frozen? ⟨V.heap.size, 0, none⟩ = false ∧ w2.frozen? ⟨V.heap.size, 1, none⟩ = false ∧ V.heap.size < w2.heap.size :=
  span_alloc (V := V) ⟨bb.os, bb.tape, bb.output, bb.size, bb.block⟩
theorem span_below {V w2 : World} {B : Nat} (q0 : V.cell? ⟨B, 0, none⟩ = some (.int .i64 0)) (q1 : V.cell? ⟨B, 1, none⟩ = some (.int .i64 0)) (f0 : V.frozen? ⟨B, 0, none⟩ = false) (f1 : V.frozen? ⟨B, 1, none⟩ = false) (h : B < V.heap.size) (bb : Below V.heap.size V w2) :
    w2.cell? ⟨B, 0, none⟩ = some (.int .i64 0) ∧ w2.cell? ⟨B, 1, none⟩ = some (.int .i64 0) ∧ w2.frozen? ⟨B, 0, none⟩ = false ∧ w2.frozen? ⟨B, 1, none⟩ = false ∧ B < w2.heap.size :=
  ⟨(bb.cell (p := ⟨B, 0, none⟩) h).trans q0, (bb.cell (p := ⟨B, 1, none⟩) h).trans q1, (bb.frozen (p := ⟨B, 0, none⟩) h).trans f0, (bb.frozen (p := ⟨B, 1, none⟩) h).trans f1, Nat.lt_of_lt_of_le h bb.size⟩
theorem leafN (W : World) (k : Int) (hk : 1 ≤ k ∧ k ≤ 8) : RexN TT W (.agg #[.int .i64 k, .int .u64 0, .int .u64 0, .int .u64 0, .int .u64 0, .slice none 0 0]) (.mk k noSet []) := rexN_leaf TT W k ⟨0, 0, 0, 0⟩ hk (by unfold FitS; simp)
set_option maxRecDepth 200000 in
set_option maxHeartbeats 8000000 in
theorem first1_any (r : Rx) (x : Ex) (k0 a1 a2 a3 a4 : Int) (o0 : Option Addr) (n0 c0 : Nat) (s : ByteArray) (N f t : Nat) (W : World) (hft : f ≤ t) (hts : t ≤ s.size) (hs : s.size ≤ 300)
    (hx : r = x.rx) (hc : chkR (wholeR x.rx) = 0) (hb : NoBeg x) (he : NoEn x) (hV : RexV W (.agg #[.int .i64 k0, .int .u64 a1, .int .u64 a2, .int .u64 a3, .int .u64 a4, .slice o0 n0 c0]) r) (hT : TZ W)
    (hl : N + 1 < W.heap.size) (y : W.cell? ⟨N, 0, none⟩ = some (.int .i64 k0) ∧ W.cell? ⟨N, 1, none⟩ = some (.int .u64 a1) ∧ W.cell? ⟨N, 2, none⟩ = some (.int .u64 a2) ∧ W.cell? ⟨N, 3, none⟩ = some (.int .u64 a3) ∧ W.cell? ⟨N, 4, none⟩ = some (.int .u64 a4) ∧ W.cell? ⟨N, 5, none⟩ = some (.slice o0 n0 c0))
    (z : W.cell? ⟨N + 1, 0, none⟩ = some (.string s)) :
    Calls Tryd.prog 16 #[.int .i64 f, .int .i64 t, .pointer (some ⟨N, 0, none⟩), .pointer (some ⟨N + 1, 0, none⟩)] W fun e W' => e = .returned (.bool (M s.data.toList x f t)) ∧ Below W.heap.size W W' := by
  obtain ⟨y0, y1, y2, y3, y4, y5⟩ := y
  have hI1 : (0 : Int) ≤ f := by omega
  have hI2 : (f : Int) ≤ t := by omega
  have hI3 : (t : Int) ≤ s.size := by omega
  have HV := hide (fun (V : World) (b : Below W.heap.size W V) => hV.below b)
  have HT := hide (fun (V : World) (b : Below W.heap.size W V) => hT.below hT.lt b)
  have HB : Hid (Below W.heap.size W W.drew) := hide (Below.refl _ _).drew
  have HY : Hid (∀ V, Below W.heap.size W V → V.cell? ⟨N + 1, 0, none⟩ = some (.string s)) := hide (fun V b => (b.cell (p := ⟨N + 1, 0, none⟩) hl).trans z)
  have hlN : N < W.heap.size := by omega
  have HYN : Hid (∀ V, Below W.heap.size W V → V.cell? ⟨N, 0, none⟩ = some (.int .i64 k0) ∧ V.cell? ⟨N, 1, none⟩ = some (.int .u64 a1) ∧ V.cell? ⟨N, 2, none⟩ = some (.int .u64 a2) ∧ V.cell? ⟨N, 3, none⟩ = some (.int .u64 a3) ∧ V.cell? ⟨N, 4, none⟩ = some (.int .u64 a4) ∧ V.cell? ⟨N, 5, none⟩ = some (.slice o0 n0 c0)) := hide (fun V b => ⟨(b.cell (p := ⟨N, 0, none⟩) hlN).trans y0, (b.cell (p := ⟨N, 1, none⟩) hlN).trans y1, (b.cell (p := ⟨N, 2, none⟩) hlN).trans y2, (b.cell (p := ⟨N, 3, none⟩) hlN).trans y3, (b.cell (p := ⟨N, 4, none⟩) hlN).trans y4, (b.cell (p := ⟨N, 5, none⟩) hlN).trans y5⟩)
  have HLP := hide (fun (p : ByteArray) (a b : Int) (is ok : Bool) (hp : p.data.toList = (s.data.toList.drop f).take (t - f)) (h : Fo (wholeR r) p a b is ok) => law_piece hft hts hs hp hc hb he (by rw [← hx]; exact h))
  obtain ⟨mb, hmb⟩ : ∃ mb, M s.data.toList x f t = mb := ⟨_, rfl⟩
  rw [hmb] at HLP ⊢
  have HX := hide hx
  clear hV hT hx hc hb he hmb
  go_enter Tryd.func16, Tryd.ntmps16
  have HL0 := hide hl
  have HEX : Hid ((s.extract f t).data.toList = (s.data.toList.drop f).take (t - f)) := hide (by rw [Lib.extract_data])
  go_wp2_with fail
  go_region_law (first
    | (go_simp; go_at_call_of 12 k0; refine (two_any 4 7 0 0 0 0 none 0 0 (.mk 7 noSet []) k0 a1 a2 a3 a4 o0 n0 c0 r _ (by omega) (leafN _ 7 (by omega)) (by first | exact ((unhide HV) _ (unhide HB)).n | exact ((unhide HV) _ ((unhide HB).alloc (unhide HB).size _)).n)).mono ?_; rintro e WW ⟨g2, rfl, N2, bb⟩; have hb2 : Below W.heap.size W WW := (by first | exact bel_trans (unhide HB) bb | exact bel_trans ((unhide HB).alloc (unhide HB).size _) bb); (try (with_reducible have qq := span_below q0 q1 f0 f1 hlB bb; obtain ⟨q0, q1, f0, f1, hlB⟩ := qq)); (try (with_reducible have qq := span_alloc bb; have hWB := (unhide HB).size; obtain ⟨q0, q1, f0, f1, hlB⟩ := qq)); (try (with_reducible have qq := span_alloc_d bb; have hWB := (unhide HB).size; obtain ⟨q0, q1, f0, f1, hlB⟩ := qq)); (try simp only [World.size_drew] at q0 q1 f0 f1 hlB hWB); obtain ⟨y0, y1, y2, y3, y4, y5⟩ := (unhide HYN) WW hb2; have z := (unhide HY) WW hb2; have hl : N + 1 < WW.heap.size := Nat.lt_of_lt_of_le (unhide HL0) hb2.size; have HN2 := hide N2; clear N2; have HB := hide hb2; clear bb hb2)
    | (go_simp; go_at_call 12; refine (two_any 4 4 0 0 0 0 (some ⟨g2, 0, none⟩) 2 2 _ 8 0 0 0 0 none 0 0 (.mk 8 noSet []) _ (by omega) (by first | exact unhide HN2 | exact (unhide HN2).bel ((Below.refl _ _).alloc (Nat.le_refl _) _)) (leafN _ 8 (by omega))).mono ?_; rintro e WW ⟨g3, rfl, N3, bb⟩; have hb2 : Below W.heap.size W WW := (by first | exact bel_trans (unhide HB) bb | exact bel_trans ((unhide HB).alloc (unhide HB).size _) bb); (try (with_reducible have qq := span_below q0 q1 f0 f1 hlB bb; obtain ⟨q0, q1, f0, f1, hlB⟩ := qq)); (try (with_reducible have qq := span_alloc bb; have hWB := (unhide HB).size; obtain ⟨q0, q1, f0, f1, hlB⟩ := qq)); (try (with_reducible have qq := span_alloc_d bb; have hWB := (unhide HB).size; obtain ⟨q0, q1, f0, f1, hlB⟩ := qq)); (try simp only [World.size_drew] at q0 q1 f0 f1 hlB hWB); obtain ⟨y0, y1, y2, y3, y4, y5⟩ := (unhide HYN) WW hb2; have z := (unhide HY) WW hb2; have hl : N + 1 < WW.heap.size := Nat.lt_of_lt_of_le (unhide HL0) hb2.size; have HN3 : Hid (RexN TT WW _ (wholeR r)) := hide N3; clear N3; have HB := hide hb2; clear bb hb2)
    | (go_simp; go_at_call 11; refine (found_any (wholeR r) _ _ _ (by first | exact (unhide HN3).rexV | exact ((unhide HN3).bel ((Below.refl _ _).alloc (Nat.le_refl _) _)).rexV) (by first | exact (unhide HT) _ (unhide HB) | exact (unhide HT) _ ((unhide HB).alloc (unhide HB).size _))).mono ?_; rintro e WW ⟨fa, fb, fi, fk, rfl, hfo, bb⟩; have hb2 : Below W.heap.size W WW := (by first | exact bel_trans (unhide HB) bb | exact bel_trans ((unhide HB).alloc (unhide HB).size _) bb); (try (with_reducible have qq := span_below q0 q1 f0 f1 hlB bb; obtain ⟨q0, q1, f0, f1, hlB⟩ := qq)); (try (with_reducible have qq := span_alloc bb; have hWB := (unhide HB).size; obtain ⟨q0, q1, f0, f1, hlB⟩ := qq)); (try (with_reducible have qq := span_alloc_d bb; have hWB := (unhide HB).size; obtain ⟨q0, q1, f0, f1, hlB⟩ := qq)); (try simp only [World.size_drew] at q0 q1 f0 f1 hlB hWB); obtain ⟨y0, y1, y2, y3, y4, y5⟩ := (unhide HYN) WW hb2; have z := (unhide HY) WW hb2; have hl : N + 1 < WW.heap.size := Nat.lt_of_lt_of_le (unhide HL0) hb2.size; have HFO := hide hfo; clear hfo; unfold spanV; have HB := hide hb2; clear bb hb2))
  all_goals (
    have hM := (unhide HLP) _ fa fb fi fk (unhide HEX) (unhide HFO)
    clear y0 y1 y2 y3 y4 y5 z HY HYN HLP HFO
    cases fi
    · rw [Bool.false_and] at hM
      subst hM
      go_wp2_with fail
      go_ret
      refine ⟨rfl, ?_⟩
      first
        | exact (unhide HB).alloc (unhide HB).size _
        | exact ((unhide HB).setCell (p := ⟨_, 0, none⟩) hWB _).setCell (p := ⟨_, 1, none⟩) hWB _
    · rw [Bool.true_and] at hM
      cases hE1 : (fa == 0)
      · rw [hE1, Bool.false_and] at hM
        subst hM
        go_wp2_with fail
        go_ret
        refine ⟨rfl, ?_⟩
        first
          | exact (unhide HB).alloc (unhide HB).size _
          | exact ((unhide HB).setCell (p := ⟨_, 0, none⟩) hWB _).setCell (p := ⟨_, 1, none⟩) hWB _
      · rw [hE1, Bool.true_and] at hM
        cases hE2 : (fb == (t : Int) - f)
        · rw [hE2] at hM
          subst hM
          go_wp2_with fail
          go_ret
          refine ⟨rfl, ?_⟩
          first
            | exact (unhide HB).alloc (unhide HB).size _
            | exact ((unhide HB).setCell (p := ⟨_, 0, none⟩) hWB _).setCell (p := ⟨_, 1, none⟩) hWB _
        · rw [hE2] at hM
          subst hM
          go_wp2_with fail
          go_ret
          refine ⟨rfl, ?_⟩
          first
            | exact (unhide HB).alloc (unhide HB).size _
            | exact ((unhide HB).setCell (p := ⟨_, 0, none⟩) hWB _).setCell (p := ⟨_, 1, none⟩) hWB _)
end Go.Proofs.YtjecopdbcaojcaaDoor
