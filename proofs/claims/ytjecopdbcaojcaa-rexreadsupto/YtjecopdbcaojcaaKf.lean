/- The program's sets of many bytes: union, wordSigns. -/
import Derived.Test.YtjecopdbcaojcaaKe
import Derived.Laws.ResultCell
namespace Go.Proofs.Ytjecopdbcaojcaa
open Go.RowKit Kb
set_option linter.unusedVariables false
set_option maxRecDepth 20000

/-- two results, the first in a block of its own -/
theorem results_ct {fn : Func} {p u : Tmp} {ty : TypeId} (h : fn.results = #[.cell p ty, .tmp u]) (tmps : Array Value) (w : World) (g : Nat) (cs : Array Value)
    (hp : tmps.getD p undef = .pointer (some ⟨g, 0, none⟩)) (hl : (loadVar ty ⟨g, 0, none⟩).run Try.prog w = .ok (.agg cs) w) (x : Value) (hx : tmps.getD u undef = x) :
    (results fn tmps).run Try.prog w = .ok (.tuple #[.agg cs, x]) w := by
  rw [results_cell_tmp h, hp, hx]
  simp [asAddr, hl]
theorem load_set {w : World} {g : Nat} {fr : Nat × Nat} {s1 s2 s3 s4 : Int} (hh : w.heap[g]? = some (.cells #[.int .u64 s1, .int .u64 s2, .int .u64 s3, .int .u64 s4] 24 fr)) : (loadVar 24 ⟨g, 0, none⟩).run Try.prog w = .ok (.agg #[.int .u64 s1, .int .u64 s2, .int .u64 s3, .int .u64 s4]) w :=
  run_loadVar_row w g 24 24 #[.int .u64 s1, .int .u64 s2, .int .u64 s3, .int .u64 s4] fr _ hh Try.underlying24 rfl (by kernel_rfl)
def orW (x y : Int) : Int := ((x.toNat ||| y.toNat : Nat) : Int)
theorem or_words {x y : Int} (hx : 0 ≤ x ∧ x ≤ 18446744073709551615) (hy : 0 ≤ y ∧ y ≤ 18446744073709551615) : bits .or .u64 x y = orW x y ∧ 0 ≤ orW x y ∧ orW x y ≤ 18446744073709551615 := by
  obtain ⟨n, rfl⟩ : ∃ n : Nat, x = n := ⟨x.toNat, by omega⟩
  obtain ⟨m, rfl⟩ : ∃ m : Nat, y = m := ⟨y.toNat, by omega⟩
  have := Nat.or_lt_two_pow (n := 64) (x := n) (y := m) (by omega) (by omega)
  unfold orW
  rw [bits_or_u64_nat n m (by omega) (by omega)]
  refine ⟨by simp, ?_⟩
  simp only [Int.toNat_natCast]
  omega
def orS (s t : Se) : Se := ⟨orW s.a t.a, orW s.b t.b, orW s.c t.c, orW s.d t.d⟩
theorem orS_fit {s t : Se} (hs : FitS s) (ht : FitS t) : FitS (orS s t) := ⟨(or_words hs.1 ht.1).2, (or_words hs.2.1 ht.2.1).2, (or_words hs.2.2.1 ht.2.2.1).2, (or_words hs.2.2.2 ht.2.2.2).2⟩
theorem orS_bit {s t : Se} (hs : FitS s) (ht : FitS t) (b : Nat) (hb : b < 256) : bit (orS s t) b = (bit s b || bit t b) := by
  have h4 : b / 64 < 4 := by omega
  have e : wordS (orS s t) (b / 64) = orW (wordS s (b / 64)) (wordS t (b / 64)) := by
    match b / 64, h4 with
    | 0, _ => rfl
    | 1, _ => rfl
    | 2, _ => rfl
    | 3, _ => rfl
  unfold bit
  rw [e]
  unfold orW
  rw [Int.toNat_natCast, Nat.testBit_or]
theorem three_boxes (w : World) (s t : Se) : ∃ W0, (((w.alloc (.cells #[.int .u64 s.a, .int .u64 s.b, .int .u64 s.c, .int .u64 s.d] 24)).alloc (.cells #[.int .u64 t.a, .int .u64 t.b, .int .u64 t.c, .int .u64 t.d] 24)).alloc (.cells #[.int .u64 0, .int .u64 0, .int .u64 0, .int .u64 0] 24)) = W0 ∧ Below w.heap.size w W0 ∧ W0.ownsRow w.heap.size 24 4 (.slice (some ⟨w.heap.size, 0, none⟩) 1 1) 1 (cellsW s) ∧ W0.ownsRow w.heap.size 24 4 (.slice (some ⟨w.heap.size + 1, 0, none⟩) 1 1) 1 (cellsW t) ∧ W0.ownsRow w.heap.size 24 4 (.slice (some ⟨w.heap.size + 1 + 1, 0, none⟩) 1 1) 1 (cellsW ⟨0, 0, 0, 0⟩) := by
  have lit : ∀ (W : World) (g : Nat) (s : Se), W.heap.size = g → w.heap.size ≤ g → (W.alloc (.cells #[.int .u64 s.a, .int .u64 s.b, .int .u64 s.c, .int .u64 s.d] 24)).ownsRow w.heap.size 24 4 (.slice (some ⟨g, 0, none⟩) 1 1) 1 (cellsW s) := by
    intro W g s hg hw
    subst hg
    exact World.ownsRow_lit (e := 24) (size := 4) (base := w.heap.size) W #[.int .u64 s.a, .int .u64 s.b, .int .u64 s.c, .int .u64 s.d] 1 hw (by unfold maxLen; omega) rfl
  refine ⟨_, rfl, (((Below.refl _ _).alloc (Nat.le_refl _) _).alloc (by simp) _).alloc (by simp; omega) _, ((lit w _ s rfl (Nat.le_refl _)).alloc _).alloc _, (lit _ _ t (by simp) (by omega)).alloc _, lit _ _ ⟨0, 0, 0, 0⟩ (by simp) (by omega)⟩
set_option maxHeartbeats 2000000 in
theorem union_any (s t : Se) (w : World) (hs : FitS s) (ht : FitS t) :
    Calls Try.prog 61 #[setV s, setV t] w fun e w' => e = .returned (setV (orS s t)) ∧ Below w.heap.size w w' := by
  obtain ⟨W0, hW0, hbx, hA, hT, hR⟩ := three_boxes w s t
  have o1 := (or_words hs.1 ht.1).1
  have o2 := (or_words hs.2.1 ht.2.1).1
  have o3 := (or_words hs.2.2.1 ht.2.2.1).1
  have o4 := (or_words hs.2.2.2 ht.2.2.2).1
  obtain ⟨s1, s2, s3, s4⟩ := s
  obtain ⟨t1, t2, t3, t4⟩ := t
  unfold FitS at hs ht
  unfold setV orS
  dsimp only at *
  generalize orW s1 t1 = q1 at *
  generalize orW s2 t2 = q2 at *
  generalize orW s3 t3 = q3 at *
  generalize orW s4 t4 = q4 at *
  have HBX := hide hbx
  have HA := hide hA
  have HT := hide hT
  have HR := hide hR
  have O1 := hide o1
  have O2 := hide o2
  have O3 := hide o3
  have O4 := hide o4
  clear hbx hA hT hR o1 o2 o3 o4
  go_enter Try.func61, Try.ntmps61
  go_wp2_with fail
  clear hW0
  go_loopw [6] (fun x wr => ∃ i : Nat, x = .int .i64 i ∧ i ≤ 4 ∧ Below w.heap.size w wr ∧ wr.ownsRow w.heap.size 24 4 (.slice (some ⟨w.heap.size, 0, none⟩) 1 1) 1 (cellsW ⟨if 0 < i then q1 else s1, if 1 < i then q2 else s2, if 2 < i then q3 else s3, if 3 < i then q4 else s4⟩) ∧ wr.ownsRow w.heap.size 24 4 (.slice (some ⟨w.heap.size + 1, 0, none⟩) 1 1) 1 (cellsW ⟨t1, t2, t3, t4⟩) ∧ wr.ownsRow w.heap.size 24 4 (.slice (some ⟨w.heap.size + 1 + 1, 0, none⟩) 1 1) 1 (cellsW ⟨0, 0, 0, 0⟩)) (fun x _ => 4 - (intOf x).toNat)
  case atStart => exact ⟨0, rfl, by omega, unhide HBX, unhide HA, unhide HT, unhide HR⟩
  case round =>
    clear HBX HA HT HR
    obtain ⟨i, rfl, hi, hb, ha, htt, hr⟩ := hrel
    have B := hide hb
    have RO := hide ha
    have TT := hide htt
    have BOX := hide hr
    clear hb hr htt ha
    by_cases hlt : i < 4
    · have h4 : i = 0 ∨ i = 1 ∨ i = 2 ∨ i = 3 := by omega
      rcases h4 with rfl | rfl | rfl | rfl
      · replace RO : Hid (wr.ownsRow w.heap.size 24 4 (.slice (some ⟨w.heap.size, 0, none⟩) 1 1) 1 (cellsW ⟨s1, s2, s3, s4⟩)) := RO
        have c0 := (unhide RO).cellAt 0 (by omega)
        have d0 := (unhide TT).cellAt 0 (by omega)
        have f0 := (unhide RO).frozenAt 0
        simp only [cellsW] at c0 d0
        obtain ⟨sR, gR⟩ := (unhide RO).stored 0 (.int .u64 q1)
        have SR := hide sR.drew
        have B2 := hide ((unhide B).grown gR (unhide B).size (fun q hq => by cases hq; exact Nat.le_refl _)).drew
        have TT2 := hide ((unhide TT).kept gR (.inr (by simp [Value.ownBlock]))).drew
        have BX2 := hide ((unhide BOX).kept gR (.inr (by simp [Value.ownBlock]; omega))).drew
        clear sR gR
        go_wp2_with fail
        go_region
        rw [unhide O1]
        go_wp2_with fail
        exact ⟨⟨1, rfl, by omega, unhide B2, unhide SR, unhide TT2, unhide BX2⟩, by simp [intOf]⟩
      · replace RO : Hid (wr.ownsRow w.heap.size 24 4 (.slice (some ⟨w.heap.size, 0, none⟩) 1 1) 1 (cellsW ⟨q1, s2, s3, s4⟩)) := RO
        have c0 := (unhide RO).cellAt 1 (by omega)
        have d0 := (unhide TT).cellAt 1 (by omega)
        have f0 := (unhide RO).frozenAt 1
        simp only [cellsW] at c0 d0
        obtain ⟨sR, gR⟩ := (unhide RO).stored 1 (.int .u64 q2)
        have SR := hide sR.drew
        have B2 := hide ((unhide B).grown gR (unhide B).size (fun q hq => by cases hq; exact Nat.le_refl _)).drew
        have TT2 := hide ((unhide TT).kept gR (.inr (by simp [Value.ownBlock]))).drew
        have BX2 := hide ((unhide BOX).kept gR (.inr (by simp [Value.ownBlock]; omega))).drew
        clear sR gR
        go_wp2_with fail
        go_region
        rw [unhide O2]
        go_wp2_with fail
        exact ⟨⟨2, rfl, by omega, unhide B2, unhide SR, unhide TT2, unhide BX2⟩, by simp [intOf]⟩
      · replace RO : Hid (wr.ownsRow w.heap.size 24 4 (.slice (some ⟨w.heap.size, 0, none⟩) 1 1) 1 (cellsW ⟨q1, q2, s3, s4⟩)) := RO
        have c0 := (unhide RO).cellAt 2 (by omega)
        have d0 := (unhide TT).cellAt 2 (by omega)
        have f0 := (unhide RO).frozenAt 2
        simp only [cellsW] at c0 d0
        obtain ⟨sR, gR⟩ := (unhide RO).stored 2 (.int .u64 q3)
        have SR := hide sR.drew
        have B2 := hide ((unhide B).grown gR (unhide B).size (fun q hq => by cases hq; exact Nat.le_refl _)).drew
        have TT2 := hide ((unhide TT).kept gR (.inr (by simp [Value.ownBlock]))).drew
        have BX2 := hide ((unhide BOX).kept gR (.inr (by simp [Value.ownBlock]; omega))).drew
        clear sR gR
        go_wp2_with fail
        go_region
        rw [unhide O3]
        go_wp2_with fail
        exact ⟨⟨3, rfl, by omega, unhide B2, unhide SR, unhide TT2, unhide BX2⟩, by simp [intOf]⟩
      · replace RO : Hid (wr.ownsRow w.heap.size 24 4 (.slice (some ⟨w.heap.size, 0, none⟩) 1 1) 1 (cellsW ⟨q1, q2, q3, s4⟩)) := RO
        have c0 := (unhide RO).cellAt 3 (by omega)
        have d0 := (unhide TT).cellAt 3 (by omega)
        have f0 := (unhide RO).frozenAt 3
        simp only [cellsW] at c0 d0
        obtain ⟨sR, gR⟩ := (unhide RO).stored 3 (.int .u64 q4)
        have SR := hide sR.drew
        have B2 := hide ((unhide B).grown gR (unhide B).size (fun q hq => by cases hq; exact Nat.le_refl _)).drew
        have TT2 := hide ((unhide TT).kept gR (.inr (by simp [Value.ownBlock]))).drew
        have BX2 := hide ((unhide BOX).kept gR (.inr (by simp [Value.ownBlock]; omega))).drew
        clear sR gR
        go_wp2_with fail
        go_region
        rw [unhide O4]
        go_wp2_with fail
        exact ⟨⟨4, rfl, by omega, unhide B2, unhide SR, unhide TT2, unhide BX2⟩, by simp [intOf]⟩
    · obtain rfl : i = 4 := by omega
      replace RO : Hid (wr.ownsRow w.heap.size 24 4 (.slice (some ⟨w.heap.size, 0, none⟩) 1 1) 1 (cellsW ⟨q1, q2, q3, q4⟩)) := RO
      have c0 := (unhide RO).cellAt 0 (by omega)
      have c1 := (unhide RO).cellAt 1 (by omega)
      have c2 := (unhide RO).cellAt 2 (by omega)
      have c3 := (unhide RO).cellAt 3 (by omega)
      have r0 := (unhide BOX).cellAt 0 (by omega)
      have r1 := (unhide BOX).cellAt 1 (by omega)
      have r2 := (unhide BOX).cellAt 2 (by omega)
      have r3 := (unhide BOX).cellAt 3 (by omega)
      have f0 := (unhide BOX).frozenAt 0
      have f1 := (unhide BOX).frozenAt 1
      have f2 := (unhide BOX).frozenAt 2
      have f3 := (unhide BOX).frozenAt 3
      simp only [cellsW] at c0 c1 c2 c3 r0 r1 r2 r3
      go_wp2_with fail
      obtain ⟨B9, fr, hh⟩ := ret_set4 (unhide B) (show w.heap.size ≤ w.heap.size + 1 + 1 by omega) (unhide BOX) q1 q2 q3 q4
      refine bodyPost_ret_by (v := setV ⟨q1, q2, q3, q4⟩) ?_ rfl ⟨rfl, B9⟩
      exact results_cell_row (ty := 24) rfl _ _ (w.heap.size + 1 + 1) _ #[.int .u64 q1, .int .u64 q2, .int .u64 q3, .int .u64 q4] fr _ rfl hh Try.underlying24 rfl (by kernel_rfl)
end Go.Proofs.Ytjecopdbcaojcaa
