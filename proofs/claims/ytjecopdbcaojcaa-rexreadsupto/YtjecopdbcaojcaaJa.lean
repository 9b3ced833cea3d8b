/- The program's sets of bytes: has, size, others, with, only; how many bits a word has. -/
import Derived.Test.YtjecopdbcaojcaaHd
import Derived.Test.YtjecopdbcaojcaaHj
import Derived.Laws.Bits64
namespace Go.Proofs.Ytjecopdbcaojcaa
open Go.RowKit Kb Pop
set_option linter.unusedVariables false
set_option maxRecDepth 20000

theorem and_int {x : Int} (h : 0 ≤ x ∧ x ≤ 18446744073709551615) (k : Nat) : (bits .and .u64 (x / 2 ^ k) 1 == 1) = x.toNat.testBit k := by
  obtain ⟨n, rfl⟩ : ∃ n : Nat, x = n := ⟨x.toNat, by omega⟩
  have e : ((n : Int) / 2 ^ k) = ((n / 2 ^ k : Nat) : Int) := by simp
  have hl : n / 2 ^ k ≤ n := Nat.div_le_self _ _
  have : bits .and .u64 ((n / 2 ^ k : Nat) : Int) ((1 : Nat) : Int) = ((n / 2 ^ k &&& 1 : Nat) : Int) := bits_and_u64_nat _ _ (by omega) (by omega)
  rw [e, show (1 : Int) = ((1 : Nat) : Int) from rfl, this, Int.toNat_natCast, Nat.testBit_eq_decide_div_mod_eq, Bool.eq_iff_iff, beq_iff_eq, decide_eq_true_iff, Nat.and_one_is_mod]
  omega
theorem wraps63' (n : Int) (h0 : 0 ≤ n) (h1 : n < 2 ^ 63) : IntKind.i64.wrap n = n := by
  apply Kb.wr64 <;> omega
theorem and127 (y : Int) (h0 : 0 ≤ y) (h1 : y < 9223372036854775808) : bits BinOp.and IntKind.i64 y 127 = y % 128 := by
  have := bits_mask .i64 63 (by decide) wraps63' 7 (by decide) y h0 (by simpa using h1)
  simpa using this
set_option maxHeartbeats 400000 in
theorem ones_any (x : Nat) (w : World) (hx : x < 18446744073709551616) :
    Calls Try.prog 77 #[.int .u64 x] w fun e w' => e = .returned (.int .i64 (cntN (fun j => x.testBit j) 64)) ∧ w' = w := by
  obtain ⟨C, hC⟩ : ∃ C, cntN (fun j => x.testBit j) 64 = C := ⟨_, rfl⟩
  have HPC : Hid (pop 8 x = C) := hide ((pop_cnt 8 x).trans hC)
  rw [hC]
  clear hC
  have wu : ∀ n : Nat, n < 18446744073709551616 → IntKind.u64.wrap (n : Int) = n := fun n hn => by rw [IntKind.wrap_u64]; omega
  have m1 : msk 85 8 = 6148914691236517205 := by decide +kernel
  have m2 : msk 51 8 = 3689348814741910323 := by decide +kernel
  have m3 : msk 15 8 = 1085102592571150095 := by decide +kernel
  obtain ⟨y1, hy1⟩ : ∃ y, s1 8 x = y := ⟨_, rfl⟩
  obtain ⟨y2, hy2⟩ : ∃ y, s2 8 y1 = y := ⟨_, rfl⟩
  obtain ⟨y3, hy3⟩ : ∃ y, s3 8 y2 = y := ⟨_, rfl⟩
  have b1 : y1 ≤ 12297829382473034410 := by
    rw [← hy1]; unfold s1; rw [m1]
    have := Nat.and_le_right (n := x / 2) (m := 6148914691236517205)
    have := Nat.and_le_right (n := x) (m := 6148914691236517205)
    omega
  have b2 : y2 ≤ 7378697629483820646 := by
    rw [← hy2]; unfold s2; rw [m2]
    have := Nat.and_le_right (n := y1 / 4) (m := 3689348814741910323)
    have := Nat.and_le_right (n := y1) (m := 3689348814741910323)
    omega
  have b3 : y3 ≤ 1085102592571150095 := by
    rw [← hy3]; unfold s3; rw [m3]; exact Nat.and_le_right
  have an : ∀ a b : Nat, a < 18446744073709551616 → b < 18446744073709551616 → bits .and .u64 (a : Int) (b : Int) = ((a &&& b : Nat) : Int) := fun a b ha hb => bits_and_u64_nat a b ha hb
  have e1 : IntKind.u64.wrap (bits .and .u64 ((x : Int) / 2) 6148914691236517205 + bits .and .u64 (x : Int) 6148914691236517205) = (y1 : Int) := by
    have h1 := an (x / 2) 6148914691236517205 (by omega) (by omega)
    have h2 := an x 6148914691236517205 (by omega) (by omega)
    rw [show (x : Int) / 2 = ((x / 2 : Nat) : Int) by omega, show (6148914691236517205 : Int) = ((6148914691236517205 : Nat) : Int) from rfl, h1, h2, ← Int.natCast_add]
    have : (x / 2 &&& 6148914691236517205) + (x &&& 6148914691236517205) = y1 := by rw [← hy1, s1, m1]
    rw [this, wu _ (by omega)]
  have e2 : IntKind.u64.wrap (bits .and .u64 ((y1 : Int) / 4) 3689348814741910323 + bits .and .u64 (y1 : Int) 3689348814741910323) = (y2 : Int) := by
    have h1 := an (y1 / 4) 3689348814741910323 (by omega) (by omega)
    have h2 := an y1 3689348814741910323 (by omega) (by omega)
    rw [show (y1 : Int) / 4 = ((y1 / 4 : Nat) : Int) by omega, show (3689348814741910323 : Int) = ((3689348814741910323 : Nat) : Int) from rfl, h1, h2, ← Int.natCast_add]
    have : (y1 / 4 &&& 3689348814741910323) + (y1 &&& 3689348814741910323) = y2 := by rw [← hy2, s2, m2]
    rw [this, wu _ (by omega)]
  have e3 : bits .and .u64 (IntKind.u64.wrap ((y2 : Int) / 16 + (y2 : Int))) 1085102592571150095 = (y3 : Int) := by
    have h1 := an (y2 / 16 + y2) 1085102592571150095 (by omega) (by omega)
    rw [show (y2 : Int) / 16 + (y2 : Int) = ((y2 / 16 + y2 : Nat) : Int) by omega, wu _ (by omega), show (1085102592571150095 : Int) = ((1085102592571150095 : Nat) : Int) from rfl, h1]
    rw [← hy3, s3, m3]
  have hfold := fold x hx y3 (by rw [hy1, hy2, hy3])
  rw [unhide HPC] at hfold
  clear HPC hy1 hy2 hy3 m1 m2 m3
  obtain ⟨z, hz⟩ : ∃ z, y3 + y3 / 256 = z := ⟨_, rfl⟩
  rw [hz] at hfold
  obtain ⟨u, hu⟩ : ∃ u, z + z / 65536 = u := ⟨_, rfl⟩
  rw [hu] at hfold
  obtain ⟨t, ht⟩ : ∃ t, u + u / 4294967296 = t := ⟨_, rfl⟩
  rw [ht] at hfold
  have e4 : IntKind.u64.wrap ((y3 : Int) + (y3 : Int) / 256) = (z : Int) := by
    rw [show (y3 : Int) + (y3 : Int) / 256 = (z : Int) by omega, wu _ (by omega)]
  have e5 : IntKind.u64.wrap ((z : Int) + (z : Int) / 65536) = (u : Int) := by
    rw [show (z : Int) + (z : Int) / 65536 = (u : Int) by omega, wu _ (by omega)]
  have e6 : IntKind.u64.wrap ((u : Int) + (u : Int) / 4294967296) = (t : Int) := by
    rw [show (u : Int) + (u : Int) / 4294967296 = (t : Int) by omega, wu _ (by omega)]
  have e7 : wrap64 (t : Int) = (t : Int) := by unfold wrap64; omega
  have e8 : bits .and .i64 (t : Int) 127 = (C : Int) := by
    clear e1 e2 e3 e4 e5 e6 e7 an wu
    have h1 : (t : Int) < 9223372036854775808 := by omega
    have h2 : (t : Int) % 128 = C := by omega
    exact (and127 t (Int.natCast_nonneg t) h1).trans h2
  have E1 := hide e1
  have E2 := hide e2
  have E3 := hide e3
  have E4 := hide e4
  have E5 := hide e5
  have E6 := hide e6
  have E7 := hide e7
  have E8 := hide e8
  clear e1 e2 e3 e4 e5 e6 e7 e8 hfold hz hu ht b1 b2 b3 an wu
  go_enter Try.func77, Try.ntmps77
  go_wp2_with fail
  rw [unhide E1, unhide E2, unhide E3, unhide E4, unhide E5, unhide E6]
  go_ret
  refine ⟨?_, rfl⟩
  show Ending.returned (.int .i64 (bits .and .i64 (wrap64 (t : Int)) 127)) = _
  rw [unhide E7, unhide E8]
/-- how many bytes a set has -/
def cntS (s : Se) : Nat := cntN (bit s) 256
theorem bit_word (s : Se) (i : Nat) (hi : i < 4) (j : Nat) (hj : j < 64) : bit s (64 * i + j) = (wordS s i).toNat.testBit j := by
  unfold bit
  rw [show (64 * i + j) / 64 = i by omega, show (64 * i + j) % 64 = j by omega]
theorem cntS_words (s : Se) (i : Nat) (hi : i < 4) : cntN (bit s) (64 * (i + 1)) = cntN (bit s) (64 * i) + cntN (fun j => (wordS s i).toNat.testBit j) 64 := by
  rw [show 64 * (i + 1) = 64 * i + 64 by omega, cntN_add]
  congr 1
  exact cntN_congr fun j hj => bit_word s i hi j hj
theorem ixs0 (a b c d : Int) : ∀ w, (Instr.index 24 (.agg #[.int .u64 a, .int .u64 b, .int .u64 c, .int .u64 d]) (.int .i64 0)).run Try.prog w = .ok (.int .u64 a) w := fun w => by kernel_rfl
theorem ixs1 (a b c d : Int) : ∀ w, (Instr.index 24 (.agg #[.int .u64 a, .int .u64 b, .int .u64 c, .int .u64 d]) (.int .i64 1)).run Try.prog w = .ok (.int .u64 b) w := fun w => by kernel_rfl
theorem ixs2 (a b c d : Int) : ∀ w, (Instr.index 24 (.agg #[.int .u64 a, .int .u64 b, .int .u64 c, .int .u64 d]) (.int .i64 2)).run Try.prog w = .ok (.int .u64 c) w := fun w => by kernel_rfl
theorem ixs3 (a b c d : Int) : ∀ w, (Instr.index 24 (.agg #[.int .u64 a, .int .u64 b, .int .u64 c, .int .u64 d]) (.int .i64 3)).run Try.prog w = .ok (.int .u64 d) w := fun w => by kernel_rfl
set_option maxHeartbeats 1000000 in
theorem size_any (s : Se) (w : World) (hf : FitS s) :
    Calls Try.prog 63 #[setV s] w fun e w' => e = .returned (.int .i64 (cntS s)) ∧ Below w.heap.size w w' := by
  have HF := hide hf
  have HCS := hide (cntS_words s)
  have HON : Hid (∀ (i : Nat) (W : World), i < 4 → ∃ c : Nat, c ≤ 64 ∧ cntN (bit s) (64 * (i + 1)) = cntN (bit s) (64 * i) + c ∧ Calls Try.prog 77 #[.int .u64 (wordS s i)] W fun e w' => e = .returned (.int .i64 c) ∧ w' = W) := hide (fun i W hi => by
    have hx := wordS_fit hf i hi
    have h := ones_any (wordS s i).toNat W (by omega)
    rw [Int.toNat_of_nonneg hx.1] at h
    exact ⟨_, cntN_le _ 64, cntS_words s i hi, h⟩)
  obtain ⟨C, hC⟩ : ∃ C, cntS s = C := ⟨_, rfl⟩
  rw [hC]
  have HCN : Hid (cntN (bit s) (64 * 4) = C) := hide hC
  clear hC
  obtain ⟨s1, s2, s3, s4⟩ := s
  unfold FitS at hf
  unfold setV
  dsimp only at *
  have BB : Hid (Below w.heap.size w (w.alloc (.cells #[.int .u64 s1, .int .u64 s2, .int .u64 s3, .int .u64 s4] 24))) := hide ((Below.refl _ _).alloc (Nat.le_refl _) _)
  go_enter Try.func63, Try.ntmps63
  go_wp2_with fail
  obtain ⟨W0, hW0⟩ : ∃ W0, w.alloc (.cells #[.int .u64 s1, .int .u64 s2, .int .u64 s3, .int .u64 s4] 24) = W0 := ⟨_, rfl⟩
  rw [hW0] at BB ⊢
  clear hW0 HF HCS
  go_loopw [7, 3] (fun x y wr => ∃ i m : Nat, x = .int .i64 i ∧ i ≤ 4 ∧ y = .int .i64 m ∧ m = cntN (bit ⟨s1, s2, s3, s4⟩) (64 * i) ∧ wr = W0) (fun x _ _ => 4 - (intOf x).toNat)
  case atStart => exact ⟨0, 0, rfl, by omega, rfl, rfl, rfl⟩
  case round =>
    obtain ⟨i, m, rfl, hi, rfl, hm, rfl⟩ := hrel
    have hle := cntN_le (bit ⟨s1, s2, s3, s4⟩) (64 * i)
    rw [← hm] at hle
    have HM := hide hm
    clear hm
    by_cases hlt : i < 4
    · obtain ⟨c, hc, hcs, hO⟩ := (unhide HON) i wr hlt
      rw [← unhide HM] at hcs
      have HS := hide hcs
      have HO := hide hO
      clear hcs hO HM HON HCN
      have h4 : i = 0 ∨ i = 1 ∨ i = 2 ∨ i = 3 := by omega
      rcases h4 with rfl | rfl | rfl | rfl
      · dsimp only [wordS] at HO
        have i0 := ixs0 s1 s2 s3 s4
        have i1 := ixs1 s1 s2 s3 s4
        have i2 := ixs2 s1 s2 s3 s4
        have i3 := ixs3 s1 s2 s3 s4
        go_wp2_with fail
        refine (unhide HO).mono ?_
        rintro e wx ⟨rfl, hwx⟩; rw [hwx]; clear hwx wx
        go_wp2_with fail
        refine ⟨⟨1, m + c, rfl, by omega, by go_num, (unhide HS).symm, trivial⟩, by simp [intOf]⟩
      · dsimp only [wordS] at HO
        have i0 := ixs0 s1 s2 s3 s4
        have i1 := ixs1 s1 s2 s3 s4
        have i2 := ixs2 s1 s2 s3 s4
        have i3 := ixs3 s1 s2 s3 s4
        go_wp2_with fail
        refine (unhide HO).mono ?_
        rintro e wx ⟨rfl, hwx⟩; rw [hwx]; clear hwx wx
        go_wp2_with fail
        refine ⟨⟨2, m + c, rfl, by omega, by go_num, (unhide HS).symm, trivial⟩, by simp [intOf]⟩
      · dsimp only [wordS] at HO
        have i0 := ixs0 s1 s2 s3 s4
        have i1 := ixs1 s1 s2 s3 s4
        have i2 := ixs2 s1 s2 s3 s4
        have i3 := ixs3 s1 s2 s3 s4
        go_wp2_with fail
        refine (unhide HO).mono ?_
        rintro e wx ⟨rfl, hwx⟩; rw [hwx]; clear hwx wx
        go_wp2_with fail
        refine ⟨⟨3, m + c, rfl, by omega, by go_num, (unhide HS).symm, trivial⟩, by simp [intOf]⟩
      · dsimp only [wordS] at HO
        have i0 := ixs0 s1 s2 s3 s4
        have i1 := ixs1 s1 s2 s3 s4
        have i2 := ixs2 s1 s2 s3 s4
        have i3 := ixs3 s1 s2 s3 s4
        go_wp2_with fail
        refine (unhide HO).mono ?_
        rintro e wx ⟨rfl, hwx⟩; rw [hwx]; clear hwx wx
        go_wp2_with fail
        refine ⟨⟨4, m + c, rfl, by omega, by go_num, (unhide HS).symm, trivial⟩, by simp [intOf]⟩
    · obtain rfl : i = 4 := by omega
      have HE : Hid (m = C) := hide ((unhide HM).trans (unhide HCN))
      clear HM HCN HON
      go_wp2_with fail
      go_ret
      rw [unhide HE]
      exact ⟨rfl, unhide BB⟩
theorem xor_all {x : Int} (h : 0 ≤ x ∧ x ≤ 18446744073709551615) : 0 ≤ 18446744073709551615 - x ∧ 18446744073709551615 - x ≤ 18446744073709551615 := by omega
theorem not_bit (n j : Nat) (hn : n < 18446744073709551616) (hj : j < 64) : (18446744073709551615 - n).testBit j = !n.testBit j := by
  have := Nat.testBit_two_pow_sub_succ (x := n) (n := 64) (by simpa using hn) j
  rw [show 2 ^ 64 - (n + 1) = 18446744073709551615 - n by omega] at this
  rw [this, decide_eq_true hj, Bool.true_and]
theorem xor_max {x : Int} (h : 0 ≤ x ∧ x ≤ 18446744073709551615) : bits BinOp.xor IntKind.u64 (if IntKind.u64.signed = true then -1 else IntKind.u64.max) x = 18446744073709551615 - x := by
  obtain ⟨n, rfl⟩ : ∃ n : Nat, x = n := ⟨x.toNat, by omega⟩
  have e : (if IntKind.u64.signed = true then -1 else IntKind.u64.max : Int) = ((18446744073709551615 : Nat) : Int) := by decide
  rw [e, bits_xor_u64_nat _ n (by omega) (by omega)]
  have : 18446744073709551615 ^^^ n = 18446744073709551615 - n := by
    apply Nat.eq_of_testBit_eq
    intro j
    rw [Nat.testBit_xor]
    by_cases hj : j < 64
    · rw [not_bit n j (by omega) hj, show (18446744073709551615 : Nat) = 2 ^ 64 - 1 from rfl, Nat.testBit_two_pow_sub_one, decide_eq_true hj, Bool.true_xor]
    · rw [Nat.testBit_lt_two_pow (x := n) (Nat.lt_of_lt_of_le (by omega : n < 2 ^ 64) (Nat.pow_le_pow_right (by omega) (by omega))), Nat.testBit_lt_two_pow (x := 18446744073709551615 - n) (Nat.lt_of_lt_of_le (by omega : 18446744073709551615 - n < 2 ^ 64) (Nat.pow_le_pow_right (by omega) (by omega))), show (18446744073709551615 : Nat) = 2 ^ 64 - 1 from rfl, Nat.testBit_two_pow_sub_one, decide_eq_false hj]; rfl
  rw [this]; omega
/-- the set of all other bytes -/
def notS (s : Se) : Se := ⟨18446744073709551615 - s.a, 18446744073709551615 - s.b, 18446744073709551615 - s.c, 18446744073709551615 - s.d⟩
theorem notS_fit {s : Se} (h : FitS s) : FitS (notS s) := by
  unfold FitS notS at *; dsimp only; omega
theorem notS_word (s : Se) (i : Nat) (hi : i < 4) : wordS (notS s) i = 18446744073709551615 - wordS s i := by
  match i, hi with
  | 0, _ => rfl
  | 1, _ => rfl
  | 2, _ => rfl
  | 3, _ => rfl
theorem notS_bit {s : Se} (h : FitS s) (b : Nat) (hb : b < 256) : bit (notS s) b = !bit s b := by
  have hf := wordS_fit h (b / 64) (by omega)
  unfold bit
  rw [notS_word _ _ (by omega), show (18446744073709551615 - wordS s (b / 64)).toNat = 18446744073709551615 - (wordS s (b / 64)).toNat by omega]
  exact not_bit _ _ (by omega) (by omega)
theorem ret_set4 {w wr : World} (B : Below w.heap.size w wr) {g : Nat} (hg : w.heap.size ≤ g) {s0 : Se} (BOX : wr.ownsRow w.heap.size 24 4 (.slice (some ⟨g, 0, none⟩) 1 1) 1 (cellsW s0)) (s1 s2 s3 s4 : Int) :
    Below w.heap.size w ((((wr.setCell ⟨g, 0, none⟩ (.int .u64 s1)).setCell ⟨g, 1, none⟩ (.int .u64 s2)).setCell ⟨g, 2, none⟩ (.int .u64 s3)).setCell ⟨g, 3, none⟩ (.int .u64 s4)) ∧ ∃ fr, ((((wr.setCell ⟨g, 0, none⟩ (.int .u64 s1)).setCell ⟨g, 1, none⟩ (.int .u64 s2)).setCell ⟨g, 2, none⟩ (.int .u64 s3)).setCell ⟨g, 3, none⟩ (.int .u64 s4)).heap[g]? = some (.cells #[.int .u64 s1, .int .u64 s2, .int .u64 s3, .int .u64 s4] 24 fr) := by
  obtain ⟨q1, g1⟩ := BOX.stored 0 (.int .u64 s1)
  obtain ⟨q2, g2⟩ := q1.stored 1 (.int .u64 s2)
  obtain ⟨q3, g3⟩ := q2.stored 2 (.int .u64 s3)
  obtain ⟨q4, g4⟩ := q3.stored 3 (.int .u64 s4)
  refine ⟨(((B.grown g1 B.size (fun q hq => by cases hq; exact hg)).grown g2 (by simp; exact B.size) (fun q hq => by cases hq; exact hg)).grown g3 (by simp; exact B.size) (fun q hq => by cases hq; exact hg)).grown g4 (by simp; exact B.size) (fun q hq => by cases hq; exact hg), ?_⟩
  obtain ⟨fr, hh⟩ := own_one q4
  exact ⟨fr, hh⟩
set_option maxHeartbeats 1000000 in
theorem others_any (s : Se) (w : World) (hf : FitS s) :
    Calls Try.prog 62 #[setV s] w fun e w' => e = .returned (setV (notS s)) ∧ Below w.heap.size w w' := by
  obtain ⟨s1, s2, s3, s4⟩ := s
  unfold FitS at hf
  unfold setV notS
  dsimp only at *
  have hbx : Below w.heap.size w ((w.alloc (.cells #[.int .u64 s1, .int .u64 s2, .int .u64 s3, .int .u64 s4] 24)).alloc (.cells #[.int .u64 0, .int .u64 0, .int .u64 0, .int .u64 0] 24)) := ((Below.refl _ _).alloc (Nat.le_refl _) _).alloc (by simp) _
  have hA : ((w.alloc (.cells #[.int .u64 s1, .int .u64 s2, .int .u64 s3, .int .u64 s4] 24)).alloc (.cells #[.int .u64 0, .int .u64 0, .int .u64 0, .int .u64 0] 24)).ownsRow w.heap.size 24 4 (.slice (some ⟨w.heap.size, 0, none⟩) 1 1) 1 (cellsW ⟨s1, s2, s3, s4⟩) :=
    World.ownsRow.alloc (World.ownsRow_lit (e := 24) (size := 4) w #[.int .u64 s1, .int .u64 s2, .int .u64 s3, .int .u64 s4] 1 (Nat.le_refl _) (by unfold maxLen; omega) rfl) _
  have hR : ((w.alloc (.cells #[.int .u64 s1, .int .u64 s2, .int .u64 s3, .int .u64 s4] 24)).alloc (.cells #[.int .u64 0, .int .u64 0, .int .u64 0, .int .u64 0] 24)).ownsRow w.heap.size 24 4 (.slice (some ⟨w.heap.size + 1, 0, none⟩) 1 1) 1 (cellsW ⟨0, 0, 0, 0⟩) := by
    have := World.ownsRow_lit (e := 24) (size := 4) (base := w.heap.size) (w.alloc (.cells #[.int .u64 s1, .int .u64 s2, .int .u64 s3, .int .u64 s4] 24)) #[.int .u64 0, .int .u64 0, .int .u64 0, .int .u64 0] 1 (by simp) (by unfold maxLen; omega) rfl
    rwa [show (w.alloc (.cells #[.int .u64 s1, .int .u64 s2, .int .u64 s3, .int .u64 s4] 24)).heap.size = w.heap.size + 1 by simp] at this
  go_enter Try.func62, Try.ntmps62
  go_wp2_with fail
  generalize ((w.alloc (.cells #[.int .u64 s1, .int .u64 s2, .int .u64 s3, .int .u64 s4] 24)).alloc (.cells #[.int .u64 0, .int .u64 0, .int .u64 0, .int .u64 0] 24)) = W0 at hbx hA hR ⊢
  have HBX := hide hbx
  have HA := hide hA
  have HR := hide hR
  clear hbx hA hR
  go_loopw [4] (fun x wr => ∃ i : Nat, x = .int .i64 i ∧ i ≤ 4 ∧ Below w.heap.size w wr ∧ wr.ownsRow w.heap.size 24 4 (.slice (some ⟨w.heap.size, 0, none⟩) 1 1) 1 (cellsW ⟨if 0 < i then 18446744073709551615 - s1 else s1, if 1 < i then 18446744073709551615 - s2 else s2, if 2 < i then 18446744073709551615 - s3 else s3, if 3 < i then 18446744073709551615 - s4 else s4⟩) ∧ wr.ownsRow w.heap.size 24 4 (.slice (some ⟨w.heap.size + 1, 0, none⟩) 1 1) 1 (cellsW ⟨0, 0, 0, 0⟩)) (fun x _ => 4 - (intOf x).toNat)
  case atStart => exact ⟨0, rfl, by omega, unhide HBX, unhide HA, unhide HR⟩
  case round =>
    clear HBX HA HR
    obtain ⟨i, rfl, hi, hb, ha, hr⟩ := hrel
    have B := hide hb
    have RO := hide ha
    have BOX := hide hr
    clear hb hr
    by_cases hlt : i < 4
    · have h4 : i = 0 ∨ i = 1 ∨ i = 2 ∨ i = 3 := by omega
      rcases h4 with rfl | rfl | rfl | rfl
      · clear ha
        replace RO : Hid (wr.ownsRow w.heap.size 24 4 (.slice (some ⟨w.heap.size, 0, none⟩) 1 1) 1 (cellsW ⟨s1, s2, s3, s4⟩)) := RO
        have c0 := (unhide RO).cellAt 0 (by omega)
        have f0 := (unhide RO).frozenAt 0
        simp only [cellsW] at c0
        have hxo := xor_max hf.1
        obtain ⟨sR, gR⟩ := (unhide RO).stored 0 (.int .u64 (18446744073709551615 - s1))
        have SR := hide sR
        have B2 := hide ((unhide B).grown gR (unhide B).size (fun q hq => by cases hq; exact Nat.le_refl _))
        have BX2 := hide ((unhide BOX).kept gR (.inr (by simp [Value.ownBlock])))
        clear sR gR
        go_wp2_with fail
        exact ⟨⟨1, rfl, by omega, unhide B2, unhide SR, unhide BX2⟩, by simp [intOf]⟩
      · clear ha
        replace RO : Hid (wr.ownsRow w.heap.size 24 4 (.slice (some ⟨w.heap.size, 0, none⟩) 1 1) 1 (cellsW ⟨18446744073709551615 - s1, s2, s3, s4⟩)) := RO
        have c0 := (unhide RO).cellAt 1 (by omega)
        have f0 := (unhide RO).frozenAt 1
        simp only [cellsW] at c0
        have hxo := xor_max hf.2.1
        obtain ⟨sR, gR⟩ := (unhide RO).stored 1 (.int .u64 (18446744073709551615 - s2))
        have SR := hide sR
        have B2 := hide ((unhide B).grown gR (unhide B).size (fun q hq => by cases hq; exact Nat.le_refl _))
        have BX2 := hide ((unhide BOX).kept gR (.inr (by simp [Value.ownBlock])))
        clear sR gR
        go_wp2_with fail
        exact ⟨⟨2, rfl, by omega, unhide B2, unhide SR, unhide BX2⟩, by simp [intOf]⟩
      · clear ha
        replace RO : Hid (wr.ownsRow w.heap.size 24 4 (.slice (some ⟨w.heap.size, 0, none⟩) 1 1) 1 (cellsW ⟨18446744073709551615 - s1, 18446744073709551615 - s2, s3, s4⟩)) := RO
        have c0 := (unhide RO).cellAt 2 (by omega)
        have f0 := (unhide RO).frozenAt 2
        simp only [cellsW] at c0
        have hxo := xor_max hf.2.2.1
        obtain ⟨sR, gR⟩ := (unhide RO).stored 2 (.int .u64 (18446744073709551615 - s3))
        have SR := hide sR
        have B2 := hide ((unhide B).grown gR (unhide B).size (fun q hq => by cases hq; exact Nat.le_refl _))
        have BX2 := hide ((unhide BOX).kept gR (.inr (by simp [Value.ownBlock])))
        clear sR gR
        go_wp2_with fail
        exact ⟨⟨3, rfl, by omega, unhide B2, unhide SR, unhide BX2⟩, by simp [intOf]⟩
      · clear ha
        replace RO : Hid (wr.ownsRow w.heap.size 24 4 (.slice (some ⟨w.heap.size, 0, none⟩) 1 1) 1 (cellsW ⟨18446744073709551615 - s1, 18446744073709551615 - s2, 18446744073709551615 - s3, s4⟩)) := RO
        have c0 := (unhide RO).cellAt 3 (by omega)
        have f0 := (unhide RO).frozenAt 3
        simp only [cellsW] at c0
        have hxo := xor_max hf.2.2.2
        obtain ⟨sR, gR⟩ := (unhide RO).stored 3 (.int .u64 (18446744073709551615 - s4))
        have SR := hide sR
        have B2 := hide ((unhide B).grown gR (unhide B).size (fun q hq => by cases hq; exact Nat.le_refl _))
        have BX2 := hide ((unhide BOX).kept gR (.inr (by simp [Value.ownBlock])))
        clear sR gR
        go_wp2_with fail
        exact ⟨⟨4, rfl, by omega, unhide B2, unhide SR, unhide BX2⟩, by simp [intOf]⟩
    · obtain rfl : i = 4 := by omega
      clear ha
      replace RO : Hid (wr.ownsRow w.heap.size 24 4 (.slice (some ⟨w.heap.size, 0, none⟩) 1 1) 1 (cellsW ⟨18446744073709551615 - s1, 18446744073709551615 - s2, 18446744073709551615 - s3, 18446744073709551615 - s4⟩)) := RO
      have c0 := (unhide RO).cellAt 0 (by omega)
      have c1 := (unhide RO).cellAt 1 (by omega)
      have c2 := (unhide RO).cellAt 2 (by omega)
      have c3 := (unhide RO).cellAt 3 (by omega)
      have r0 := (unhide BOX).cellAt 0 (by omega)
      have r1 := (unhide BOX).cellAt 1 (by omega)
      have r2 := (unhide BOX).cellAt 2 (by omega)
      have r3 := (unhide BOX).cellAt 3 (by omega)
      have f0 := (unhide BOX).frozenAt 0
      have f1 := (unhide BOX).frozenAt 1
      have f2 := (unhide BOX).frozenAt 2
      have f3 := (unhide BOX).frozenAt 3
      simp only [cellsW] at c0 c1 c2 c3 r0 r1 r2 r3
      go_wp2_with fail
      obtain ⟨B9, fr, hh⟩ := ret_set4 (unhide B) (Nat.le_succ _) (unhide BOX) (18446744073709551615 - s1) (18446744073709551615 - s2) (18446744073709551615 - s3) (18446744073709551615 - s4)
      refine bodyPost_ret_by (v := setV (notS ⟨s1, s2, s3, s4⟩)) ?_ rfl ⟨rfl, B9⟩
      exact results_cell_row (ty := 24) rfl _ _ (w.heap.size + 1) _ #[.int .u64 (18446744073709551615 - s1), .int .u64 (18446744073709551615 - s2), .int .u64 (18446744073709551615 - s3), .int .u64 (18446744073709551615 - s4)] fr _ rfl hh Try.underlying24 rfl (by kernel_rfl)
theorem two_boxes (w : World) (s1 s2 s3 s4 : Int) : ∃ W0, ((w.alloc (.cells #[.int .u64 s1, .int .u64 s2, .int .u64 s3, .int .u64 s4] 24)).alloc (.cells #[.int .u64 0, .int .u64 0, .int .u64 0, .int .u64 0] 24)) = W0 ∧ Below w.heap.size w W0 ∧ W0.ownsRow w.heap.size 24 4 (.slice (some ⟨w.heap.size, 0, none⟩) 1 1) 1 (cellsW ⟨s1, s2, s3, s4⟩) ∧ W0.ownsRow w.heap.size 24 4 (.slice (some ⟨w.heap.size + 1, 0, none⟩) 1 1) 1 (cellsW ⟨0, 0, 0, 0⟩) := by
  refine ⟨_, rfl, ((Below.refl _ _).alloc (Nat.le_refl _) _).alloc (by simp) _, World.ownsRow.alloc (World.ownsRow_lit (e := 24) (size := 4) w #[.int .u64 s1, .int .u64 s2, .int .u64 s3, .int .u64 s4] 1 (Nat.le_refl _) (by unfold maxLen; omega) rfl) _, ?_⟩
  have := World.ownsRow_lit (e := 24) (size := 4) (base := w.heap.size) (w.alloc (.cells #[.int .u64 s1, .int .u64 s2, .int .u64 s3, .int .u64 s4] 24)) #[.int .u64 0, .int .u64 0, .int .u64 0, .int .u64 0] 1 (by simp) (by unfold maxLen; omega) rfl
  rwa [show (w.alloc (.cells #[.int .u64 s1, .int .u64 s2, .int .u64 s3, .int .u64 s4] 24)).heap.size = w.heap.size + 1 by simp] at this
/-- is a byte from a to z? -/
def betw (a z j : Nat) : Bool := decide (a ≤ j ∧ j ≤ z)
set_option maxHeartbeats 1000000 in
theorem with_any (s0 : Se) (a z : Nat) (w : World) (hf : FitS s0) (ha : a < 256) (hz : z < 256) :
    Calls Try.prog 70 #[setV s0, .int .u8 a, .int .u8 z] w fun e w' => ∃ s, e = .returned (setV s) ∧ FitS s ∧ (∀ j, j < 256 → bit s j = (bit s0 j || betw a z j)) ∧ Below w.heap.size w w' := by
  have HF := hide hf
  obtain ⟨p, hp⟩ : ∃ p, bit s0 = p := ⟨_, rfl⟩
  rw [hp]
  have HP := hide hp
  clear hp hf
  obtain ⟨s1, s2, s3, s4⟩ := s0
  unfold setV
  dsimp only
  obtain ⟨W0, hW0, hbx, hA, hR⟩ := two_boxes w s1 s2 s3 s4
  have HBX := hide hbx
  have HA := hide hA
  have HR := hide hR
  clear hbx hA hR
  go_enter Try.func70, Try.ntmps70
  go_wp2_with fail
  clear hW0
  go_loopw [7] (fun x wr => ∃ (c : Nat) (s : Se), x = .int .i64 c ∧ a ≤ c ∧ c ≤ 256 ∧ Below w.heap.size w wr ∧ wr.ownsRow w.heap.size 24 4 (.slice (some ⟨w.heap.size, 0, none⟩) 1 1) 1 (cellsW s) ∧ wr.ownsRow w.heap.size 24 4 (.slice (some ⟨w.heap.size + 1, 0, none⟩) 1 1) 1 (cellsW ⟨0, 0, 0, 0⟩) ∧ FitS s ∧ (c ≤ z + 1 ∨ z < a) ∧ (z < a → c = a) ∧ ∀ j, j < 256 → bit s j = (p j || decide (a ≤ j ∧ j < c))) (fun x _ => 256 - (intOf x).toNat)
  case atStart =>
    refine ⟨a, _, rfl, Nat.le_refl _, by omega, unhide HBX, unhide HA, unhide HR, unhide HF, by omega, fun _ => rfl, ?_⟩
    intro j hj
    rw [unhide HP, decide_eq_false (by omega), Bool.or_false]
  case round =>
    clear HBX HA HR HF HP
    obtain ⟨c, s, rfl, hac, hc, hbel, hrow, hbox, hfit, hcz, hza, hall⟩ := hrel
    have B := hide hbel
    have ROW := hide hrow
    have BOX := hide hbox
    have FIT := hide hfit
    have ALL := hide hall
    clear hbel hrow hbox hfit hall
    by_cases hlt : c ≤ z
    · have hI : (c : Int) ≤ z := by omega
      have h4 : c / 64 < 4 := by omega
      have hcell := (unhide ROW).cellAt (c / 64) (by omega)
      rw [cellsW_at s _ h4] at hcell
      have hfz := (unhide ROW).frozenAt (c / 64)
      have hfw := wordS_fit (unhide FIT) (c / 64) h4
      obtain ⟨x, hx⟩ : ∃ x, wordS s (c / 64) = x := ⟨_, rfl⟩
      rw [hx] at hcell hfw
      have HX := hide hx
      clear hx
      have hq4 : 0 ≤ (c : Int) / 64 ∧ (c : Int) / 64 < 4 := by omega
      go_wp2_with fail
      go_region
      rw [or_pow hfw (show c % 64 < 64 by omega)]
      have HF2 := hide (or_fit hfw (show c % 64 < 64 by omega))
      obtain ⟨y, hy⟩ : ∃ y : Nat, (x.toNat ||| 2 ^ (c % 64)) = y := ⟨_, rfl⟩
      rw [hy] at HF2 ⊢
      have HY := hide hy
      clear hy hcell hfz
      go_wp2_with fail
      obtain ⟨sR, gR⟩ := (unhide ROW).stored (c / 64) (.int .u64 (y : Int))
      rw [cellsW_set s _ h4] at sR
      refine ⟨⟨c + 1, setW s (c / 64) (y : Int), by go_num, by omega, by omega, ((unhide B).grown gR (unhide B).size (fun q hq => by cases hq; omega)).drew, sR.drew, ((unhide BOX).kept gR (.inr (by simp [Value.ownBlock]))).drew, fitS_set (unhide FIT) _ h4 (unhide HF2), by omega, by omega, ?_⟩, by simp [intOf]; omega⟩
      intro j hj
      have := bit_or (s := s) (b := c) (by omega) hj
      rw [unhide HX, unhide HY] at this
      rw [this, (unhide ALL) j hj, Bool.or_assoc]
      congr 1
      rw [Bool.eq_iff_iff]; simp; omega
    · have hI : ¬ ((c : Int) ≤ z) := by omega
      have HA : Hid (∀ j, j < 256 → bit s j = (p j || betw a z j)) := hide (fun j hj => by
        rw [(unhide ALL) j hj]; congr 1; unfold betw; rw [decide_eq_decide]; omega)
      have c0 := (unhide ROW).cellAt 0 (by omega)
      have c1 := (unhide ROW).cellAt 1 (by omega)
      have c2 := (unhide ROW).cellAt 2 (by omega)
      have c3 := (unhide ROW).cellAt 3 (by omega)
      clear ALL
      obtain ⟨t1, t2, t3, t4⟩ := s
      have r0 := (unhide BOX).cellAt 0 (by omega)
      have r1 := (unhide BOX).cellAt 1 (by omega)
      have r2 := (unhide BOX).cellAt 2 (by omega)
      have r3 := (unhide BOX).cellAt 3 (by omega)
      have f0 := (unhide BOX).frozenAt 0
      have f1 := (unhide BOX).frozenAt 1
      have f2 := (unhide BOX).frozenAt 2
      have f3 := (unhide BOX).frozenAt 3
      simp only [cellsW] at c0 c1 c2 c3 r0 r1 r2 r3
      go_wp2_with fail
      obtain ⟨B9, fr, hh⟩ := ret_set4 (unhide B) (Nat.le_succ _) (unhide BOX) t1 t2 t3 t4
      refine bodyPost_ret_by (v := setV ⟨t1, t2, t3, t4⟩) ?_ rfl ⟨_, rfl, unhide FIT, unhide HA, B9⟩
      exact results_cell_row (ty := 24) rfl _ _ (w.heap.size + 1) _ #[.int .u64 t1, .int .u64 t2, .int .u64 t3, .int .u64 t4] fr _ rfl hh Try.underlying24 rfl (by kernel_rfl)
theorem fit0 : FitS ⟨0, 0, 0, 0⟩ := by unfold FitS; decide
theorem bit0 (j : Nat) : bit ⟨0, 0, 0, 0⟩ j = false := by
  unfold bit wordS
  split <;> simp
set_option maxHeartbeats 1000000 in
theorem only_any (c : Nat) (w : World) (hc : c < 256) :
    Calls Try.prog 54 #[.int .u8 c] w fun e w' => ∃ s, e = .returned (setV s) ∧ FitS s ∧ (∀ j, j < 256 → bit s j = decide (j = c)) ∧ Below w.heap.size w w' := by
  have HW := hide (fun W => with_any ⟨0, 0, 0, 0⟩ c c W fit0 hc hc)
  unfold setV at *
  dsimp only at HW
  go_enter Try.func54, Try.ntmps54
  go_wp2_with fail
  refine ((unhide HW) _).mono ?_
  rintro e w3 ⟨s, rfl, hfit, hall, b3⟩
  have BOX := hide (own_below (World.ownsRow_lit (e := 24) (size := 4) w #[.int .u64 0, .int .u64 0, .int .u64 0, .int .u64 0] 1 (Nat.le_refl _) (by unfold maxLen; omega) rfl) b3)
  have B := hide (bel_trans ((Below.refl _ _).alloc (Nat.le_refl _) _) b3)
  have FIT := hide hfit
  have ALL := hide hall
  clear b3 hfit hall
  have r0 := (unhide BOX).cellAt 0 (by omega)
  have r1 := (unhide BOX).cellAt 1 (by omega)
  have r2 := (unhide BOX).cellAt 2 (by omega)
  have r3 := (unhide BOX).cellAt 3 (by omega)
  have f0 := (unhide BOX).frozenAt 0
  have f1 := (unhide BOX).frozenAt 1
  have f2 := (unhide BOX).frozenAt 2
  have f3 := (unhide BOX).frozenAt 3
  obtain ⟨t1, t2, t3, t4⟩ := s
  dsimp only
  go_wp2_with fail
  obtain ⟨B9, fr, hh⟩ := ret_set4 (s0 := ⟨0, 0, 0, 0⟩) (unhide B) (Nat.le_refl _) (unhide BOX) t1 t2 t3 t4
  refine bodyPost_ret_by (v := setV ⟨t1, t2, t3, t4⟩) ?_ rfl ⟨_, rfl, unhide FIT, fun j hj => by rw [(unhide ALL) j hj, bit0, Bool.false_or]; unfold betw; rw [decide_eq_decide]; omega, B9⟩
  exact results_cell_row (ty := 24) rfl _ _ w.heap.size _ #[.int .u64 t1, .int .u64 t2, .int .u64 t3, .int .u64 t4] fr _ rfl hh Try.underlying24 rfl (by kernel_rfl)
set_option maxHeartbeats 1000000 in
theorem abn_any (w : World) :
    Calls Try.prog 51 #[] w fun e w' => ∃ s, e = .returned (setV s) ∧ FitS s ∧ (∀ j, j < 256 → bit s j = decide (j ≠ 10)) ∧ Below w.heap.size w w' := by
  have HW := hide (fun W => only_any 10 W (by omega))
  have HO := hide others_any
  unfold setV at *
  go_enter Try.func51, Try.ntmps51
  go_wp2_with fail
  refine ((unhide HW) _).mono ?_
  rintro e w2 ⟨s, rfl, hfit, hall, b2⟩
  have HO2 := hide ((unhide HO) s w2 hfit)
  clear HO HW
  obtain ⟨s1, s2, s3, s4⟩ := s
  have B2 := hide b2
  have FI2 := hide hfit
  have AL2 := hide hall
  clear b2 hfit hall
  unfold notS at HO2
  dsimp only at HO2 ⊢
  go_wp2_with fail
  refine (unhide HO2).mono ?_
  rintro e w3 ⟨rfl, b3⟩
  have BOX := hide (own_below (own_below (World.ownsRow_lit (e := 24) (size := 4) w #[.int .u64 0, .int .u64 0, .int .u64 0, .int .u64 0] 1 (Nat.le_refl _) (by unfold maxLen; omega) rfl) (unhide B2)) b3)
  have B := hide (bel_trans ((Below.refl _ _).alloc (Nat.le_refl _) _) (bel_trans (unhide B2) b3))
  clear b3 HO2 B2
  have r0 := (unhide BOX).cellAt 0 (by omega)
  have r1 := (unhide BOX).cellAt 1 (by omega)
  have r2 := (unhide BOX).cellAt 2 (by omega)
  have r3 := (unhide BOX).cellAt 3 (by omega)
  have f0 := (unhide BOX).frozenAt 0
  have f1 := (unhide BOX).frozenAt 1
  have f2 := (unhide BOX).frozenAt 2
  have f3 := (unhide BOX).frozenAt 3
  go_wp2_with fail
  obtain ⟨B9, fr, hh⟩ := ret_set4 (s0 := ⟨0, 0, 0, 0⟩) (unhide B) (Nat.le_refl _) (unhide BOX) (18446744073709551615 - s1) (18446744073709551615 - s2) (18446744073709551615 - s3) (18446744073709551615 - s4)
  refine bodyPost_ret_by (v := setV (notS ⟨s1, s2, s3, s4⟩)) ?_ rfl ⟨_, rfl, notS_fit (unhide FI2), fun j hj => by rw [notS_bit (unhide FI2) j hj, (unhide AL2) j hj]; simp, B9⟩
  exact results_cell_row (ty := 24) rfl _ _ w.heap.size _ #[.int .u64 (18446744073709551615 - s1), .int .u64 (18446744073709551615 - s2), .int .u64 (18446744073709551615 - s3), .int .u64 (18446744073709551615 - s4)] fr _ rfl hh Try.underlying24 rfl (by kernel_rfl)
end Go.Proofs.Ytjecopdbcaojcaa
