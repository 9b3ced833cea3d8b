/- The walk of the document's HtmlDecode. -/
import Derived.Test.YtkhbfdokkmebhaaGreatDoorRk
import Derived.Test.YtkhbfdokkmebhaaGreatDoorWn
namespace Go.Proofs.YtkhbfdokkmebhaaGreatDoor
open Go.RowKit Kb
set_option linter.unusedVariables false
set_option maxRecDepth 20000

theorem rA_yes {l : List UInt8} {j : Nat} (h : Ch.at0 l (Ch.nmS j) = true) : Ch.rA l (j + 1) = (Ch.sgn j, (Ch.nmS j).length) := by rw [Ch.rA, if_pos h]
theorem rA_not {l : List UInt8} {j : Nat} (h : Ch.at0 l (Ch.nmS j) = false) : Ch.rA l (j + 1) = Ch.rA l j := by rw [Ch.rA, if_neg (by simp [h])]
theorem rN_a {base : Int} {most j : Nat} {f l : List UInt8} {x : UInt8 × Nat} (h : Ch.at0 l f = false) : Ch.rN base most f l x (j + 1) = Ch.rN base most f l x j := by rw [Ch.rN, if_neg (by simp [h])]
theorem rN_b {base : Int} {most j : Nat} {f l : List UInt8} {x : UInt8 × Nat} (h : Ch.at0 (l.drop (f.length + (j + 1))) [59] = false) : Ch.rN base most f l x (j + 1) = Ch.rN base most f l x j := by rw [Ch.rN, if_neg (by simp [h])]
theorem rN_c {base : Int} {most j : Nat} {f l : List UInt8} {x : UInt8 × Nat} (h1 : Ch.at0 l f = true) (h2 : Ch.at0 (l.drop (f.length + (j + 1))) [59] = true) (h3 : Ch.nb (Num.ans base most ((l.drop f.length).take (j + 1))) = none) : Ch.rN base most f l x (j + 1) = Ch.rN base most f l x j := by
  rw [Ch.rN, if_pos ⟨h1, h2⟩, h3]
theorem rN_d {base : Int} {most j : Nat} {f l : List UInt8} {x : UInt8 × Nat} {c : UInt8} (h1 : Ch.at0 l f = true) (h2 : Ch.at0 (l.drop (f.length + (j + 1))) [59] = true) (h3 : Ch.nb (Num.ans base most ((l.drop f.length).take (j + 1))) = some c) : Ch.rN base most f l x (j + 1) = (c, f.length + (j + 1) + 1) := by
  rw [Ch.rN, if_pos ⟨h1, h2⟩, h3]
theorem at0_len {l : List UInt8} {k : Nat} (h : Ch.at0 (l.drop k) [59] = true) : k < l.length := by
  rcases Nat.lt_or_ge k l.length with h2 | h2
  · exact h2
  · rw [List.drop_eq_nil_iff.2 h2] at h; simp [Ch.at0] at h
/-- the piece between two places -/
theorem piece (s : ByteArray) (k a e : Nat) (h : k + a + e ≤ s.size) : (s.extract (k + a) (k + a + e)).data.toList = ((s.data.toList.drop k).drop a).take e := by
  rw [Lib.extract_data, List.drop_drop, Nat.add_sub_cancel_left]
/-- the document's Number of a piece: what the walk asks -/
theorem num_no (t : ByteArray) (base : Int) (most : Nat) (w : World) (hs : t.size ≤ maxLen) (hb2 : 2 ≤ base) (hb16 : base ≤ 16) (hm : most ≤ 9) (h : Num.ans base most t.data.toList = (0, 4)) :
    Calls Tryz.prog 40 #[.string t, .int .i64 base, .int .i64 most] w fun e w' => e = .returned (.tuple #[.int .i64 0, .int .i64 4]) ∧ w' = w := by
  have := ref_number_any t base most w hs hb2 hb16 hm
  rwa [h] at this
theorem num_is (t : ByteArray) (base n : Int) (most : Nat) (w : World) (hs : t.size ≤ maxLen) (hb2 : 2 ≤ base) (hb16 : base ≤ 16) (hm : most ≤ 9) (h : Num.ans base most t.data.toList = (n, 0)) :
    Calls Tryz.prog 40 #[.string t, .int .i64 base, .int .i64 most] w fun e w' => e = .returned (.tuple #[.int .i64 n, .int .i64 0]) ∧ w' = w := by
  have := ref_number_any t base most w hs hb2 hb16 hm
  rwa [h] at this

set_option maxRecDepth 100000 in
set_option maxHeartbeats 40000000 in
theorem rhtmlDecode_any (s q : ByteArray) (w : World) (hq : q.data.toList = Ch.htmlDec s.data.toList) (hs : s.size ≤ 68719476736) :
    Calls Tryz.prog 14 #[.string s] w fun e w' => e = .returned (.string q) ∧ Below w.heap.size w w' := by
  have HQ := hide hq
  clear hq
  go_enter Tryz.func14, Tryz.ntmps14
  go_wp2
  go_loopw [3, 4] (fun v i wr => ∃ (k : Nat) (out : List UInt8) (o : ByteArray), k ≤ s.size ∧ out.length ≤ k ∧ i = .int .i64 k ∧ v = .string o ∧ o.data.toList = out ∧ Cd.scan Ch.hs s.data.toList = out ++ Cd.scan Ch.hs (s.data.toList.drop k) ∧ Below w.heap.size w wr) (fun _ i _ => s.size - (intOf i).toNat)
  case atStart => exact ⟨0, [], _, Nat.zero_le _, Nat.zero_le _, rfl, rfl, rfl, by simp, Below.refl _ _⟩
  case round =>
    obtain ⟨k, out, o, hk, hok, rfl, rfl, ho, hu, hbel⟩ := hrel
    have HB := hide hbel
    have HU := hide hu
    have HO := hide ho
    have hos : o.size ≤ 68719476736 := by rw [← len_data, ho]; omega
    clear hbel hu ho
    by_cases hlt : k < s.size
    · have hd := Kb.drop_cons s k hlt
      have hne : s.data.toList.drop k ≠ [] := by rw [hd]; simp
      obtain ⟨l, hl⟩ : ∃ l, s.data.toList.drop k = l := ⟨_, rfl⟩
      have HL := hide hl
      have H0 : Hid (Ch.rA l 0 = (s[k], 1)) := hide (by rw [← hl, hd]; rfl)
      have HRS := hide (Ch.rs_hs l (by rw [← hl]; exact hne))
      have hle := hs_le l (by rw [← hl]; exact hne)
      have hll : l.length = s.size - k := by rw [← hl]; simp
      have HN : Hid (∀ c n, Ch.hs l = (c, n) → Cd.scan Ch.hs s.data.toList = (out ++ [c]) ++ Cd.scan Ch.hs (s.data.toList.drop (k + n)) ∧ 1 ≤ n ∧ k + n ≤ s.size) := hide (fun c n h => by
        rw [h] at hle
        exact ⟨scan_next (unhide HU) hne (by rw [hl]; exact h) hle.1, hle.1, by have := hle.2; omega⟩)
      have HAT : Hid (∀ (t : ByteArray) (b : Bool) (W : World), 1 ≤ t.size → t.size ≤ 100 → Ch.at0 l t.data.toList = b → Calls Tryz.prog 39 #[.string s, .int .i64 k, .string t] W fun e w' => e = .returned (.bool b) ∧ w' = W) := hide (fun t b W h1 h2 h3 => at_drop s t k b W (by omega) (by omega) h1 (by omega) (by rw [hl]; exact h3))
      have HAE : Hid (∀ (a : Nat) (b : Bool) (W : World), a ≤ 100 → Ch.at0 (l.drop a) [59] = b → Calls Tryz.prog 39 #[.string s, .int .i64 ((k + a : Nat) : Int), .string ⟨#[59]⟩] W fun e w' => e = .returned (.bool b) ∧ w' = W) := hide (fun a b W h1 h3 => at_drop s ⟨#[59]⟩ (k + a) b W (by omega) (by decide) (by decide) (by omega) (by rw [← List.drop_drop, hl]; exact h3))
      have HPC : Hid (∀ a e, k + a + e ≤ s.size → (s.extract (k + a) (k + a + e)).data.toList = (l.drop a).take e) := hide (fun a e h => by rw [piece s k a e h, hl])
      have HLL := hide hll
      clear hd hne hl hle hll HU HL
      go_wp2_with fail
      go_loopw [5, 6, 8] (fun b n i wq => ∃ j : Nat, j ≤ 4 ∧ i = .int .i64 j ∧ b = .int .u8 ((Ch.rA l j).1.toNat : Int) ∧ n = .int .i64 ((Ch.rA l j).2 : Int) ∧ wq.cell? ⟨wr.heap.size, 0, none⟩ = some (.string ⟨#[38, 108, 116, 59]⟩) ∧ wq.cell? ⟨wr.heap.size, 1, none⟩ = some (.string ⟨#[38, 103, 116, 59]⟩) ∧ wq.cell? ⟨wr.heap.size, 2, none⟩ = some (.string ⟨#[38, 97, 109, 112, 59]⟩) ∧ wq.cell? ⟨wr.heap.size, 3, none⟩ = some (.string ⟨#[38, 113, 117, 111, 116, 59]⟩) ∧ Below w.heap.size w wq) (fun _ _ i _ => 4 - (intOf i).toNat)
      case atStart =>
        refine ⟨0, by omega, rfl, by rw [unhide H0], by rw [unhide H0]; rfl, by rw [World.cell?_alloc_new]; rfl, by rw [World.cell?_alloc_new]; rfl, by rw [World.cell?_alloc_new]; rfl, by rw [World.cell?_alloc_new]; rfl, (unhide HB).alloc (unhide HB).size _⟩
      case round =>
        obtain ⟨j, hj, rfl, rfl, rfl, c0, c1, c2, c3, hbel⟩ := hrel
        have HB2 := hide hbel
        clear hbel HB
        match j, hj with
        | 0, _ =>
          rcases ha : Ch.at0 l (Ch.nmS 0) with _ | _
          · have HC := hide (fun W => (unhide HAT) ⟨#[38, 108, 116, 59]⟩ false W (by decide) (by decide) ha)
            have HE := hide (rA_not ha)
            clear ha
            go_wp2_with fail
            refine ((unhide HC) _).mono ?_; rintro e wx ⟨rfl, hwx⟩; rw [hwx]; clear hwx wx
            go_wp2_with fail
            exact ⟨⟨1, by omega, by first | rfl | go_num, by rw [unhide HE], by rw [unhide HE], c0, c1, c2, c3, unhide HB2⟩, by simp [intOf]⟩
          · have HC := hide (fun W => (unhide HAT) ⟨#[38, 108, 116, 59]⟩ true W (by decide) (by decide) ha)
            have HE := hide (rA_yes ha)
            clear ha
            go_wp2_with fail
            refine ((unhide HC) _).mono ?_; rintro e wx ⟨rfl, hwx⟩; rw [hwx]; clear hwx wx
            go_wp2_with fail
            go_quiet (fail)
            go_wp2_with fail
            exact ⟨⟨1, by omega, by first | rfl | go_num, by rw [unhide HE]; rfl, by rw [unhide HE]; rfl, c0, c1, c2, c3, Go.below_drewN (unhide HB2) _⟩, by simp [intOf]⟩
        | 1, _ =>
          rcases ha : Ch.at0 l (Ch.nmS 1) with _ | _
          · have HC := hide (fun W => (unhide HAT) ⟨#[38, 103, 116, 59]⟩ false W (by decide) (by decide) ha)
            have HE := hide (rA_not ha)
            clear ha
            go_wp2_with fail
            refine ((unhide HC) _).mono ?_; rintro e wx ⟨rfl, hwx⟩; rw [hwx]; clear hwx wx
            go_wp2_with fail
            exact ⟨⟨2, by omega, by first | rfl | go_num, by rw [unhide HE], by rw [unhide HE], c0, c1, c2, c3, unhide HB2⟩, by simp [intOf]⟩
          · have HC := hide (fun W => (unhide HAT) ⟨#[38, 103, 116, 59]⟩ true W (by decide) (by decide) ha)
            have HE := hide (rA_yes ha)
            clear ha
            go_wp2_with fail
            refine ((unhide HC) _).mono ?_; rintro e wx ⟨rfl, hwx⟩; rw [hwx]; clear hwx wx
            go_wp2_with fail
            go_quiet (fail)
            go_wp2_with fail
            exact ⟨⟨2, by omega, by first | rfl | go_num, by rw [unhide HE]; rfl, by rw [unhide HE]; rfl, c0, c1, c2, c3, Go.below_drewN (unhide HB2) _⟩, by simp [intOf]⟩
        | 2, _ =>
          rcases ha : Ch.at0 l (Ch.nmS 2) with _ | _
          · have HC := hide (fun W => (unhide HAT) ⟨#[38, 97, 109, 112, 59]⟩ false W (by decide) (by decide) ha)
            have HE := hide (rA_not ha)
            clear ha
            go_wp2_with fail
            refine ((unhide HC) _).mono ?_; rintro e wx ⟨rfl, hwx⟩; rw [hwx]; clear hwx wx
            go_wp2_with fail
            exact ⟨⟨3, by omega, by first | rfl | go_num, by rw [unhide HE], by rw [unhide HE], c0, c1, c2, c3, unhide HB2⟩, by simp [intOf]⟩
          · have HC := hide (fun W => (unhide HAT) ⟨#[38, 97, 109, 112, 59]⟩ true W (by decide) (by decide) ha)
            have HE := hide (rA_yes ha)
            clear ha
            go_wp2_with fail
            refine ((unhide HC) _).mono ?_; rintro e wx ⟨rfl, hwx⟩; rw [hwx]; clear hwx wx
            go_wp2_with fail
            go_quiet (fail)
            go_wp2_with fail
            exact ⟨⟨3, by omega, by first | rfl | go_num, by rw [unhide HE]; rfl, by rw [unhide HE]; rfl, c0, c1, c2, c3, Go.below_drewN (unhide HB2) _⟩, by simp [intOf]⟩
        | 3, _ =>
          rcases ha : Ch.at0 l (Ch.nmS 3) with _ | _
          · have HC := hide (fun W => (unhide HAT) ⟨#[38, 113, 117, 111, 116, 59]⟩ false W (by decide) (by decide) ha)
            have HE := hide (rA_not ha)
            clear ha
            go_wp2_with fail
            refine ((unhide HC) _).mono ?_; rintro e wx ⟨rfl, hwx⟩; rw [hwx]; clear hwx wx
            go_wp2_with fail
            exact ⟨⟨4, by omega, by first | rfl | go_num, by rw [unhide HE], by rw [unhide HE], c0, c1, c2, c3, unhide HB2⟩, by simp [intOf]⟩
          · have HC := hide (fun W => (unhide HAT) ⟨#[38, 113, 117, 111, 116, 59]⟩ true W (by decide) (by decide) ha)
            have HE := hide (rA_yes ha)
            clear ha
            go_wp2_with fail
            refine ((unhide HC) _).mono ?_; rintro e wx ⟨rfl, hwx⟩; rw [hwx]; clear hwx wx
            go_wp2_with fail
            go_quiet (fail)
            go_wp2_with fail
            exact ⟨⟨4, by omega, by first | rfl | go_num, by rw [unhide HE]; rfl, by rw [unhide HE]; rfl, c0, c1, c2, c3, Go.below_drewN (unhide HB2) _⟩, by simp [intOf]⟩
        | 4, _ =>
          clear c0 c1 c2 c3
          go_wp2_with fail
          obtain ⟨x0, hx0⟩ : ∃ x, Ch.rA l 4 = x := ⟨_, rfl⟩
          rw [hx0]
          obtain ⟨x1, hx1⟩ : ∃ x, Ch.rN 10 3 [38, 35] l x0 3 = x := ⟨_, rfl⟩
          obtain ⟨x2, hx2⟩ : ∃ x, Ch.rN 16 2 [38, 35, 120] l x1 2 = x := ⟨_, rfl⟩
          have HX : Hid (Ch.hs l = x2) := hide (by rw [← unhide HRS, ← hx2, ← hx1, ← hx0]; rfl)
          have HX1 := hide hx1
          have HX2 := hide hx2
          clear hx0 hx1 hx2
          go_loopw [5, 6, 9, 10] (fun b n p m wq => ((p = .int .i64 10 ∧ m = .int .i64 3 ∧ b = .int .u8 (x0.1.toNat : Int) ∧ n = .int .i64 (x0.2 : Int)) ∨ (p = .int .i64 16 ∧ m = .int .i64 2 ∧ b = .int .u8 (x1.1.toNat : Int) ∧ n = .int .i64 (x1.2 : Int)) ∨ (p = .int .i64 22 ∧ m = .int .i64 1 ∧ b = .int .u8 (x2.1.toNat : Int) ∧ n = .int .i64 (x2.2 : Int))) ∧ Below w.heap.size w wq) (fun _ _ p _ _ => 22 - (intOf p).toNat)
          case atStart => exact ⟨.inl ⟨rfl, rfl, rfl, rfl⟩, unhide HB2⟩
          case round =>
            obtain ⟨hcase, hbel⟩ := hrel
            have HB3 := hide hbel
            clear hbel HB2
            rcases hcase with ⟨rfl, rfl, rfl, rfl⟩ | ⟨rfl, rfl, rfl, rfl⟩ | ⟨rfl, rfl, rfl, rfl⟩
            · go_wp2_with fail
              go_loopw [5, 6, 12] (fun b n i wq => ∃ j : Nat, j ≤ 3 ∧ i = .int .i64 ((j + 1 : Nat) : Int) ∧ b = .int .u8 ((Ch.rN 10 3 [38, 35] l x0 j).1.toNat : Int) ∧ n = .int .i64 ((Ch.rN 10 3 [38, 35] l x0 j).2 : Int) ∧ Below w.heap.size w wq) (fun _ _ i _ => 3 + 1 - (intOf i).toNat)
              case atStart => exact ⟨0, by omega, rfl, rfl, rfl, unhide HB3⟩
              case round =>
                obtain ⟨j, hj, rfl, rfl, rfl, hbel⟩ := hrel
                have HB4 := hide hbel
                clear hbel HB3
                match j, hj with
                | 0, _ =>
                  rcases ha : Ch.at0 l [38, 35] with _ | _
                  · have HC := hide (fun W => (unhide HAT) ⟨#[38, 35]⟩ false W (by decide) (by decide) ha)
                    have HE := hide (@rN_a 10 3 0 [38, 35] l x0 ha)
                    clear ha
                    go_wp2_with fail
                    refine ((unhide HC) _).mono ?_; rintro e wx ⟨rfl, hwx⟩; rw [hwx]; clear hwx wx
                    go_wp2_with fail
                    (refine ⟨?_, by simp [intOf]⟩; (repeat apply Exists.intro); refine And.intro ?_ rfl; exact ⟨1, by omega, by first | rfl | go_num, by rw [unhide HE], by rw [unhide HE], unhide HB4⟩)
                  · have HC := hide (fun W => (unhide HAT) ⟨#[38, 35]⟩ true W (by decide) (by decide) ha)
                    rcases hb : Ch.at0 (l.drop 3) [59] with _ | _
                    · have HD := hide (fun W => (unhide HAE) 3 false W (by decide) hb)
                      have HE := hide (@rN_b 10 3 0 [38, 35] l x0 hb)
                      clear ha hb
                      go_wp2_with fail
                      refine ((unhide HC) _).mono ?_; rintro e wx ⟨rfl, hwx⟩; rw [hwx]; clear hwx wx
                      go_wp2_with fail
                      refine ((unhide HD) _).mono ?_; rintro e wx ⟨rfl, hwx⟩; rw [hwx]; clear hwx wx
                      go_wp2_with fail
                      (refine ⟨?_, by simp [intOf]⟩; (repeat apply Exists.intro); refine And.intro ?_ rfl; exact ⟨1, by omega, by first | rfl | go_num, by rw [unhide HE], by rw [unhide HE], unhide HB4⟩)
                    · have HD := hide (fun W => (unhide HAE) 3 true W (by decide) hb)
                      have hsz : k + 3 + 1 ≤ s.size := by have h1 := at0_len hb; have h2 := unhide HLL; omega
                      have hpc := (unhide HPC) 2 1 (by omega)
                      have hts : (s.extract (k + 2) (k + 2 + 1)).size ≤ maxLen := by rw [Kb.size_list _ _ hpc]; unfold maxLen; simp; omega
                      rcases ans_cases 10 3 ((l.drop 2).take 1) (by omega) (by omega) (by omega) with hn | ⟨n, hn, n0, n1, _⟩
                      · have HF := hide (fun W => num_no (s.extract (k + 2) (k + 2 + 1)) 10 3 W hts (by omega) (by omega) (by omega) (by rw [hpc]; exact hn))
                        have HE := hide (@rN_c 10 3 0 [38, 35] l x0 ha hb (show Ch.nb (Num.ans 10 3 ((l.drop 2).take 1)) = none by rw [hn]; rfl))
                        clear ha hb hpc hts hn
                        go_wp2_with fail
                        refine ((unhide HC) _).mono ?_; rintro e wx ⟨rfl, hwx⟩; rw [hwx]; clear hwx wx
                        go_wp2_with fail
                        refine ((unhide HD) _).mono ?_; rintro e wx ⟨rfl, hwx⟩; rw [hwx]; clear hwx wx
                        go_wp2_with fail
                        refine ((unhide HF) _).mono ?_; rintro e wx ⟨rfl, hwx⟩; rw [hwx]; clear hwx wx
                        go_wp2_with fail
                        (refine ⟨?_, by simp [intOf]⟩; (repeat apply Exists.intro); refine And.intro ?_ rfl; exact ⟨1, by omega, by first | rfl | go_num, by rw [unhide HE], by rw [unhide HE], unhide HB4⟩)
                      · have HF := hide (fun W => num_is (s.extract (k + 2) (k + 2 + 1)) 10 n 3 W hts (by omega) (by omega) (by omega) (by rw [hpc]; exact hn))
                        by_cases n2 : n < 256
                        · have HE := hide (@rN_d 10 3 0 [38, 35] l x0 (UInt8.ofNat n.toNat) ha hb (show Ch.nb (Num.ans 10 3 ((l.drop 2).take 1)) = some (UInt8.ofNat n.toNat) by rw [hn]; simp [Ch.nb, n2]))
                          clear ha hb hpc hts hn n1
                          go_wp2_with fail
                          refine ((unhide HC) _).mono ?_; rintro e wx ⟨rfl, hwx⟩; rw [hwx]; clear hwx wx
                          go_wp2_with fail
                          refine ((unhide HD) _).mono ?_; rintro e wx ⟨rfl, hwx⟩; rw [hwx]; clear hwx wx
                          go_wp2_with fail
                          refine ((unhide HF) _).mono ?_; rintro e wx ⟨rfl, hwx⟩; rw [hwx]; clear hwx wx
                          go_wp2_with fail
                          (refine ⟨?_, by simp [intOf]⟩; (repeat apply Exists.intro); refine And.intro ?_ rfl; exact ⟨1, by omega, by first | rfl | go_num, by rw [unhide HE]; congr 1; first | (simp; done) | (simp; omega), by rw [unhide HE]; rfl, unhide HB4⟩)
                        · have HE := hide (@rN_c 10 3 0 [38, 35] l x0 ha hb (show Ch.nb (Num.ans 10 3 ((l.drop 2).take 1)) = none by rw [hn]; simp [Ch.nb]; omega))
                          clear ha hb hpc hts hn n1
                          go_wp2_with fail
                          refine ((unhide HC) _).mono ?_; rintro e wx ⟨rfl, hwx⟩; rw [hwx]; clear hwx wx
                          go_wp2_with fail
                          refine ((unhide HD) _).mono ?_; rintro e wx ⟨rfl, hwx⟩; rw [hwx]; clear hwx wx
                          go_wp2_with fail
                          refine ((unhide HF) _).mono ?_; rintro e wx ⟨rfl, hwx⟩; rw [hwx]; clear hwx wx
                          go_wp2_with fail
                          (refine ⟨?_, by simp [intOf]⟩; (repeat apply Exists.intro); refine And.intro ?_ rfl; exact ⟨1, by omega, by first | rfl | go_num, by rw [unhide HE], by rw [unhide HE], unhide HB4⟩)
                | 1, _ =>
                  rcases ha : Ch.at0 l [38, 35] with _ | _
                  · have HC := hide (fun W => (unhide HAT) ⟨#[38, 35]⟩ false W (by decide) (by decide) ha)
                    have HE := hide (@rN_a 10 3 1 [38, 35] l x0 ha)
                    clear ha
                    go_wp2_with fail
                    refine ((unhide HC) _).mono ?_; rintro e wx ⟨rfl, hwx⟩; rw [hwx]; clear hwx wx
                    go_wp2_with fail
                    (refine ⟨?_, by simp [intOf]⟩; (repeat apply Exists.intro); refine And.intro ?_ rfl; exact ⟨2, by omega, by first | rfl | go_num, by rw [unhide HE], by rw [unhide HE], unhide HB4⟩)
                  · have HC := hide (fun W => (unhide HAT) ⟨#[38, 35]⟩ true W (by decide) (by decide) ha)
                    rcases hb : Ch.at0 (l.drop 4) [59] with _ | _
                    · have HD := hide (fun W => (unhide HAE) 4 false W (by decide) hb)
                      have HE := hide (@rN_b 10 3 1 [38, 35] l x0 hb)
                      clear ha hb
                      go_wp2_with fail
                      refine ((unhide HC) _).mono ?_; rintro e wx ⟨rfl, hwx⟩; rw [hwx]; clear hwx wx
                      go_wp2_with fail
                      refine ((unhide HD) _).mono ?_; rintro e wx ⟨rfl, hwx⟩; rw [hwx]; clear hwx wx
                      go_wp2_with fail
                      (refine ⟨?_, by simp [intOf]⟩; (repeat apply Exists.intro); refine And.intro ?_ rfl; exact ⟨2, by omega, by first | rfl | go_num, by rw [unhide HE], by rw [unhide HE], unhide HB4⟩)
                    · have HD := hide (fun W => (unhide HAE) 4 true W (by decide) hb)
                      have hsz : k + 4 + 1 ≤ s.size := by have h1 := at0_len hb; have h2 := unhide HLL; omega
                      have hpc := (unhide HPC) 2 2 (by omega)
                      have hts : (s.extract (k + 2) (k + 2 + 2)).size ≤ maxLen := by rw [Kb.size_list _ _ hpc]; unfold maxLen; simp; omega
                      rcases ans_cases 10 3 ((l.drop 2).take 2) (by omega) (by omega) (by omega) with hn | ⟨n, hn, n0, n1, _⟩
                      · have HF := hide (fun W => num_no (s.extract (k + 2) (k + 2 + 2)) 10 3 W hts (by omega) (by omega) (by omega) (by rw [hpc]; exact hn))
                        have HE := hide (@rN_c 10 3 1 [38, 35] l x0 ha hb (show Ch.nb (Num.ans 10 3 ((l.drop 2).take 2)) = none by rw [hn]; rfl))
                        clear ha hb hpc hts hn
                        go_wp2_with fail
                        refine ((unhide HC) _).mono ?_; rintro e wx ⟨rfl, hwx⟩; rw [hwx]; clear hwx wx
                        go_wp2_with fail
                        refine ((unhide HD) _).mono ?_; rintro e wx ⟨rfl, hwx⟩; rw [hwx]; clear hwx wx
                        go_wp2_with fail
                        refine ((unhide HF) _).mono ?_; rintro e wx ⟨rfl, hwx⟩; rw [hwx]; clear hwx wx
                        go_wp2_with fail
                        (refine ⟨?_, by simp [intOf]⟩; (repeat apply Exists.intro); refine And.intro ?_ rfl; exact ⟨2, by omega, by first | rfl | go_num, by rw [unhide HE], by rw [unhide HE], unhide HB4⟩)
                      · have HF := hide (fun W => num_is (s.extract (k + 2) (k + 2 + 2)) 10 n 3 W hts (by omega) (by omega) (by omega) (by rw [hpc]; exact hn))
                        by_cases n2 : n < 256
                        · have HE := hide (@rN_d 10 3 1 [38, 35] l x0 (UInt8.ofNat n.toNat) ha hb (show Ch.nb (Num.ans 10 3 ((l.drop 2).take 2)) = some (UInt8.ofNat n.toNat) by rw [hn]; simp [Ch.nb, n2]))
                          clear ha hb hpc hts hn n1
                          go_wp2_with fail
                          refine ((unhide HC) _).mono ?_; rintro e wx ⟨rfl, hwx⟩; rw [hwx]; clear hwx wx
                          go_wp2_with fail
                          refine ((unhide HD) _).mono ?_; rintro e wx ⟨rfl, hwx⟩; rw [hwx]; clear hwx wx
                          go_wp2_with fail
                          refine ((unhide HF) _).mono ?_; rintro e wx ⟨rfl, hwx⟩; rw [hwx]; clear hwx wx
                          go_wp2_with fail
                          (refine ⟨?_, by simp [intOf]⟩; (repeat apply Exists.intro); refine And.intro ?_ rfl; exact ⟨2, by omega, by first | rfl | go_num, by rw [unhide HE]; congr 1; first | (simp; done) | (simp; omega), by rw [unhide HE]; rfl, unhide HB4⟩)
                        · have HE := hide (@rN_c 10 3 1 [38, 35] l x0 ha hb (show Ch.nb (Num.ans 10 3 ((l.drop 2).take 2)) = none by rw [hn]; simp [Ch.nb]; omega))
                          clear ha hb hpc hts hn n1
                          go_wp2_with fail
                          refine ((unhide HC) _).mono ?_; rintro e wx ⟨rfl, hwx⟩; rw [hwx]; clear hwx wx
                          go_wp2_with fail
                          refine ((unhide HD) _).mono ?_; rintro e wx ⟨rfl, hwx⟩; rw [hwx]; clear hwx wx
                          go_wp2_with fail
                          refine ((unhide HF) _).mono ?_; rintro e wx ⟨rfl, hwx⟩; rw [hwx]; clear hwx wx
                          go_wp2_with fail
                          (refine ⟨?_, by simp [intOf]⟩; (repeat apply Exists.intro); refine And.intro ?_ rfl; exact ⟨2, by omega, by first | rfl | go_num, by rw [unhide HE], by rw [unhide HE], unhide HB4⟩)
                | 2, _ =>
                  rcases ha : Ch.at0 l [38, 35] with _ | _
                  · have HC := hide (fun W => (unhide HAT) ⟨#[38, 35]⟩ false W (by decide) (by decide) ha)
                    have HE := hide (@rN_a 10 3 2 [38, 35] l x0 ha)
                    clear ha
                    go_wp2_with fail
                    refine ((unhide HC) _).mono ?_; rintro e wx ⟨rfl, hwx⟩; rw [hwx]; clear hwx wx
                    go_wp2_with fail
                    (refine ⟨?_, by simp [intOf]⟩; (repeat apply Exists.intro); refine And.intro ?_ rfl; exact ⟨3, by omega, by first | rfl | go_num, by rw [unhide HE], by rw [unhide HE], unhide HB4⟩)
                  · have HC := hide (fun W => (unhide HAT) ⟨#[38, 35]⟩ true W (by decide) (by decide) ha)
                    rcases hb : Ch.at0 (l.drop 5) [59] with _ | _
                    · have HD := hide (fun W => (unhide HAE) 5 false W (by decide) hb)
                      have HE := hide (@rN_b 10 3 2 [38, 35] l x0 hb)
                      clear ha hb
                      go_wp2_with fail
                      refine ((unhide HC) _).mono ?_; rintro e wx ⟨rfl, hwx⟩; rw [hwx]; clear hwx wx
                      go_wp2_with fail
                      refine ((unhide HD) _).mono ?_; rintro e wx ⟨rfl, hwx⟩; rw [hwx]; clear hwx wx
                      go_wp2_with fail
                      (refine ⟨?_, by simp [intOf]⟩; (repeat apply Exists.intro); refine And.intro ?_ rfl; exact ⟨3, by omega, by first | rfl | go_num, by rw [unhide HE], by rw [unhide HE], unhide HB4⟩)
                    · have HD := hide (fun W => (unhide HAE) 5 true W (by decide) hb)
                      have hsz : k + 5 + 1 ≤ s.size := by have h1 := at0_len hb; have h2 := unhide HLL; omega
                      have hpc := (unhide HPC) 2 3 (by omega)
                      have hts : (s.extract (k + 2) (k + 2 + 3)).size ≤ maxLen := by rw [Kb.size_list _ _ hpc]; unfold maxLen; simp; omega
                      rcases ans_cases 10 3 ((l.drop 2).take 3) (by omega) (by omega) (by omega) with hn | ⟨n, hn, n0, n1, _⟩
                      · have HF := hide (fun W => num_no (s.extract (k + 2) (k + 2 + 3)) 10 3 W hts (by omega) (by omega) (by omega) (by rw [hpc]; exact hn))
                        have HE := hide (@rN_c 10 3 2 [38, 35] l x0 ha hb (show Ch.nb (Num.ans 10 3 ((l.drop 2).take 3)) = none by rw [hn]; rfl))
                        clear ha hb hpc hts hn
                        go_wp2_with fail
                        refine ((unhide HC) _).mono ?_; rintro e wx ⟨rfl, hwx⟩; rw [hwx]; clear hwx wx
                        go_wp2_with fail
                        refine ((unhide HD) _).mono ?_; rintro e wx ⟨rfl, hwx⟩; rw [hwx]; clear hwx wx
                        go_wp2_with fail
                        refine ((unhide HF) _).mono ?_; rintro e wx ⟨rfl, hwx⟩; rw [hwx]; clear hwx wx
                        go_wp2_with fail
                        (refine ⟨?_, by simp [intOf]⟩; (repeat apply Exists.intro); refine And.intro ?_ rfl; exact ⟨3, by omega, by first | rfl | go_num, by rw [unhide HE], by rw [unhide HE], unhide HB4⟩)
                      · have HF := hide (fun W => num_is (s.extract (k + 2) (k + 2 + 3)) 10 n 3 W hts (by omega) (by omega) (by omega) (by rw [hpc]; exact hn))
                        by_cases n2 : n < 256
                        · have HE := hide (@rN_d 10 3 2 [38, 35] l x0 (UInt8.ofNat n.toNat) ha hb (show Ch.nb (Num.ans 10 3 ((l.drop 2).take 3)) = some (UInt8.ofNat n.toNat) by rw [hn]; simp [Ch.nb, n2]))
                          clear ha hb hpc hts hn n1
                          go_wp2_with fail
                          refine ((unhide HC) _).mono ?_; rintro e wx ⟨rfl, hwx⟩; rw [hwx]; clear hwx wx
                          go_wp2_with fail
                          refine ((unhide HD) _).mono ?_; rintro e wx ⟨rfl, hwx⟩; rw [hwx]; clear hwx wx
                          go_wp2_with fail
                          refine ((unhide HF) _).mono ?_; rintro e wx ⟨rfl, hwx⟩; rw [hwx]; clear hwx wx
                          go_wp2_with fail
                          (refine ⟨?_, by simp [intOf]⟩; (repeat apply Exists.intro); refine And.intro ?_ rfl; exact ⟨3, by omega, by first | rfl | go_num, by rw [unhide HE]; congr 1; first | (simp; done) | (simp; omega), by rw [unhide HE]; rfl, unhide HB4⟩)
                        · have HE := hide (@rN_c 10 3 2 [38, 35] l x0 ha hb (show Ch.nb (Num.ans 10 3 ((l.drop 2).take 3)) = none by rw [hn]; simp [Ch.nb]; omega))
                          clear ha hb hpc hts hn n1
                          go_wp2_with fail
                          refine ((unhide HC) _).mono ?_; rintro e wx ⟨rfl, hwx⟩; rw [hwx]; clear hwx wx
                          go_wp2_with fail
                          refine ((unhide HD) _).mono ?_; rintro e wx ⟨rfl, hwx⟩; rw [hwx]; clear hwx wx
                          go_wp2_with fail
                          refine ((unhide HF) _).mono ?_; rintro e wx ⟨rfl, hwx⟩; rw [hwx]; clear hwx wx
                          go_wp2_with fail
                          (refine ⟨?_, by simp [intOf]⟩; (repeat apply Exists.intro); refine And.intro ?_ rfl; exact ⟨3, by omega, by first | rfl | go_num, by rw [unhide HE], by rw [unhide HE], unhide HB4⟩)
                | 3, _ =>
                  go_wp2_with fail
                  exact ⟨⟨.inr (.inl ⟨rfl, rfl, by rw [unhide HX1], by rw [unhide HX1]⟩), unhide HB4⟩, by simp [intOf]⟩
            · go_wp2_with fail
              go_loopw [5, 6, 12] (fun b n i wq => ∃ j : Nat, j ≤ 2 ∧ i = .int .i64 ((j + 1 : Nat) : Int) ∧ b = .int .u8 ((Ch.rN 16 2 [38, 35, 120] l x1 j).1.toNat : Int) ∧ n = .int .i64 ((Ch.rN 16 2 [38, 35, 120] l x1 j).2 : Int) ∧ Below w.heap.size w wq) (fun _ _ i _ => 2 + 1 - (intOf i).toNat)
              case atStart => exact ⟨0, by omega, rfl, rfl, rfl, unhide HB3⟩
              case round =>
                obtain ⟨j, hj, rfl, rfl, rfl, hbel⟩ := hrel
                have HB4 := hide hbel
                clear hbel HB3
                match j, hj with
                | 0, _ =>
                  rcases ha : Ch.at0 l [38, 35, 120] with _ | _
                  · have HC := hide (fun W => (unhide HAT) ⟨#[38, 35, 120]⟩ false W (by decide) (by decide) ha)
                    have HE := hide (@rN_a 16 2 0 [38, 35, 120] l x1 ha)
                    clear ha
                    go_wp2_with fail
                    refine ((unhide HC) _).mono ?_; rintro e wx ⟨rfl, hwx⟩; rw [hwx]; clear hwx wx
                    go_wp2_with fail
                    (refine ⟨?_, by simp [intOf]⟩; (repeat apply Exists.intro); refine And.intro ?_ rfl; exact ⟨1, by omega, by first | rfl | go_num, by rw [unhide HE], by rw [unhide HE], unhide HB4⟩)
                  · have HC := hide (fun W => (unhide HAT) ⟨#[38, 35, 120]⟩ true W (by decide) (by decide) ha)
                    rcases hb : Ch.at0 (l.drop 4) [59] with _ | _
                    · have HD := hide (fun W => (unhide HAE) 4 false W (by decide) hb)
                      have HE := hide (@rN_b 16 2 0 [38, 35, 120] l x1 hb)
                      clear ha hb
                      go_wp2_with fail
                      refine ((unhide HC) _).mono ?_; rintro e wx ⟨rfl, hwx⟩; rw [hwx]; clear hwx wx
                      go_wp2_with fail
                      refine ((unhide HD) _).mono ?_; rintro e wx ⟨rfl, hwx⟩; rw [hwx]; clear hwx wx
                      go_wp2_with fail
                      (refine ⟨?_, by simp [intOf]⟩; (repeat apply Exists.intro); refine And.intro ?_ rfl; exact ⟨1, by omega, by first | rfl | go_num, by rw [unhide HE], by rw [unhide HE], unhide HB4⟩)
                    · have HD := hide (fun W => (unhide HAE) 4 true W (by decide) hb)
                      have hsz : k + 4 + 1 ≤ s.size := by have h1 := at0_len hb; have h2 := unhide HLL; omega
                      have hpc := (unhide HPC) 3 1 (by omega)
                      have hts : (s.extract (k + 3) (k + 3 + 1)).size ≤ maxLen := by rw [Kb.size_list _ _ hpc]; unfold maxLen; simp; omega
                      rcases ans_cases 16 2 ((l.drop 3).take 1) (by omega) (by omega) (by omega) with hn | ⟨n, hn, n0, n1, _⟩
                      · have HF := hide (fun W => num_no (s.extract (k + 3) (k + 3 + 1)) 16 2 W hts (by omega) (by omega) (by omega) (by rw [hpc]; exact hn))
                        have HE := hide (@rN_c 16 2 0 [38, 35, 120] l x1 ha hb (show Ch.nb (Num.ans 16 2 ((l.drop 3).take 1)) = none by rw [hn]; rfl))
                        clear ha hb hpc hts hn
                        go_wp2_with fail
                        refine ((unhide HC) _).mono ?_; rintro e wx ⟨rfl, hwx⟩; rw [hwx]; clear hwx wx
                        go_wp2_with fail
                        refine ((unhide HD) _).mono ?_; rintro e wx ⟨rfl, hwx⟩; rw [hwx]; clear hwx wx
                        go_wp2_with fail
                        refine ((unhide HF) _).mono ?_; rintro e wx ⟨rfl, hwx⟩; rw [hwx]; clear hwx wx
                        go_wp2_with fail
                        (refine ⟨?_, by simp [intOf]⟩; (repeat apply Exists.intro); refine And.intro ?_ rfl; exact ⟨1, by omega, by first | rfl | go_num, by rw [unhide HE], by rw [unhide HE], unhide HB4⟩)
                      · have HF := hide (fun W => num_is (s.extract (k + 3) (k + 3 + 1)) 16 n 2 W hts (by omega) (by omega) (by omega) (by rw [hpc]; exact hn))
                        by_cases n2 : n < 256
                        · have HE := hide (@rN_d 16 2 0 [38, 35, 120] l x1 (UInt8.ofNat n.toNat) ha hb (show Ch.nb (Num.ans 16 2 ((l.drop 3).take 1)) = some (UInt8.ofNat n.toNat) by rw [hn]; simp [Ch.nb, n2]))
                          clear ha hb hpc hts hn n1
                          go_wp2_with fail
                          refine ((unhide HC) _).mono ?_; rintro e wx ⟨rfl, hwx⟩; rw [hwx]; clear hwx wx
                          go_wp2_with fail
                          refine ((unhide HD) _).mono ?_; rintro e wx ⟨rfl, hwx⟩; rw [hwx]; clear hwx wx
                          go_wp2_with fail
                          refine ((unhide HF) _).mono ?_; rintro e wx ⟨rfl, hwx⟩; rw [hwx]; clear hwx wx
                          go_wp2_with fail
                          (refine ⟨?_, by simp [intOf]⟩; (repeat apply Exists.intro); refine And.intro ?_ rfl; exact ⟨1, by omega, by first | rfl | go_num, by rw [unhide HE]; congr 1; first | (simp; done) | (simp; omega), by rw [unhide HE]; rfl, unhide HB4⟩)
                        · have HE := hide (@rN_c 16 2 0 [38, 35, 120] l x1 ha hb (show Ch.nb (Num.ans 16 2 ((l.drop 3).take 1)) = none by rw [hn]; simp [Ch.nb]; omega))
                          clear ha hb hpc hts hn n1
                          go_wp2_with fail
                          refine ((unhide HC) _).mono ?_; rintro e wx ⟨rfl, hwx⟩; rw [hwx]; clear hwx wx
                          go_wp2_with fail
                          refine ((unhide HD) _).mono ?_; rintro e wx ⟨rfl, hwx⟩; rw [hwx]; clear hwx wx
                          go_wp2_with fail
                          refine ((unhide HF) _).mono ?_; rintro e wx ⟨rfl, hwx⟩; rw [hwx]; clear hwx wx
                          go_wp2_with fail
                          (refine ⟨?_, by simp [intOf]⟩; (repeat apply Exists.intro); refine And.intro ?_ rfl; exact ⟨1, by omega, by first | rfl | go_num, by rw [unhide HE], by rw [unhide HE], unhide HB4⟩)
                | 1, _ =>
                  rcases ha : Ch.at0 l [38, 35, 120] with _ | _
                  · have HC := hide (fun W => (unhide HAT) ⟨#[38, 35, 120]⟩ false W (by decide) (by decide) ha)
                    have HE := hide (@rN_a 16 2 1 [38, 35, 120] l x1 ha)
                    clear ha
                    go_wp2_with fail
                    refine ((unhide HC) _).mono ?_; rintro e wx ⟨rfl, hwx⟩; rw [hwx]; clear hwx wx
                    go_wp2_with fail
                    (refine ⟨?_, by simp [intOf]⟩; (repeat apply Exists.intro); refine And.intro ?_ rfl; exact ⟨2, by omega, by first | rfl | go_num, by rw [unhide HE], by rw [unhide HE], unhide HB4⟩)
                  · have HC := hide (fun W => (unhide HAT) ⟨#[38, 35, 120]⟩ true W (by decide) (by decide) ha)
                    rcases hb : Ch.at0 (l.drop 5) [59] with _ | _
                    · have HD := hide (fun W => (unhide HAE) 5 false W (by decide) hb)
                      have HE := hide (@rN_b 16 2 1 [38, 35, 120] l x1 hb)
                      clear ha hb
                      go_wp2_with fail
                      refine ((unhide HC) _).mono ?_; rintro e wx ⟨rfl, hwx⟩; rw [hwx]; clear hwx wx
                      go_wp2_with fail
                      refine ((unhide HD) _).mono ?_; rintro e wx ⟨rfl, hwx⟩; rw [hwx]; clear hwx wx
                      go_wp2_with fail
                      (refine ⟨?_, by simp [intOf]⟩; (repeat apply Exists.intro); refine And.intro ?_ rfl; exact ⟨2, by omega, by first | rfl | go_num, by rw [unhide HE], by rw [unhide HE], unhide HB4⟩)
                    · have HD := hide (fun W => (unhide HAE) 5 true W (by decide) hb)
                      have hsz : k + 5 + 1 ≤ s.size := by have h1 := at0_len hb; have h2 := unhide HLL; omega
                      have hpc := (unhide HPC) 3 2 (by omega)
                      have hts : (s.extract (k + 3) (k + 3 + 2)).size ≤ maxLen := by rw [Kb.size_list _ _ hpc]; unfold maxLen; simp; omega
                      rcases ans_cases 16 2 ((l.drop 3).take 2) (by omega) (by omega) (by omega) with hn | ⟨n, hn, n0, n1, _⟩
                      · have HF := hide (fun W => num_no (s.extract (k + 3) (k + 3 + 2)) 16 2 W hts (by omega) (by omega) (by omega) (by rw [hpc]; exact hn))
                        have HE := hide (@rN_c 16 2 1 [38, 35, 120] l x1 ha hb (show Ch.nb (Num.ans 16 2 ((l.drop 3).take 2)) = none by rw [hn]; rfl))
                        clear ha hb hpc hts hn
                        go_wp2_with fail
                        refine ((unhide HC) _).mono ?_; rintro e wx ⟨rfl, hwx⟩; rw [hwx]; clear hwx wx
                        go_wp2_with fail
                        refine ((unhide HD) _).mono ?_; rintro e wx ⟨rfl, hwx⟩; rw [hwx]; clear hwx wx
                        go_wp2_with fail
                        refine ((unhide HF) _).mono ?_; rintro e wx ⟨rfl, hwx⟩; rw [hwx]; clear hwx wx
                        go_wp2_with fail
                        (refine ⟨?_, by simp [intOf]⟩; (repeat apply Exists.intro); refine And.intro ?_ rfl; exact ⟨2, by omega, by first | rfl | go_num, by rw [unhide HE], by rw [unhide HE], unhide HB4⟩)
                      · have HF := hide (fun W => num_is (s.extract (k + 3) (k + 3 + 2)) 16 n 2 W hts (by omega) (by omega) (by omega) (by rw [hpc]; exact hn))
                        by_cases n2 : n < 256
                        · have HE := hide (@rN_d 16 2 1 [38, 35, 120] l x1 (UInt8.ofNat n.toNat) ha hb (show Ch.nb (Num.ans 16 2 ((l.drop 3).take 2)) = some (UInt8.ofNat n.toNat) by rw [hn]; simp [Ch.nb, n2]))
                          clear ha hb hpc hts hn n1
                          go_wp2_with fail
                          refine ((unhide HC) _).mono ?_; rintro e wx ⟨rfl, hwx⟩; rw [hwx]; clear hwx wx
                          go_wp2_with fail
                          refine ((unhide HD) _).mono ?_; rintro e wx ⟨rfl, hwx⟩; rw [hwx]; clear hwx wx
                          go_wp2_with fail
                          refine ((unhide HF) _).mono ?_; rintro e wx ⟨rfl, hwx⟩; rw [hwx]; clear hwx wx
                          go_wp2_with fail
                          (refine ⟨?_, by simp [intOf]⟩; (repeat apply Exists.intro); refine And.intro ?_ rfl; exact ⟨2, by omega, by first | rfl | go_num, by rw [unhide HE]; congr 1; first | (simp; done) | (simp; omega), by rw [unhide HE]; rfl, unhide HB4⟩)
                        · have HE := hide (@rN_c 16 2 1 [38, 35, 120] l x1 ha hb (show Ch.nb (Num.ans 16 2 ((l.drop 3).take 2)) = none by rw [hn]; simp [Ch.nb]; omega))
                          clear ha hb hpc hts hn n1
                          go_wp2_with fail
                          refine ((unhide HC) _).mono ?_; rintro e wx ⟨rfl, hwx⟩; rw [hwx]; clear hwx wx
                          go_wp2_with fail
                          refine ((unhide HD) _).mono ?_; rintro e wx ⟨rfl, hwx⟩; rw [hwx]; clear hwx wx
                          go_wp2_with fail
                          refine ((unhide HF) _).mono ?_; rintro e wx ⟨rfl, hwx⟩; rw [hwx]; clear hwx wx
                          go_wp2_with fail
                          (refine ⟨?_, by simp [intOf]⟩; (repeat apply Exists.intro); refine And.intro ?_ rfl; exact ⟨2, by omega, by first | rfl | go_num, by rw [unhide HE], by rw [unhide HE], unhide HB4⟩)
                | 2, _ =>
                  go_wp2_with fail
                  exact ⟨⟨.inr (.inr ⟨rfl, rfl, by rw [unhide HX2], by rw [unhide HX2]⟩), unhide HB4⟩, by simp [intOf]⟩
            · obtain ⟨c, n⟩ := x2
              obtain ⟨hn1, hn2, hn3⟩ := (unhide HN) c n (unhide HX)
              have HR := hide hn1
              clear hn1
              have hcv : ∀ (W : World) (b : Nat), W.cell? ⟨b, 0, none⟩ = some (.int .u8 c.toNat) → (convert 36 9 (.slice (some ⟨b, 0, none⟩) 1 1)).run Tryz.prog W = .ok (.string ⟨[c].toArray⟩) W := fun W b h => Kb.conv_one W b _ h
              have HE := hide (app_data (unhide HO) (show (⟨[c].toArray⟩ : ByteArray).data.toList = [c] from rfl))
              go_wp2_with fail
              exact ⟨⟨k + n, out ++ [c], _, by omega, by simp; omega, by go_num, rfl, unhide HE, unhide HR, (unhide HB3).alloc (unhide HB3).size _⟩, by simp [intOf]; omega⟩
    · have HR := hide (scan_last (unhide HU) (Kb.drop_end s k (by omega)))
      go_wp2
      go_ret
      exact ⟨Kb.ret_str (eq_of_lists (by rw [unhide HQ, unhide HO]; unfold Ch.htmlDec; rw [unhide HR])), unhide HB⟩
end Go.Proofs.YtkhbfdokkmebhaaGreatDoor
