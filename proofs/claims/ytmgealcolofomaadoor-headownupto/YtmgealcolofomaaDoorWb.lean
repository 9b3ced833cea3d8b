/- Walks of numbers: the program's number, Dec, Hex. -/
import Derived.Test.YtmgealcolofomaaDoorWa
namespace Go.Proofs.YtmgealcolofomaaDoor
open Go.RowKit
set_option linter.unusedVariables false
set_option maxRecDepth 20000

theorem ret_ints {k j : IntKind} {a b c d : Int} (h : a = b) (g : c = d) : Ending.returned (.tuple #[.int k a, .int j c]) = .returned (.tuple #[.int k b, .int j d]) := by rw [h, g]

theorem digit_yes (c d : Int) (w : World) (h0 : 0 ≤ c) (h1 : c ≤ 255) (h : digS c = d) (hd : 0 ≤ d) :
    Calls Tryd.prog 112 #[.int .u8 c] w fun e w' => e = .returned (.tuple #[.int .i64 d, .bool true]) ∧ w' = w := by
  refine (digit_any c w h0 h1).mono ?_
  rintro e w' ⟨rfl, rfl⟩
  exact ⟨ret_int_bool (by unfold digV; rw [h]; split <;> omega) (by unfold digB; rw [h]; simp [hd]), rfl⟩
theorem digit_no (c : Int) (w : World) (h0 : 0 ≤ c) (h1 : c ≤ 255) (h : digS c < 0) :
    Calls Tryd.prog 112 #[.int .u8 c] w fun e w' => e = .returned (.tuple #[.int .i64 0, .bool false]) ∧ w' = w := by
  refine (digit_any c w h0 h1).mono ?_
  rintro e w' ⟨rfl, rfl⟩
  exact ⟨ret_int_bool (by unfold digV; rw [if_pos h]) (by unfold digB; simp; omega), rfl⟩
theorem digS_small (c : Int) : digS (smallOf c) = Num.dig c := by
  unfold digS smallOf Num.dig; repeat' split <;> omega
theorem small_bd (c : Int) (h0 : 0 ≤ c) (h1 : c ≤ 255) : 0 ≤ smallOf c ∧ smallOf c ≤ 255 := by unfold smallOf; split <;> omega

theorem step_yes {base n d : Int} {c : UInt8} (h : Num.dig c.toNat = d) (h0 : 0 ≤ d) (h1 : d < base) : Num.step base (some n) c = some (n * base + d) := by
  unfold Num.step; simp only [h]; rw [if_neg (by omega)]
theorem step_no {base : Int} {o : Option Int} {c : UInt8} (h : Num.dig c.toNat < 0 ∨ base ≤ Num.dig c.toNat) : Num.step base o c = none := by
  unfold Num.step; cases o <;> simp [h]

theorem ans_bad (base : Int) (most : Nat) (s : ByteArray) (k : Nat) (hk : k < s.size) (h : Num.dig s[k].toNat < 0 ∨ base ≤ Num.dig s[k].toNat) : Num.ans base most s.data.toList = (0, 4) := by
  have e : s.data.toList = s.data.toList.take (k + 1) ++ s.data.toList.drop (k + 1) := (List.take_append_drop _ _).symm
  have : Num.num base s.data.toList = none := by
    rw [e]; apply Num.num_none; rw [Num.take_snoc s k hk, Num.num_snoc]; exact step_no h
  unfold Num.ans; rw [this]; split <;> rfl
theorem ans_len (base : Int) (most : Nat) (s : ByteArray) (h : s.size < 1 ∨ most < s.size) : Num.ans base most s.data.toList = (0, 4) := by
  unfold Num.ans; rw [if_pos (by simpa using h)]
theorem ans_good (base n : Int) (most : Nat) (s : ByteArray) (h1 : 1 ≤ s.size) (h2 : s.size ≤ most) (h : Num.num base s.data.toList = some n) : Num.ans base most s.data.toList = (n, 0) := by
  unfold Num.ans; rw [if_neg (by simp only [Array.length_toList]; change ¬ (s.size < 1 ∨ most < s.size); omega), h]

theorem pow_bd (k : Nat) (h : k ≤ 9) : (16 : Int) ^ k ≤ 68719476736 := by
  have : ∀ k : Fin 10, (16 : Int) ^ k.1 ≤ 68719476736 := by decide
  exact this ⟨k, by omega⟩

/-- what the round reckons stays far within an int -/
theorem mul_bd {n base : Int} (h0 : 0 ≤ n) (h1 : n < 68719476736) (h2 : 2 ≤ base) (h3 : base ≤ 16) : 0 ≤ n * base ∧ n * base ≤ 1099511627776 := by
  refine ⟨Int.mul_nonneg h0 (by omega), ?_⟩
  have := Int.mul_le_mul (a := n) (b := base) (c := 68719476736) (d := 16) (by omega) h3 (by omega) (by omega)
  omega

set_option maxHeartbeats 1000000 in
theorem number_any (s : ByteArray) (base : Int) (most : Nat) (w : World) (hs : s.size ≤ maxLen) (hb2 : 2 ≤ base) (hb16 : base ≤ 16) (hm : most ≤ 9) :
    Calls Tryd.prog 91 #[.string s, .int .i64 base, .int .i64 most] w fun e w' => e = .returned (.tuple #[.int .i64 (Num.ans base most s.data.toList).1, .int .i64 (Num.ans base most s.data.toList).2]) ∧ w' = w := by
  unfold maxLen at hs
  by_cases h1 : s.size < 1
  · have H := hide (ans_len base most s (.inl h1))
    have h1' : (s.size : Int) < 1 := by omega
    go_enter Tryd.func91, Tryd.ntmps91
    go_wp2
    go_ret2
    exact ⟨ret_ints (by rw [unhide H]) (by rw [unhide H]), rfl⟩
  by_cases h2 : most < s.size
  · have H := hide (ans_len base most s (.inr h2))
    go_enter Tryd.func91, Tryd.ntmps91
    go_wp2
    go_ret2
    exact ⟨ret_ints (by rw [unhide H]) (by rw [unhide H]), rfl⟩
  have h3 : s.size ≤ 9 := by omega
  go_enter Tryd.func91, Tryd.ntmps91
  go_wp2
  go_loop [8, 23] (fun n i => ∃ (k : Nat) (m : Int), k ≤ s.size ∧ i = .int .i64 k ∧ n = .int .i64 m ∧ Num.num base (s.data.toList.take k) = some m) (fun _ i => s.size - (intOf i).toNat)
  case atStart => exact ⟨0, 0, by omega, rfl, rfl, rfl⟩
  case round =>
    obtain ⟨k, m, hk, rfl, rfl, hn⟩ := hrel
    have hmb := Num.num_bd base hb2 hb16 k _ m (by rw [List.length_take]; simp; omega) hn
    have hpw := pow_bd k (by omega)
    have hmb1 : 0 ≤ m ∧ m < 68719476736 := by omega
    have hmm := mul_bd hmb1.1 hmb1.2 hb2 hb16
    clear hmb hpw
    have HN := hide hn
    clear hn
    by_cases hlt : k < s.size
    · have hc : 0 ≤ (s[k].toNat : Int) ∧ (s[k].toNat : Int) ≤ 255 := by have := s[k].toNat_lt; omega
      have hsm := small_bd _ hc.1 hc.2
      have hdS := hide (digS_small s[k].toNat)
      have hdb := Num.dig_bd s[k].toNat
      by_cases hneg : Num.dig s[k].toNat < 0
      · have HB := hide (ans_bad base most s k hlt (.inl hneg))
        have HD : Hid (digS (smallOf s[k].toNat) < 0) := hide (by rw [unhide hdS]; exact hneg)
        clear hneg hdb hdS
        go_wp2_with (first | (go_at_call 57; refine (small_any _ _ hc.1 hc.2).mono ?_; rintro e w' ⟨rfl, rfl⟩) | (go_at_call 112; refine (digit_no _ _ hsm.1 hsm.2 (unhide HD)).mono ?_; rintro e w' ⟨rfl, rfl⟩))
        go_ret2
        exact ⟨ret_ints (by rw [unhide HB]) (by rw [unhide HB]), rfl⟩
      · obtain ⟨d, hd⟩ : ∃ d, Num.dig s[k].toNat = d := ⟨_, rfl⟩
        have HD : Hid (digS (smallOf s[k].toNat) = d) := hide (by rw [unhide hdS]; exact hd)
        have HB := hide (ans_bad base most s k hlt)
        have HS : Hid (0 ≤ d → d < base → Num.num base (s.data.toList.take (k + 1)) = some (m * base + d)) := hide (fun g0 g1 => by rw [Num.take_snoc s k hlt, Num.num_snoc, unhide HN]; exact step_yes hd g0 g1)
        rw [hd] at hneg hdb HB
        clear hdS hd
        have hd0 : 0 ≤ d := by omega
        have hd15 : d ≤ 15 := hdb.2
        clear hneg hdb
        by_cases hbig : base ≤ d
        · go_wp2_with (first | (go_at_call 57; refine (small_any _ _ hc.1 hc.2).mono ?_; rintro e w' ⟨rfl, rfl⟩) | (go_at_call 112; refine (digit_yes _ d _ hsm.1 hsm.2 (unhide HD) hd0).mono ?_; rintro e w' ⟨rfl, rfl⟩))
          go_ret2
          exact ⟨ret_ints (by rw [unhide HB (.inr hbig)]) (by rw [unhide HB (.inr hbig)]), rfl⟩
        · go_wp2_with (first | (go_at_call 57; refine (small_any _ _ hc.1 hc.2).mono ?_; rintro e w' ⟨rfl, rfl⟩) | (go_at_call 112; refine (digit_yes _ d _ hsm.1 hsm.2 (unhide HD) hd0).mono ?_; rintro e w' ⟨rfl, rfl⟩))
          go_round
          case rel => exact ⟨k + 1, m * base + d, by omega, by go_num, rfl, unhide HS hd0 (by omega)⟩
          case measure => simp [intOf]; omega
    · have HG := hide (ans_good base m most s (by omega) (by omega) (by rw [← Num.take_all s k (by omega)]; exact unhide HN))
      go_wp2
      go_ret2
      exact ⟨ret_ints (by rw [unhide HG]) (by rw [unhide HG]), rfl⟩

theorem dec_any (s : ByteArray) (w : World) (hs : s.size ≤ maxLen) :
    Calls Tryd.prog 72 #[.string s] w fun e w' => e = .returned (.tuple #[.int .i64 (Num.ans 10 9 s.data.toList).1, .int .i64 (Num.ans 10 9 s.data.toList).2]) ∧ w' = w := by
  have H := hide (number_any s 10 9 w hs (by omega) (by omega) (by omega))
  generalize (Num.ans 10 9 s.data.toList).1 = a at *
  generalize (Num.ans 10 9 s.data.toList).2 = b at *
  go_enter Tryd.func72, Tryd.ntmps72
  go_wp2_with (go_at_call 91; refine (unhide H).mono ?_; rintro e w' ⟨rfl, rfl⟩)
  go_ret2
  exact ⟨rfl, rfl⟩
end Go.Proofs.YtmgealcolofomaaDoor
