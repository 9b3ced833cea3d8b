/- The walk of the document's Number. -/
import Derived.Test.YtmgealcolofomaaDoorWb
namespace Go.Proofs.YtmgealcolofomaaDoor
open Go.RowKit
set_option linter.unusedVariables false
set_option maxRecDepth 20000

set_option maxHeartbeats 1000000 in
theorem ref_number_any (s : ByteArray) (base : Int) (most : Nat) (w : World) (hs : s.size ≤ maxLen) (hb2 : 2 ≤ base) (hb16 : base ≤ 16) (hm : most ≤ 9) :
    Calls Tryd.prog 53 #[.string s, .int .i64 base, .int .i64 most] w fun e w' => e = .returned (.tuple #[.int .i64 (Num.ans base most s.data.toList).1, .int .i64 (Num.ans base most s.data.toList).2]) ∧ w' = w := by
  unfold maxLen at hs
  go_enter Tryd.func53, Tryd.ntmps53
  go_wp2
  go_loop [8, 9] (fun n i => ∃ (k : Nat) (m : Int), k ≤ s.size ∧ k ≤ most ∧ i = .int .i64 k ∧ n = .int .i64 m ∧ Num.num base (s.data.toList.take k) = some m) (fun _ i => s.size - (intOf i).toNat)
  case atStart => exact ⟨0, 0, by omega, by omega, rfl, rfl, rfl⟩
  case round =>
    obtain ⟨k, m, hk, hkm, rfl, rfl, hn⟩ := hrel
    have hmb := Num.num_bd base hb2 hb16 k _ m (by rw [List.length_take]; simp; omega) hn
    have hpw := pow_bd k (by omega)
    have hmb1 : 0 ≤ m ∧ m < 68719476736 := by omega
    have hmm := mul_bd hmb1.1 hmb1.2 hb2 hb16
    clear hmb hpw
    have HN := hide hn
    clear hn
    by_cases hlt : k < s.size
    · by_cases hlm : k < most
      · have hc : 0 ≤ (s[k].toNat : Int) ∧ (s[k].toNat : Int) ≤ 255 := by have := s[k].toNat_lt; omega
        have hdb := Num.dig_bd s[k].toNat
        have HB := hide (ans_bad base most s k hlt)
        obtain ⟨d, hd⟩ : ∃ d, Num.dig s[k].toNat = d := ⟨_, rfl⟩
        have HS : Hid (0 ≤ d → d < base → Num.num base (s.data.toList.take (k + 1)) = some (m * base + d)) := hide (fun g0 g1 => by rw [Num.take_snoc s k hlt, Num.num_snoc, unhide HN]; exact step_yes hd g0 g1)
        have HV := hide (value_any s[k].toNat w hc.1 hc.2)
        rw [hd] at hdb HB HV
        clear hd
        by_cases hneg : d < 0
        · go_wp2_with (go_at_call 81; refine (unhide HV).mono ?_; rintro e w' ⟨rfl, rfl⟩)
          go_ret2
          exact ⟨ret_ints (by rw [unhide HB (.inl hneg)]) (by rw [unhide HB (.inl hneg)]), rfl⟩
        by_cases hbig : base ≤ d
        · go_wp2_with (go_at_call 81; refine (unhide HV).mono ?_; rintro e w' ⟨rfl, rfl⟩)
          go_ret2
          exact ⟨ret_ints (by rw [unhide HB (.inr hbig)]) (by rw [unhide HB (.inr hbig)]), rfl⟩
        · go_wp2_with (go_at_call 81; refine (unhide HV).mono ?_; rintro e w' ⟨rfl, rfl⟩)
          go_round
          case rel => exact ⟨k + 1, m * base + d, by omega, by omega, by go_num, rfl, unhide HS (by omega) (by omega)⟩
          case measure => simp [intOf]; omega
      · have HL := hide (ans_len base most s (.inr (by omega)))
        have h1 : ¬ (s.size : Int) < 1 := by omega
        go_wp2
        go_ret2
        exact ⟨ret_ints (by rw [unhide HL]) (by rw [unhide HL]), rfl⟩
    · by_cases h1 : s.size < 1
      · have HL := hide (ans_len base most s (.inl h1))
        go_wp2
        go_ret2
        exact ⟨ret_ints (by rw [unhide HL]) (by rw [unhide HL]), rfl⟩
      · have HG := hide (ans_good base m most s (by omega) (by omega) (by rw [← Num.take_all s k (by omega)]; exact unhide HN))
        go_wp2
        go_ret2
        exact ⟨ret_ints (by rw [unhide HG]) (by rw [unhide HG]), rfl⟩

end Go.Proofs.YtmgealcolofomaaDoor
