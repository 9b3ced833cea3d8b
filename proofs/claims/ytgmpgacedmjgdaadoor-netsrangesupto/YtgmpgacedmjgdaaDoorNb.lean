/- Walks: numbers, masks, nets (the program's). -/
import Derived.Test.YtgmpgacedmjgdaaDoorNa
import Derived.Test.YtgmpgacedmjgdaaDoorWb
import Derived.Test.YtgmpgacedmjgdaaDoorKc
import Derived.Test.YtgmpgacedmjgdaaDoorShelf
import Derived.Laws.BitsAllLaws
namespace Go.Proofs.YtgmpgacedmjgdaaDoor
open Go.RowKit Kb
set_option linter.unusedVariables false
set_option maxRecDepth 20000

theorem ret_u32 {a b : Int} (h : a = b) : Ending.returned (Value.int .u32 a) = .returned (.int .u32 b) := by rw [h]
theorem pow_le32 (k : Nat) (h : k ≤ 32) : (1 : Nat) ≤ 2 ^ k ∧ (2 : Nat) ^ k ≤ 4294967296 := ⟨Nat.pos_of_ne_zero (by simp), Nat.le_trans (Nat.pow_le_pow_right (by omega) h) (by decide)⟩
theorem mask_wrap (b : Nat) (h : b ≤ 32) : (4294967295 * 2 ^ (32 - b) % 4294967296 : Int) = ((4294967296 - 2 ^ (32 - b) : Nat) : Int) := by
  have : ∀ k : Fin 33, (4294967295 * 2 ^ (32 - k.1) % 4294967296 : Int) = ((4294967296 - 2 ^ (32 - k.1) : Nat) : Int) := by decide
  exact this ⟨b, by omega⟩
theorem andNot_mask (a b : Nat) (ha : a < 4294967296) (hb : b ≤ 32) : bits .andNot .u32 (a : Int) ((4294967296 - 2 ^ (32 - b) : Nat) : Int) = ((a % 2 ^ (32 - b) : Nat) : Int) := by
  have hp := pow_le32 (32 - b) (by omega)
  rw [u32_andNot_nat a _ ha (by omega), show 4294967295 - (4294967296 - 2 ^ (32 - b)) = 2 ^ (32 - b) - 1 by omega, Nat.and_two_pow_sub_one_eq_mod]
theorem right_mod {a n : Nat} (hn : n ≤ 32) : decide (Nt.right a n) = (((a % 2 ^ (32 - n) : Nat) : Int) == 0) := by
  have e : Nt.right a n ↔ a % 2 ^ (32 - n) = 0 := ⟨fun h => by have := h.2.2; rwa [Int.toNat_natCast] at this, fun h => ⟨by omega, by omega, by rw [Int.toNat_natCast]; exact h⟩⟩
  by_cases h : a % 2 ^ (32 - n) = 0
  · rw [decide_eq_true (e.2 h), h]; rfl
  · rw [decide_eq_false (fun g => h (e.1 g))]
    exact (beq_eq_false_iff_ne.2 (by omega)).symm
theorem hd_byte {s : ByteArray} (h : 0 < s.size) : s.data.toList.head? = some s[0] := by
  have hl : 0 < s.data.toList.length := by simpa using h
  rw [List.head?_eq_getElem?, List.getElem?_eq_getElem hl]; rfl
theorem sm_zero {most : Nat} {s : ByteArray} (h : 1 < s.size) (hc : s[0] = 48) : Nt.sm most s.data.toList = -1 := by
  unfold Nt.sm
  rw [if_pos ⟨by rw [len_data]; exact h, by rw [hd_byte (by omega), hc]⟩]
theorem sm_ans {most : Nat} {s : ByteArray} (h : ¬ 1 < s.size ∨ ∃ h : 0 < s.size, s[0] ≠ 48) : Nt.sm most s.data.toList = if (Num.ans 10 9 s.data.toList).2 = 0 ∧ (Num.ans 10 9 s.data.toList).1 ≤ most then (Num.ans 10 9 s.data.toList).1 else -1 := by
  unfold Nt.sm
  rw [if_neg]
  rintro ⟨h1, h2⟩
  rw [len_data] at h1
  rcases h with h | ⟨h3, h4⟩
  · exact h h1
  · rw [hd_byte h3] at h2; exact h4 (Option.some.inj h2)
theorem ret_ib {a c : Int} {b d : Bool} (h : a = c) (g : b = d) : Ending.returned (.tuple #[.int .i64 a, .bool b]) = .returned (.tuple #[.int .i64 c, .bool d]) := by rw [h, g]
set_option maxHeartbeats 1000000 in
theorem nnum_any (s : ByteArray) (most : Nat) (w : World) (hs : s.size ≤ maxLen) :
    Calls Tryd.prog 43 #[.string s, .int .i64 most] w fun e w' => e = .returned (.tuple #[.int .i64 (max 0 (Nt.sm most s.data.toList)), .bool (decide (0 ≤ Nt.sm most s.data.toList))]) ∧ w' = w := by
  have HD := dec_any s w hs
  by_cases hc : ∃ h : 1 < s.size, s[0] = 48
  · obtain ⟨h1, hc⟩ := hc
    have h0 : 0 < s.size := by omega
    have h1' : (1 : Int) < s.size := by omega
    have HS := hide (sm_zero (most := most) h1 hc)
    obtain ⟨c, hcc⟩ : ∃ c, s[0] = c := ⟨_, rfl⟩
    have hb : ((c.toNat : Int) == 48) = true := by rw [← hcc, hc]; rfl
    clear HD hc
    go_enter Tryd.func43, Tryd.ntmps43
    go_wp2
    go_ret2
    rw [unhide HS]
    exact ⟨rfl, rfl⟩
  · have hcs : ¬ 1 < s.size ∨ ∃ h : 0 < s.size, s[0] ≠ 48 := by
      by_cases h1 : 1 < s.size
      · exact .inr ⟨by omega, fun e => hc ⟨h1, e⟩⟩
      · exact .inl h1
    have hsa := sm_ans (most := most) hcs
    have HW : Hid (∀ k : Int × Int, Num.ans 10 9 s.data.toList = k → k = (0, 4) ∨ (0 ≤ k.1 ∧ k.1 < 68719476736 ∧ k.2 = 0)) := hide (fun k hk => by
      rcases Nt.ans_cases s.data.toList with e | ⟨n, _, _, _, e, h0, h1⟩
      · exact .inl (hk.symm.trans e)
      · rw [e] at hk; rw [← hk]; exact .inr ⟨h0, h1, rfl⟩)
    obtain ⟨⟨n, z⟩, hk⟩ : ∃ k, Num.ans 10 9 s.data.toList = k := ⟨_, rfl⟩
    have hkc := unhide HW _ hk
    rw [hk] at HD hsa
    dsimp only at HD hsa hkc
    obtain ⟨r, hr⟩ : ∃ r, Nt.sm most s.data.toList = r := ⟨_, rfl⟩
    rw [hr] at hsa ⊢
    have HD' := hide HD
    clear HD HW hr hk
    rcases hcs with h1 | ⟨h0, h2⟩
    · have h1' : (s.size : Int) ≤ 1 := by omega
      rcases hkc with e | ⟨h3, h4, h5⟩
      · cases e
        rw [if_neg (by simp)] at hsa
        subst hsa
        go_enter Tryd.func43, Tryd.ntmps43
        go_wp2_with (go_at_call 36; refine (unhide HD').mono ?_; rintro e w' ⟨rfl, rfl⟩)
        go_ret2
        exact ⟨rfl, rfl⟩
      · subst h5
        by_cases hn : (most : Int) < n
        · rw [if_neg (by rintro ⟨_, h⟩; omega)] at hsa
          subst hsa
          go_enter Tryd.func43, Tryd.ntmps43
          go_wp2_with (go_at_call 36; refine (unhide HD').mono ?_; rintro e w' ⟨rfl, rfl⟩)
          go_ret2
          exact ⟨rfl, rfl⟩
        · rw [if_pos ⟨rfl, by omega⟩] at hsa
          subst hsa
          go_enter Tryd.func43, Tryd.ntmps43
          go_wp2_with (go_at_call 36; refine (unhide HD').mono ?_; rintro e w' ⟨rfl, rfl⟩)
          go_ret2
          exact ⟨ret_ib (by omega) (by simp [h3]), rfl⟩
    · obtain ⟨c, hcc⟩ : ∃ c, s[0] = c := ⟨_, rfl⟩
      have hb : ((c.toNat : Int) == 48) = false := by
        rw [hcc] at h2
        refine beq_eq_false_iff_ne.2 fun h => h2 ?_
        exact UInt8.toNat_inj.1 (by show c.toNat = 48; omega)
      clear h2 hc
      rcases hkc with e | ⟨h3, h4, h5⟩
      · cases e
        rw [if_neg (by simp)] at hsa
        subst hsa
        by_cases h1 : 1 < s.size
        · have h1' : (1 : Int) < s.size := by omega
          go_enter Tryd.func43, Tryd.ntmps43
          go_wp2_with (go_at_call 36; refine (unhide HD').mono ?_; rintro e w' ⟨rfl, rfl⟩)
          go_ret2
          exact ⟨rfl, rfl⟩
        · have h1' : (s.size : Int) ≤ 1 := by omega
          go_enter Tryd.func43, Tryd.ntmps43
          go_wp2_with (go_at_call 36; refine (unhide HD').mono ?_; rintro e w' ⟨rfl, rfl⟩)
          go_ret2
          exact ⟨rfl, rfl⟩
      · subst h5
        by_cases hn : (most : Int) < n
        · rw [if_neg (by rintro ⟨_, h⟩; omega)] at hsa
          subst hsa
          go_enter Tryd.func43, Tryd.ntmps43
          go_wp2_with (go_at_call 36; refine (unhide HD').mono ?_; rintro e w' ⟨rfl, rfl⟩)
          all_goals (go_ret2; exact ⟨rfl, rfl⟩)
        · rw [if_pos ⟨rfl, by omega⟩] at hsa
          subst hsa
          go_enter Tryd.func43, Tryd.ntmps43
          go_wp2_with (go_at_call 36; refine (unhide HD').mono ?_; rintro e w' ⟨rfl, rfl⟩)
          all_goals (go_ret2; exact ⟨ret_ib (by omega) (by simp [h3]), rfl⟩)
end Go.Proofs.YtgmpgacedmjgdaaDoor
