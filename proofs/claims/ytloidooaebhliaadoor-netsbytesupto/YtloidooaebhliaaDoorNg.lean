/- Walks of the document's answers on nets: small numbers, is an address in a net. -/
import Derived.Test.YtloidooaebhliaaDoorNe
import Derived.Test.YtloidooaebhliaaDoorWn
namespace Go.Proofs.YtloidooaebhliaaDoor
open Go.RowKit Kb
set_option linter.unusedVariables false
set_option maxRecDepth 20000

theorem rcut_any (c : UInt8) (s : ByteArray) (w : World) (hs : s.size ≤ 4294960000) (k : List UInt8 × List UInt8 × Bool) (hk : Lib.cut s.data.toList [c] = k) :
    Calls Tryd.prog 28 #[.string s, .string ⟨#[c]⟩] w fun e w' => e = .returned (.tuple #[.string (mk k.1), .string (mk k.2.1), .bool k.2.2]) ∧ Below w.heap.size w w' := by
  rcases Cs.find_cut c s.data.toList with ⟨h1, h2⟩ | ⟨i, h1, h2, h3⟩
  · rw [Nt.cut_none h1] at hk
    subst hk
    refine (rsplit_miss_c c s h2 (by omega) w).mono ?_
    rintro e w' ⟨rfl, rfl⟩
    dsimp only
    rw [mk_data]
    exact ⟨rfl, Below.refl _ _⟩
  · have hl : Lib.cut s.data.toList [c] = (s.data.toList.take i, s.data.toList.drop (i + 1), true) := by
      have hi : Lib.index s.data.toList [c] = i := by
        unfold Fnd.find at h1
        rw [show (max 0 0 : Int) = 0 from rfl, if_neg (by omega)] at h1
        simp only [Int.toNat_zero, List.drop_zero, Int.zero_add] at h1
        split at h1
        · omega
        · exact h1
      unfold Lib.cut
      rw [hi, if_pos (by omega)]
      simp
    rw [hl] at hk
    subst hk
    rw [len_data] at h2
    refine (rsplit_hit_c c s i h1 h2 (by omega) w).mono ?_
    rintro e w' ⟨rfl, b⟩
    dsimp only
    refine ⟨?_, b⟩
    have e1 : mk (s.data.toList.take i) = s.extract 0 i := eq_of_lists (by rw [Lib.extract_from_zero]; simp [mk])
    have e2 : mk (s.data.toList.drop (i + 1)) = s.extract (i + 1) s.size := eq_of_lists (by rw [Lib.extract_to_end]; simp [mk])
    rw [e1, e2]
theorem ret_i6 {a c : Int} (h : a = c) : Ending.returned (Value.int .i64 a) = .returned (.int .i64 c) := by rw [h]
set_option maxHeartbeats 1000000 in
theorem rsmall_any (s : ByteArray) (most : Nat) (w : World) (hs : s.size ≤ maxLen) :
    Calls Tryd.prog 29 #[.string s, .int .i64 most] w fun e w' => e = .returned (.int .i64 (Nt.sm most s.data.toList)) ∧ w' = w := by
  have HD := ref_number_any s 10 9 w hs (by omega) (by omega) (by omega)
  have HW : Hid (∀ k : Int × Int, Num.ans 10 9 s.data.toList = k → k = (0, 4) ∨ (0 ≤ k.1 ∧ k.1 < 68719476736 ∧ k.2 = 0)) := hide (fun k hk => by
    rcases Nt.ans_cases s.data.toList with e | ⟨n, _, _, _, e, h0, h1⟩
    · exact .inl (hk.symm.trans e)
    · rw [e] at hk; rw [← hk]; exact .inr ⟨h0, h1, rfl⟩)
  have hsm : ∀ k : Int × Int, Num.ans 10 9 s.data.toList = k → Nt.sm most s.data.toList = if 1 < s.size ∧ s.data.toList.head? = some 48 then -1 else if k.2 = 0 ∧ k.1 ≤ most then k.1 else -1 := fun k hk => by
    unfold Nt.sm; rw [hk, len_data]
  obtain ⟨⟨n, z⟩, hk⟩ : ∃ k, Num.ans 10 9 s.data.toList = k := ⟨_, rfl⟩
  have hkc := unhide HW _ hk
  have hsa := hsm _ hk
  rw [hk] at HD
  dsimp only at HD hsa hkc
  obtain ⟨r, hr⟩ : ∃ r, Nt.sm most s.data.toList = r := ⟨_, rfl⟩
  rw [hr] at hsa ⊢
  have HD' := hide HD
  have HS := hide hsa
  clear HD HW hr hk hsm hsa
  rcases hkc with e | ⟨h3, h4, h5⟩
  · cases e
    have hm : r = -1 := by have := unhide HS; rw [if_neg (show ¬ ((4 : Int) = 0 ∧ (0 : Int) ≤ most) by simp)] at this; rw [this]; split <;> rfl
    subst hm
    clear HS
    go_enter Tryd.func29, Tryd.ntmps29
    go_wp2_with (go_at_call 47; refine (unhide HD').mono ?_; rintro e w' ⟨rfl, rfl⟩)
    go_ret
    exact ⟨rfl, rfl⟩
  · subst h5
    by_cases hn : (most : Int) < n
    · have hm : r = -1 := by have := unhide HS; rw [if_neg (show ¬ ((0 : Int) = 0 ∧ n ≤ most) by omega)] at this; rw [this]; split <;> rfl
      subst hm
      clear HS
      go_enter Tryd.func29, Tryd.ntmps29
      go_wp2_with (go_at_call 47; refine (unhide HD').mono ?_; rintro e w' ⟨rfl, rfl⟩)
      go_ret
      exact ⟨rfl, rfl⟩
    · have hn' : n ≤ most := by omega
      by_cases h1 : 1 < s.size
      · have h1' : (1 : Int) < s.size := by omega
        have h0 : 0 < s.size := by omega
        have hh := hd_byte h0
        obtain ⟨c, hcc⟩ : ∃ c, s[0] = c := ⟨_, rfl⟩
        rw [hcc] at hh
        by_cases hc : c = 48
        · have hm : r = -1 := by have := unhide HS; rw [if_pos ⟨h1, by rw [hh, hc]⟩] at this; exact this
          have hb : ((c.toNat : Int) == 48) = true := by rw [hc]; rfl
          subst hm
          clear HS hh hc
          go_enter Tryd.func29, Tryd.ntmps29
          go_wp2_with (go_at_call 47; refine (unhide HD').mono ?_; rintro e w' ⟨rfl, rfl⟩)
          go_ret
          exact ⟨rfl, rfl⟩
        · have hm : r = n := by have := unhide HS; rw [if_neg (fun g => hc (by have := g.2; rw [hh] at this; exact Option.some.inj this)), if_pos ⟨rfl, hn'⟩] at this; exact this
          have hb : ((c.toNat : Int) == 48) = false := beq_eq_false_iff_ne.2 fun h => hc (UInt8.toNat_inj.1 (by show c.toNat = 48; omega))
          subst hm
          clear HS hh hc
          go_enter Tryd.func29, Tryd.ntmps29
          go_wp2_with (go_at_call 47; refine (unhide HD').mono ?_; rintro e w' ⟨rfl, rfl⟩)
          go_ret
          exact ⟨rfl, rfl⟩
      · have h1' : ¬ (1 : Int) < s.size := by omega
        have hm : r = n := by have := unhide HS; rw [if_neg (fun g => h1 g.1), if_pos ⟨rfl, hn'⟩] at this; exact this
        subst hm
        clear HS
        go_enter Tryd.func29, Tryd.ntmps29
        go_wp2_with (go_at_call 47; refine (unhide HD').mono ?_; rintro e w' ⟨rfl, rfl⟩)
        go_ret
        exact ⟨rfl, rfl⟩

theorem bit_mod (a n : Nat) : ((a : Int) / 2 ^ n).tmod 2 = ((a / 2 ^ n % 2 : Nat) : Int) := by
  have e : (a : Int) / 2 ^ n = ((a / 2 ^ n : Nat) : Int) := by norm_cast
  rw [e, Int.tmod_eq_emod_of_nonneg (Int.natCast_nonneg _)]; norm_cast
theorem in_none {a d : Nat} (ha : a < 4294967296) (hd : d < 4294967296) : a / 2 ^ 32 = d / 2 ^ 32 := by
  rw [show (2 : Nat) ^ 32 = 4294967296 from rfl]; omega
end Go.Proofs.YtloidooaebhliaaDoor
