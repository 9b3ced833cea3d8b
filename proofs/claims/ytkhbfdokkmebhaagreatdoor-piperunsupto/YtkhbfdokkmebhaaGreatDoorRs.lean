/- The walk of the document's HexDecode. -/
import Derived.Test.YtkhbfdokkmebhaaGreatDoorRr
namespace Go.Proofs.YtkhbfdokkmebhaaGreatDoor
open Go.RowKit Kb
set_option linter.unusedVariables false
set_option maxRecDepth 20000

theorem hb_first {x : UInt8} {r : List UInt8} (h : Cd.dv x = none) : hb (x :: r) = none := by
  match r with
  | [] => rfl
  | y :: r => rw [hb_two, h]
theorem hb_second {x y p : UInt8} {r : List UInt8} (hx : Cd.dv x = some p) (h : Cd.dv y = none) : hb (x :: y :: r) = none := by rw [hb_two, hx, h]
theorem hb_both {x y p q : UInt8} {r : List UInt8} (hx : Cd.dv x = some p) (h : Cd.dv y = some q) : hb (x :: y :: r) = some (p * 16 + q) := by rw [hb_two, hx, h]

set_option maxRecDepth 100000 in
set_option maxHeartbeats 8000000 in
theorem rhexDecode_any (s : ByteArray) (w : World) (hs : s.size ≤ 68719476736) :
    Calls Tryz.prog 12 #[.string s] w fun e w' => e = .returned (.tuple #[.string ⟨(hdV s.data.toList).toArray⟩, .int .i64 (hdE s.data.toList)]) ∧ Below w.heap.size w w' := by
  go_enter Tryz.func12, Tryz.ntmps12
  go_wp2
  go_loopw [4, 5] (fun v i wr => ∃ (k : Nat) (out : List UInt8) (o : ByteArray), k ≤ s.size ∧ out.length ≤ k ∧ i = .int .i64 k ∧ v = .string o ∧ o.data.toList = out ∧ Cd.hexDec s.data.toList = (Cd.hexDec (s.data.toList.drop (k - k % 2))).map (out ++ ·) ∧ (k % 2 = 1 → ∃ p, ∀ h : k - 1 < s.size, Cd.dv (s[k - 1]'h) = some p) ∧ Below w.heap.size w wr) (fun _ i _ => s.size - (intOf i).toNat)
  case atStart => exact ⟨0, [], _, Nat.zero_le _, Nat.zero_le _, rfl, rfl, rfl, by simp, by omega, Below.refl _ _⟩
  case round =>
    obtain ⟨k, out, o, hk, hok, rfl, rfl, ho, hu, hodd, hbel⟩ := hrel
    have HB := hide hbel
    have HO := hide ho
    have hos : o.size ≤ 68719476736 := by rw [← len_data, ho]; omega
    clear hbel ho
    rcases Nat.mod_two_eq_zero_or_one k with hev | hov
    · rw [hev, Nat.sub_zero] at hu
      have HU := hide hu
      clear hu hodd
      by_cases hlt : k < s.size
      · have hd := Kb.drop_cons s k hlt
        have hne : s.data.toList.drop k ≠ [] := by rw [hd]; simp
        obtain ⟨x, hx⟩ : ∃ x, s[k] = x := ⟨_, rfl⟩
        rw [hx] at hd
        rcases hv : Cd.dv x with _ | q
        · have HR := hide (hd_no (unhide HU) (hexDec_no hne (by rw [hd]; exact hb_first hv)))
          have HV := hide (val_none x hv)
          clear hd hne hv
          go_wp2_with fail
          refine ((unhide HV) _).mono ?_; rintro e wx ⟨rfl, rfl⟩
          go_wp2_with fail
          go_ret2
          exact ⟨Kb.ret_str_int (by rw [(unhide HR).1]) (by rw [(unhide HR).2]), unhide HB⟩
        · have HV := hide (val_yes x q hv)
          have HP : Hid ((k + 1) % 2 = 1 → ∃ p, ∀ h : (k + 1) - 1 < s.size, Cd.dv (s[(k + 1) - 1]'h) = some p) := hide (fun _ => ⟨q, fun h => by simp only [Nat.add_sub_cancel]; rw [hx]; exact hv⟩)
          have HU2 : Hid (Cd.hexDec s.data.toList = (Cd.hexDec (s.data.toList.drop ((k + 1) - (k + 1) % 2))).map (out ++ ·)) := hide (by
            rw [show (k + 1) - (k + 1) % 2 = k from by omega]; exact unhide HU)
          have ht : Int.tmod (k : Int) 2 = 0 := by rw [Int.tmod_eq_emod_of_nonneg (by omega)]; omega
          have he : (k : Int) % 2 = 0 := by omega
          clear hd hne hv hev
          go_wp2_with fail
          refine ((unhide HV) _).mono ?_; rintro e wx ⟨rfl, rfl⟩
          go_wp2_with fail
          exact ⟨⟨k + 1, out, o, by omega, by omega, by go_num, rfl, unhide HO, unhide HU2, unhide HP, unhide HB⟩, by simp [intOf]; omega⟩
      · obtain rfl : k = s.size := by omega
        have HR := hide (hd_end (unhide HU) (Kb.drop_end s s.size (Nat.le_refl _)))
        have ht : Int.tmod (s.size : Int) 2 = 0 := by rw [Int.tmod_eq_emod_of_nonneg (by omega)]; omega
        have he : (s.size : Int) % 2 = 0 := by omega
        clear hev hlt
        go_wp2_with fail
        go_ret2
        exact ⟨Kb.ret_str_int (by rw [(unhide HR).1]; exact Kb.eq_list (unhide HO)) (by rw [(unhide HR).2]), unhide HB⟩
    · obtain ⟨p, hp⟩ := hodd hov
      have hk1 : 1 ≤ k := by omega
      have hp1 := hp (by omega)
      rw [hov] at hu
      have HU := hide hu
      clear hu hodd hp
      have hd1 := Kb.drop_cons s (k - 1) (by omega)
      rw [show k - 1 + 1 = k from by omega] at hd1
      have hne : s.data.toList.drop (k - 1) ≠ [] := by rw [hd1]; simp
      obtain ⟨x2, hx2⟩ : ∃ x, s[k - 1]'(by omega) = x := ⟨_, rfl⟩
      rw [hx2] at hd1 hp1
      by_cases hlt : k < s.size
      · have hd := Kb.drop_cons s k hlt
        obtain ⟨x, hx⟩ : ∃ x, s[k] = x := ⟨_, rfl⟩
        rw [hx] at hd
        rw [hd] at hd1
        rcases hv : Cd.dv x with _ | q
        · have HR := hide (hd_no (unhide HU) (hexDec_no hne (by rw [hd1]; exact hb_second hp1 hv)))
          have HV := hide (val_none x hv)
          clear hd hd1 hne hv
          go_wp2_with fail
          refine ((unhide HV) _).mono ?_; rintro e wx ⟨rfl, rfl⟩
          go_wp2_with fail
          go_ret2
          exact ⟨Kb.ret_str_int (by rw [(unhide HR).1]) (by rw [(unhide HR).2]), unhide HB⟩
        · have HV := hide (val_yes x q hv)
          have HV2 := hide (val_yes x2 p hp1)
          have HU2 : Hid (Cd.hexDec s.data.toList = (Cd.hexDec (s.data.toList.drop ((k + 1) - (k + 1) % 2))).map ((out ++ [p * 16 + q]) ++ ·)) := hide (by
            rw [show (k + 1) - (k + 1) % 2 = (k - 1) + 2 from by omega]
            exact hd_step (unhide HU) (by rw [hd1]; exact hb_both hp1 hv))
          have HP : Hid ((k + 1) % 2 = 1 → ∃ p, ∀ h : (k + 1) - 1 < s.size, Cd.dv (s[(k + 1) - 1]'h) = some p) := hide (fun h => by omega)
          have hp16 := dv_lt hp1
          have hq16 := dv_lt hv
          have hpw := byte16 hp16 hq16
          have w2 := Kb.wr64 ((k : Int) - 1) (by omega) (by omega)
          have w4 := Kb.wr64 (16 * (p.toNat : Int)) (by omega) (by omega)
          have w5 := Kb.wr64 (16 * (p.toNat : Int) + (q.toNat : Int)) (by omega) (by omega)
          have hx2' : s[((k : Int) - 1).toNat]'(by omega) = x2 := by
            have e : ((k : Int) - 1).toNat = k - 1 := by omega
            simp only [e]; exact hx2
          have hx3' : s[(k : Int).toNat]'(by omega) = x := hx
          have i2 : 0 ≤ (k : Int) - 1 ∧ (k : Int) - 1 < (s.size : Int) := by omega
          have i3 : 0 ≤ (k : Int) ∧ (k : Int) < (s.size : Int) := by omega
          have ht : Int.tmod (k : Int) 2 = 1 := by rw [Int.tmod_eq_emod_of_nonneg (by omega)]; omega
          have he : (k : Int) % 2 = 1 := by omega
          generalize p * 16 + q = z at *
          have hcv : ∀ (W : World) (b : Nat), W.cell? ⟨b, 0, none⟩ = some (.int .u8 z.toNat) → (convert 36 9 (.slice (some ⟨b, 0, none⟩) 1 1)).run Tryz.prog W = .ok (.string ⟨[z].toArray⟩) W := fun W b h => Kb.conv_one W b _ h
          have HE := hide (app_data (unhide HO) (show (⟨[z].toArray⟩ : ByteArray).data.toList = [z] from rfl))
          clear hd hd1 hne hv hp1
          go_wp2_with fail
          refine ((unhide HV) _).mono ?_; rintro e wx ⟨rfl, rfl⟩
          go_wp2_with fail
          go_region_with (first | (go_at_call_of 33 (x2); refine ((unhide HV2) _).mono ?_; rintro e wx ⟨rfl, rfl⟩) | (go_at_call_of 33 (x); refine ((unhide HV) _).mono ?_; rintro e wx ⟨rfl, rfl⟩))
          all_goals
            go_wp2
            exact ⟨⟨k + 1, out ++ [z], _, by omega, by simp; omega, by go_num, rfl, unhide HE, unhide HU2, unhide HP, by first | exact ((unhide HB).alloc (unhide HB).size _).drew | exact (unhide HB).drew.alloc (unhide HB).size _⟩, by simp [intOf]; omega⟩
      · obtain rfl : k = s.size := by omega
        have HR := hide (hd_no (unhide HU) (by rw [hd1, Kb.drop_end s s.size (Nat.le_refl _)]; rfl))
        have ht : Int.tmod (s.size : Int) 2 = 1 := by rw [Int.tmod_eq_emod_of_nonneg (by omega)]; omega
        have he : (s.size : Int) % 2 = 1 := by omega
        clear hlt hd1 hne
        go_wp2_with fail
        go_ret2
        exact ⟨Kb.ret_str_int (by rw [(unhide HR).1]) (by rw [(unhide HR).2]), unhide HB⟩
end Go.Proofs.YtkhbfdokkmebhaaGreatDoor
