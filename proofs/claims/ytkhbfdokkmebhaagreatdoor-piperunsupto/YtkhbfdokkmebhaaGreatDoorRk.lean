/- Walks of the document's answers on codes: UrlDecode, HexDecode. -/
import Derived.Test.YtkhbfdokkmebhaaGreatDoorRj
namespace Go.Proofs.YtkhbfdokkmebhaaGreatDoor
open Go.RowKit Kb
set_option linter.unusedVariables false
set_option maxRecDepth 20000

theorem val_yes (x p : UInt8) (h : Cd.dv x = some p) (w : World) : Calls Tryz.prog 33 #[.int .u8 x.toNat] w fun e w' => e = .returned (.int .i64 p.toNat) ∧ w' = w := by
  have hx := x.toNat_lt
  have := value_any x.toNat w (by omega) (by omega)
  rwa [dig_dv, h] at this
theorem val_none (x : UInt8) (h : Cd.dv x = none) (w : World) : Calls Tryz.prog 33 #[.int .u8 x.toNat] w fun e w' => e = .returned (.int .i64 (-1)) ∧ w' = w := by
  have hx := x.toNat_lt
  have := value_any x.toNat w (by omega) (by omega)
  rwa [dig_dv, h] at this
theorem hb_two {x y : UInt8} {r : List UInt8} : hb (x :: y :: r) = match Cd.dv x, Cd.dv y with | some p, some q => some (p * 16 + q) | _, _ => none := rfl
theorem hb_short {l : List UInt8} (h : l.length < 2) : hb l = none := by
  match l, h with
  | [], _ => rfl
  | [_], _ => rfl
theorem byte16 {p q : UInt8} (hp : p.toNat < 16) (hq : q.toNat < 16) : IntKind.u8.wrap (16 * (p.toNat : Int) + (q.toNat : Int)) = ((p * 16 + q : UInt8).toNat : Int) := by
  rw [pq8 hp hq]
  simp [IntKind.wrap, IntKind.signed, IntKind.bits]; omega
theorem byte16' {p q : UInt8} (hp : p.toNat < 16) (hq : q.toNat < 16) : 16 * (p.toNat : Int) + (q.toNat : Int) = ((p * 16 + q : UInt8).toNat : Int) := by
  rw [pq8 hp hq]; omega
theorem app_data {o x : ByteArray} {out t : List UInt8} (ho : o.data.toList = out) (hx : x.data.toList = t) : (o ++ x).data.toList = out ++ t := by rw [cat_data, ho, hx]
theorem at_int' (s : ByteArray) (k j : Nat) (x : UInt8) (h : k + j < s.size) (hx : s[k + j] = x) (hb : ((k : Int) + (j : Int)).toNat < s.size) : s[((k : Int) + (j : Int)).toNat] = x := by
  rw [← hx]; exact Kb.at_int s k j h hb

set_option maxRecDepth 100000 in
set_option maxHeartbeats 8000000 in
theorem rurlDecode_any (s q : ByteArray) (w : World) (hq : q.data.toList = Cd.urlDec s.data.toList) (hs : s.size ≤ 68719476736) :
    Calls Tryz.prog 11 #[.string s] w fun e w' => e = .returned (.string q) ∧ Below w.heap.size w w' := by
  have HQ := hide hq
  clear hq
  go_enter Tryz.func11, Tryz.ntmps11
  go_wp2
  go_loopw [3, 4] (fun v i wr => ∃ (k : Nat) (out : List UInt8) (o : ByteArray), k ≤ s.size ∧ out.length ≤ k ∧ i = .int .i64 k ∧ v = .string o ∧ o.data.toList = out ∧ Cd.scan Cd.us s.data.toList = out ++ Cd.scan Cd.us (s.data.toList.drop k) ∧ Below w.heap.size w wr) (fun _ i _ => s.size - (intOf i).toNat)
  case atStart => exact ⟨0, [], _, Nat.zero_le _, Nat.zero_le _, rfl, rfl, rfl, by simp, Below.refl _ _⟩
  case round =>
    obtain ⟨k, out, o, hk, hok, rfl, rfl, ho, hu, hbel⟩ := hrel
    have HB := hide hbel
    have HU := hide hu
    have HO := hide ho
    have hos : o.size ≤ 68719476736 := by rw [← len_data, ho]; omega
    clear hbel hu ho
    by_cases hlt : k < s.size
    · have hd := Kb.drop_cons s k hlt
      have hne : s.data.toList.drop k ≠ [] := by rw [hd]; simp
      have hc := s[k].toNat_lt
      have HX := hide (app_data (unhide HO) (show (s.extract k (k + 1)).data.toList = [s[k]] by rw [Kb.one_byte s k hlt]))
      by_cases h43 : s[k].toNat = 43
      · have h43' : ((s[k].toNat : Int) == 43) = true := beqT h43
        have HR : Hid (Cd.scan Cd.us s.data.toList = (out ++ [32]) ++ Cd.scan Cd.us (s.data.toList.drop (k + 1))) := hide (scan_next (unhide HU) hne (by rw [hd, Kb.u8_of (d := 43) h43]; exact us_plus _) (by omega))
        have HE := hide (app_data (unhide HO) (show (⟨#[32]⟩ : ByteArray).data.toList = [32] from rfl))
        clear hd hne h43
        go_wp2
        exact ⟨⟨k + 1, _, _, by omega, by simp; omega, by go_num, rfl, unhide HE, unhide HR, unhide HB⟩, by simp [intOf]; omega⟩
      have h43' : ((s[k].toNat : Int) == 43) = false := beqF (b := 43) h43
      by_cases h37 : s[k].toNat = 37
      · have h37' : ((s[k].toNat : Int) == 37) = true := beqT h37
        have hup := us_pct (s.data.toList.drop (k + 1))
        have e37 : s[k] = 37 := Kb.u8_of (d := 37) h37
        have HSN : hb (s.data.toList.drop (k + 1)) = none → Cd.scan Cd.us s.data.toList = (out ++ [s[k]]) ++ Cd.scan Cd.us (s.data.toList.drop (k + 1)) := fun hh => scan_next (unhide HU) hne (by rw [hd, e37, hup, hh]) (by omega)
        by_cases h2 : k + 2 < s.size
        · have hd1 : s.data.toList.drop (k + 1) = s[k + 1] :: s[k + 2] :: s.data.toList.drop (k + 3) := by
            rw [Kb.drop_cons s (k + 1) (by omega), Kb.drop_cons s (k + 1 + 1) (by omega)]
          have hss : ∀ c, hb (s.data.toList.drop (k + 1)) = some c → Cd.scan Cd.us s.data.toList = (out ++ [c]) ++ Cd.scan Cd.us (s.data.toList.drop (k + 3)) := fun c hh => scan_next (unhide HU) hne (by rw [hd, e37, hup, hh]) (by omega)
          obtain ⟨x2, hx2⟩ : ∃ x, s[k + 1] = x := ⟨_, rfl⟩
          obtain ⟨x3, hx3⟩ : ∃ x, s[k + 2] = x := ⟨_, rfl⟩
          have hbe := congrArg hb hd1
          rw [hb_two, hx2, hx3] at hbe
          rcases hv2 : Cd.dv x2 with _ | p
          · have HR := hide (HSN (by rw [hbe, hv2]))
            have HV2 := hide (val_none x2 hv2)
            clear hd hne h43 h37 hup e37 HSN hd1 hss hbe hv2
            go_wp2_with fail
            refine ((unhide HV2) _).mono ?_; rintro e wx ⟨rfl, rfl⟩
            go_wp2_with fail
            exact ⟨⟨k + 1, _, _, by omega, by simp; omega, by go_num, rfl, unhide HX, unhide HR, unhide HB⟩, by simp [intOf]; omega⟩
          · have HV2 := hide (val_yes x2 p hv2)
            rcases hv3 : Cd.dv x3 with _ | r
            · have HR := hide (HSN (by rw [hbe, hv2, hv3]))
              have HV3 := hide (val_none x3 hv3)
              clear hd hne h43 h37 hup e37 HSN hd1 hss hbe hv2 hv3
              go_wp2_with fail
              refine ((unhide HV2) _).mono ?_; rintro e wx ⟨rfl, rfl⟩
              go_wp2_with fail
              refine ((unhide HV3) _).mono ?_; rintro e wx ⟨rfl, rfl⟩
              go_wp2_with fail
              exact ⟨⟨k + 1, _, _, by omega, by simp; omega, by go_num, rfl, unhide HX, unhide HR, unhide HB⟩, by simp [intOf]; omega⟩
            · have HR := hide (hss _ (by rw [hbe, hv2, hv3]))
              have HV3 := hide (val_yes x3 r hv3)
              have hp16 := dv_lt hv2
              have hq16 := dv_lt hv3
              have hpw := byte16 hp16 hq16
              have w2 := Kb.wr64 ((k : Int) + 1) (by omega) (by omega)
              have w3 := Kb.wr64 ((k : Int) + 2) (by omega) (by omega)
              have w4 := Kb.wr64 (16 * (p.toNat : Int)) (by omega) (by omega)
              have w5 := Kb.wr64 (16 * (p.toNat : Int) + (r.toNat : Int)) (by omega) (by omega)
              have hx2' : s[((k : Int) + 1).toNat]'(by omega) = x2 := at_int' s k 1 x2 (by omega) hx2 (by omega)
              have hx3' : s[((k : Int) + 2).toNat]'(by omega) = x3 := at_int' s k 2 x3 (by omega) hx3 (by omega)
              have i2 : 0 ≤ (k : Int) + 1 ∧ (k : Int) + 1 < (s.size : Int) := by omega
              have i3 : 0 ≤ (k : Int) + 2 ∧ (k : Int) + 2 < (s.size : Int) := by omega
              generalize p * 16 + r = z at *
              have hcv : ∀ (W : World) (b : Nat), W.cell? ⟨b, 0, none⟩ = some (.int .u8 z.toNat) → (convert 36 9 (.slice (some ⟨b, 0, none⟩) 1 1)).run Tryz.prog W = .ok (.string ⟨[z].toArray⟩) W := fun W b h => Kb.conv_one W b _ h
              have HE := hide (app_data (unhide HO) (show (⟨[z].toArray⟩ : ByteArray).data.toList = [z] from rfl))
              clear hd hne h43 h37 hup e37 HSN hd1 hss hbe hv2 hv3 HX
              go_wp2_with fail
              refine ((unhide HV2) _).mono ?_; rintro e wx ⟨rfl, rfl⟩
              go_wp2_with fail
              refine ((unhide HV3) _).mono ?_; rintro e wx ⟨rfl, rfl⟩
              go_wp2_with fail
              go_region_with (first | (go_at_call_of 33 (x2); refine ((unhide HV2) _).mono ?_; rintro e wx ⟨rfl, rfl⟩) | (go_at_call_of 33 (x3); refine ((unhide HV3) _).mono ?_; rintro e wx ⟨rfl, rfl⟩))
              all_goals
                go_wp2
                exact ⟨⟨k + 3, out ++ [z], _, by omega, by simp; omega, by go_num, rfl, unhide HE, unhide HR, by first | exact ((unhide HB).alloc (unhide HB).size _).drew | exact (unhide HB).drew.alloc (unhide HB).size _⟩, by simp [intOf]; omega⟩
        · have HR := hide (HSN (hb_short (by simp; omega)))
          clear hd hne h43 h37 hup e37 HSN
          go_wp2
          exact ⟨⟨k + 1, _, _, by omega, by simp; omega, by go_num, rfl, unhide HX, unhide HR, unhide HB⟩, by simp [intOf]; omega⟩
      · have h37' : ((s[k].toNat : Int) == 37) = false := beqF (b := 37) h37
        have HR : Hid (Cd.scan Cd.us s.data.toList = (out ++ [s[k]]) ++ Cd.scan Cd.us (s.data.toList.drop (k + 1))) := hide (scan_next (unhide HU) hne (by rw [hd]; exact us_self _ h43 h37) (by omega))
        clear hd hne h43 h37
        go_wp2
        exact ⟨⟨k + 1, _, _, by omega, by simp; omega, by go_num, rfl, unhide HX, unhide HR, unhide HB⟩, by simp [intOf]; omega⟩
    · have HR := hide (scan_last (unhide HU) (Kb.drop_end s k (by omega)))
      go_wp2
      go_ret
      exact ⟨Kb.ret_str (eq_of_lists (by rw [unhide HQ, unhide HO]; unfold Cd.urlDec; rw [unhide HR])), unhide HB⟩
end Go.Proofs.YtkhbfdokkmebhaaGreatDoor
