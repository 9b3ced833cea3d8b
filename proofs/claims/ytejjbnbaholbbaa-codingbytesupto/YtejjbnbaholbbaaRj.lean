/- Walks of the document's answers on codes: two, UrlEncode, UrlDecode, HexEncode, HexDecode. -/
import Derived.Test.YtejjbnbaholbbaaRi
import Derived.Test.YtejjbnbaholbbaaWg
namespace Go.Proofs.Ytejjbnbaholbbaa
open Go.RowKit Kb
set_option linter.unusedVariables false

/-- two digits of a byte, out of sixteen -/
def twoL (d : ByteArray) (b : UInt8) : List UInt8 := [d.data.toList.getD (b.toNat / 16) 0, d.data.toList.getD (b.toNat % 16) 0]

set_option maxHeartbeats 2000000 in
theorem two_any (b : UInt8) (d : ByteArray) (w : World) (hd : d.size = 16) :
    Calls Try.prog 25 #[.int .u8 b.toNat, .string d] w fun e w' => e = .returned (.string ⟨(twoL d b).toArray⟩) ∧ Below w.heap.size w w' := by
  have hb := b.toNat_lt
  have HR := hide (show d.extract (b.toNat / 16) (b.toNat / 16 + 1) ++ d.extract (b.toNat % 16) (b.toNat % 16 + 1) = ⟨(twoL d b).toArray⟩ by
    rw [Kb.get_at d _ (by omega), Kb.get_at d _ (by omega), Kb.cat_list]; rfl)
  obtain ⟨q, hq⟩ : ∃ q, b.toNat / 16 = q := ⟨_, rfl⟩
  obtain ⟨r, hr⟩ : ∃ r, b.toNat % 16 = r := ⟨_, rfl⟩
  rw [hq, hr] at HR
  have hq' : (b.toNat : Int) / 16 = q := by omega
  have hr' : (b.toNat : Int) % 16 = r := by omega
  have hqb : (q : Int) < 16 := by omega
  have hrb : (r : Int) < 16 := by omega
  have hd' : (d.size : Int) = 16 := by omega
  go_enter Try.func25, Try.ntmps25
  go_wp2
  go_quiet (fail)
  go_wp2
  go_ret
  exact ⟨Kb.ret_str (unhide HR), Go.below_drewN (Below.refl _ _) _⟩

theorem two_s (b : UInt8) : twoL ⟨#[48, 49, 50, 51, 52, 53, 54, 55, 56, 57, 97, 98, 99, 100, 101, 102]⟩ b = Cd.h1 b := by
  have := Kb.u8_all (p := fun b => twoL ⟨#[48, 49, 50, 51, 52, 53, 54, 55, 56, 57, 97, 98, 99, 100, 101, 102]⟩ b == Cd.h1 b) (by decide +kernel) b
  simpa using this
theorem two_c (b : UInt8) : twoL ⟨#[48, 49, 50, 51, 52, 53, 54, 55, 56, 57, 65, 66, 67, 68, 69, 70]⟩ b = [Cd.hX (b / 16), Cd.hX (b % 16)] := by
  have := Kb.u8_all (p := fun b => twoL ⟨#[48, 49, 50, 51, 52, 53, 54, 55, 56, 57, 65, 66, 67, 68, 69, 70]⟩ b == [Cd.hX (b / 16), Cd.hX (b % 16)]) (by decide +kernel) b
  simpa using this
theorem two_sat (b : UInt8) (q : ByteArray) (hq : q.data.toList = Cd.h1 b) (w : World) :
    Calls Try.prog 25 #[.int .u8 b.toNat, .string ⟨#[48, 49, 50, 51, 52, 53, 54, 55, 56, 57, 97, 98, 99, 100, 101, 102]⟩] w fun e w' => e = .returned (.string q) ∧ Below w.heap.size w w' := by
  have := two_any b ⟨#[48, 49, 50, 51, 52, 53, 54, 55, 56, 57, 97, 98, 99, 100, 101, 102]⟩ w rfl
  rwa [two_s, back_list q _ hq] at this
theorem two_cat (b : UInt8) (q : ByteArray) (hq : q.data.toList = [Cd.hX (b / 16), Cd.hX (b % 16)]) (w : World) :
    Calls Try.prog 25 #[.int .u8 b.toNat, .string ⟨#[48, 49, 50, 51, 52, 53, 54, 55, 56, 57, 65, 66, 67, 68, 69, 70]⟩] w fun e w' => e = .returned (.string q) ∧ Below w.heap.size w w' := by
  have := two_any b ⟨#[48, 49, 50, 51, 52, 53, 54, 55, 56, 57, 65, 66, 67, 68, 69, 70]⟩ w rfl
  rwa [two_c, back_list q _ hq] at this
theorem in_unres (c : UInt8) (b : Bool) (s : ByteArray) (w : World) (hs : s.size ≤ maxLen) (hb : Cd.unres c = b) (h : (List.range 256).all (fun n => has s.data.toList (UInt8.ofNat n) == Cd.unres (UInt8.ofNat n)) = true) :
    Calls Try.prog 24 #[.int .u8 c.toNat, .string s] w fun e w' => e = .returned (.bool b) ∧ w' = w := by
  have := in_any c s w hs
  have h2 := Kb.u8_all (p := fun c => has s.data.toList c == Cd.unres c) h c
  simp only [beq_iff_eq] at h2
  rwa [h2, hb] at this
theorem next_str {f : UInt8 → List UInt8} {s o x : ByteArray} {k : Nat} (h : k < s.size) (ho : o.data.toList = Fm f s k) (hx : x.data.toList = f s[k]) : (o ++ x).data.toList = Fm f s (k + 1) := by
  rw [cat_data, ho, hx, Fm_succ f s k h]

set_option maxHeartbeats 4000000 in
theorem rurlEncode_any (s q : ByteArray) (w : World) (hq : q.data.toList = Cd.urlEnc s.data.toList) (hs : s.size ≤ 68719476736) :
    Calls Try.prog 9 #[.string s] w fun e w' => e = .returned (.string q) ∧ Below w.heap.size w w' := by
  have HQ := hide hq
  clear hq
  go_enter Try.func9, Try.ntmps9
  go_wp2
  go_loopw [3, 4] (fun v i wr => ∃ (k : Nat) (o : ByteArray), k ≤ s.size ∧ i = .int .i64 k ∧ v = .string o ∧ o.data.toList = Fm Cd.u1 s k ∧ Below w.heap.size w wr) (fun _ i _ => s.size - (intOf i).toNat)
  case atStart => exact ⟨0, _, Nat.zero_le _, rfl, rfl, rfl, Below.refl _ _⟩
  case round =>
    obtain ⟨k, o, hk, rfl, rfl, ho, hbel⟩ := hrel
    have HB := hide hbel
    have HO := hide ho
    have hos : o.size ≤ 3 * k := by rw [← len_data, ho]; exact Fm_u s k
    have hos' : o.size ≤ 274877906944 := by omega
    clear hbel ho hos
    by_cases hlt : k < s.size
    · have hc := s[k].toNat_lt
      rcases hu : Cd.unres s[k] with _ | _
      · have HI := hide hu
        by_cases h32 : s[k].toNat = 32
        · have h32' : ((s[k].toNat : Int) == 32) = true := by rw [h32]; rfl
          have HE := hide (next_str (x := ⟨#[43]⟩) hlt (unhide HO) (by rw [u1_blank h32]))
          clear hu h32
          go_wp2_with fail
          refine (in_unres s[k] false _ _ ?_ (unhide HI) ?_).mono ?_
          · decide
          · decide +kernel
          rintro e wx ⟨rfl, rfl⟩
          go_wp2_with fail
          exact ⟨⟨k + 1, _, by omega, by go_num, rfl, unhide HE, unhide HB⟩, by simp [intOf]; omega⟩
        · have h32' : ((s[k].toNat : Int) == 32) = false := by rw [beq_eq_false_iff_ne]; omega
          obtain ⟨y, hy⟩ := ex_list [Cd.hX (s[k] / 16), Cd.hX (s[k] % 16)]
          have hys : y.size = 2 := by rw [← len_data, hy]; rfl
          have HT := hide (two_cat s[k] y hy)
          have HE := hide (next_str (f := Cd.u1) (x := ⟨#[37]⟩ ++ y) hlt (unhide HO) (by
            rw [cat_data, hy]; unfold Cd.u1; rw [if_neg (by simp [hu]), if_neg (show s[k] ≠ 32 from Kb.ne_of_nat (by decide) h32)]; rfl))
          clear hu h32 hy
          go_wp2_with fail
          refine (in_unres s[k] false _ _ ?_ (unhide HI) ?_).mono ?_
          · decide
          · decide +kernel
          rintro e wx ⟨rfl, hwx⟩; rw [hwx]; clear hwx wx
          go_wp2_with fail
          refine ((unhide HT) _).mono ?_; rintro e w1 ⟨rfl, b1⟩
          go_wp2_with fail
          exact ⟨⟨k + 1, _, by omega, by go_num, rfl, unhide HE, (unhide HB).trans (b1.mono (unhide HB).size)⟩, by simp [intOf]; omega⟩
      · have HI := hide hu
        have HE := hide (next_str (f := Cd.u1) (x := s.extract k (k + 1)) hlt (unhide HO) (by rw [Kb.one_byte s k hlt]; unfold Cd.u1; rw [if_pos hu]))
        clear hu
        go_wp2_with fail
        refine (in_unres s[k] true _ _ ?_ (unhide HI) ?_).mono ?_
        · decide
        · decide +kernel
        rintro e wx ⟨rfl, rfl⟩
        go_wp2_with fail
        exact ⟨⟨k + 1, _, by omega, by go_num, rfl, unhide HE, unhide HB⟩, by simp [intOf]; omega⟩
    · have HE := hide (Fm_all Cd.u1 s k (by omega))
      go_wp2
      go_ret
      exact ⟨Kb.ret_str (eq_of_lists (by rw [unhide HQ, unhide HO, unhide HE]; rfl)), unhide HB⟩

set_option maxHeartbeats 4000000 in
theorem rhexEncode_any (s q : ByteArray) (w : World) (hq : q.data.toList = Cd.hexEnc s.data.toList) (hs : s.size ≤ 68719476736) :
    Calls Try.prog 19 #[.string s] w fun e w' => e = .returned (.string q) ∧ Below w.heap.size w w' := by
  have HQ := hide hq
  clear hq
  go_enter Try.func19, Try.ntmps19
  go_wp2
  go_loopw [3, 4] (fun v i wr => ∃ (k : Nat) (o : ByteArray), k ≤ s.size ∧ i = .int .i64 k ∧ v = .string o ∧ o.data.toList = Fm Cd.h1 s k ∧ Below w.heap.size w wr) (fun _ i _ => s.size - (intOf i).toNat)
  case atStart => exact ⟨0, _, Nat.zero_le _, rfl, rfl, rfl, Below.refl _ _⟩
  case round =>
    obtain ⟨k, o, hk, rfl, rfl, ho, hbel⟩ := hrel
    have HB := hide hbel
    have HO := hide ho
    have hos : o.size ≤ 2 * k := by rw [← len_data, ho]; exact Fm_h s k
    have hos' : o.size ≤ 274877906944 := by omega
    clear hbel ho hos
    by_cases hlt : k < s.size
    · obtain ⟨y, hy⟩ := ex_list (Cd.h1 s[k])
      have hys : y.size = 2 := by rw [← len_data, hy]; rfl
      have HT := hide (two_sat s[k] y hy)
      have HE := hide (next_str (f := Cd.h1) (x := y) hlt (unhide HO) hy)
      clear hy
      go_wp2_with fail
      refine ((unhide HT) _).mono ?_; rintro e w1 ⟨rfl, b1⟩
      go_wp2_with fail
      exact ⟨⟨k + 1, _, by omega, by go_num, rfl, unhide HE, (unhide HB).trans (b1.mono (unhide HB).size)⟩, by simp [intOf]; omega⟩
    · have HE := hide (Fm_all Cd.h1 s k (by omega))
      go_wp2
      go_ret
      exact ⟨Kb.ret_str (eq_of_lists (by rw [unhide HQ, unhide HO, unhide HE]; rfl)), unhide HB⟩
end Go.Proofs.Ytejjbnbaholbbaa
