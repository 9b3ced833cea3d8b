/- Walks of the document's two and Quote. -/
import Derived.Test.YtemkbobofoimaaaDoorRc
import Derived.Test.YtemkbobofoimaaaDoorWr
namespace Go.Proofs.YtemkbobofoimaaaDoor
open Go.RowKit
set_option linter.unusedVariables false

theorem cat_list (a b : List UInt8) : ((⟨a.toArray⟩ : ByteArray) ++ (⟨b.toArray⟩ : ByteArray)) = ⟨(a ++ b).toArray⟩ := by
  apply eq_list; simp

/-- two digits of a byte, out of sixteen -/
def twoL (d : ByteArray) (b : UInt8) : List UInt8 := [d.data.toList.getD (b.toNat / 16) 0, d.data.toList.getD (b.toNat % 16) 0]
theorem get_at (d : ByteArray) (q : Nat) (h : q < d.size) : d.extract q (q + 1) = ⟨[d.data.toList.getD q 0].toArray⟩ := by
  rw [one_byte d q h]
  have : d.data.toList.getD q 0 = d[q] := by
    simp [List.getD, List.getElem?_eq_getElem (show q < d.data.toList.length by simpa using h)]; rfl
  rw [this]

set_option maxHeartbeats 2000000 in
theorem two_any (b : UInt8) (d : ByteArray) (w : World) (hd : d.size = 16) :
    Calls Tryd.prog 36 #[.int .u8 b.toNat, .string d] w fun e w' => e = .returned (.string ⟨(twoL d b).toArray⟩) ∧ Below w.heap.size w w' := by
  have hb := b.toNat_lt
  have HR := hide (show d.extract (b.toNat / 16) (b.toNat / 16 + 1) ++ d.extract (b.toNat % 16) (b.toNat % 16 + 1) = ⟨(twoL d b).toArray⟩ by
    rw [get_at d _ (by omega), get_at d _ (by omega), cat_list]; rfl)
  obtain ⟨q, hq⟩ : ∃ q, b.toNat / 16 = q := ⟨_, rfl⟩
  obtain ⟨r, hr⟩ : ∃ r, b.toNat % 16 = r := ⟨_, rfl⟩
  rw [hq, hr] at HR
  have hq' : (b.toNat : Int) / 16 = q := by omega
  have hr' : (b.toNat : Int) % 16 = r := by omega
  have hqb : (q : Int) < 16 := by omega
  have hrb : (r : Int) < 16 := by omega
  have hd' : (d.size : Int) = 16 := by omega
  go_enter Tryd.func36, Tryd.ntmps36
  go_wp2
  go_quiet (fail)
  go_wp2
  go_ret
  exact ⟨ret_str (unhide HR), Go.below_drewN (Below.refl _ _) _⟩

theorem two_hx (b : UInt8) : twoL ⟨#[48, 49, 50, 51, 52, 53, 54, 55, 56, 57, 97, 98, 99, 100, 101, 102]⟩ b = [Qt.hx (b / 16), Qt.hx (b % 16)] := by
  have := u8_all (p := fun b => twoL ⟨#[48, 49, 50, 51, 52, 53, 54, 55, 56, 57, 97, 98, 99, 100, 101, 102]⟩ b == [Qt.hx (b / 16), Qt.hx (b % 16)]) (by decide +kernel) b
  simpa using this
theorem two_dig (b : UInt8) (w : World) :
    Calls Tryd.prog 36 #[.int .u8 b.toNat, .string ⟨#[48, 49, 50, 51, 52, 53, 54, 55, 56, 57, 97, 98, 99, 100, 101, 102]⟩] w fun e w' => e = .returned (.string ⟨[Qt.hx (b / 16), Qt.hx (b % 16)].toArray⟩) ∧ Below w.heap.size w w' := by
  have := two_any b ⟨#[48, 49, 50, 51, 52, 53, 54, 55, 56, 57, 97, 98, 99, 100, 101, 102]⟩ w rfl
  rwa [two_hx] at this

/-- the next piece of a quoted text -/
theorem Qd_str (s o x : ByteArray) (k : Nat) (h : k < s.size) (ho : o = ⟨(Qd s k).toArray⟩) (hx : x = ⟨(Qt.q1 s[k]).toArray⟩) : o ++ x = ⟨(Qd s (k + 1)).toArray⟩ := by
  rw [ho, hx, cat_list, Qd_succ s k h]
theorem q1_sz (c : UInt8) (x : ByteArray) (h : x = ⟨(Qt.q1 c).toArray⟩) : x.size ≤ 4 := by
  rw [h, mk_sz]; exact Qt.q1_len c

theorem q_hex {c : UInt8} (h10 : ¬ c.toNat = 10) (h13 : ¬ c.toNat = 13) (h9 : ¬ c.toNat = 9) (h32 : ¬ c.toNat = 32) (h92 : ¬ c.toNat = 92) (hp : c.toNat < 33 ∨ 126 < c.toNat) : Qt.q1 c = [92, 120, Qt.hx (c / 16), Qt.hx (c % 16)] := by
  have hp' : Qt.plain c = false := by
    unfold Qt.plain; simp [UInt8.le_iff_toNat_le]; omega
  unfold Qt.q1
  rw [if_neg (show c ≠ 10 from ne_of_nat (by decide) h10), if_neg (show c ≠ 13 from ne_of_nat (by decide) h13), if_neg (show c ≠ 9 from ne_of_nat (by decide) h9), if_neg (show c ≠ 32 from ne_of_nat (by decide) h32), if_neg (show c ≠ 92 from ne_of_nat (by decide) h92), if_pos hp']
theorem q_self {c : UInt8} (h10 : ¬ c.toNat = 10) (h13 : ¬ c.toNat = 13) (h9 : ¬ c.toNat = 9) (h32 : ¬ c.toNat = 32) (h92 : ¬ c.toNat = 92) (h1 : 33 ≤ c.toNat) (h2 : c.toNat ≤ 126) : Qt.q1 c = [c] :=
  own_self h10 h13 h9 h32 h92 (by unfold Qt.plain; simp [UInt8.le_iff_toNat_le]; omega)

set_option maxHeartbeats 4000000 in
theorem rquote_any (s : ByteArray) (w : World) (hs : s.size ≤ 68719476736) :
    Calls Tryd.prog 19 #[.string s] w fun e w' => e = .returned (.string ⟨(Qt.quote s.data.toList).toArray⟩) ∧ Below w.heap.size w w' := by
  by_cases h0 : s.data.toList = []
  · obtain rfl : s = ⟨#[]⟩ := by obtain ⟨⟨l⟩⟩ := s; simp at h0; subst h0; rfl
    go_enter Tryd.func19, Tryd.ntmps19
    go_wp2
    go_ret
    exact ⟨rfl, Below.refl _ _⟩
  by_cases h1 : s.data.toList = [45]
  · obtain rfl : s = ⟨#[45]⟩ := by obtain ⟨⟨l⟩⟩ := s; simp at h1; subst h1; rfl
    go_enter Tryd.func19, Tryd.ntmps19
    go_wp2
    go_ret
    exact ⟨rfl, Below.refl _ _⟩
  have HR : Hid (Qt.quote s.data.toList = s.data.toList.flatMap Qt.q1) := by
    show _ = _
    unfold Qt.quote; rw [if_neg h0, if_neg h1]
  have e0 : (s.toList == []) = false := by rw [ByteArray.toList_eq]; simpa using h0
  have e1 : (s.toList == [45]) = false := by rw [ByteArray.toList_eq]; simpa using h1
  clear h0 h1
  go_enter Tryd.func19, Tryd.ntmps19
  go_wp2
  go_loopw [3, 4] (fun v i wr => ∃ (k : Nat) (o : ByteArray), k ≤ s.size ∧ i = .int .i64 k ∧ v = .string o ∧ o = ⟨(Qd s k).toArray⟩ ∧ Below w.heap.size w wr) (fun _ i _ => s.size - (intOf i).toNat)
  case atStart => exact ⟨0, _, Nat.zero_le _, rfl, rfl, rfl, Below.refl _ _⟩
  case round =>
    obtain ⟨k, o, hk, rfl, rfl, ho, hbel⟩ := hrel
    have HB := hide hbel
    have HO := hide ho
    have hos : o.size ≤ 4 * k := by rw [ho, mk_sz]; exact Qd_len s k
    have hos' : o.size ≤ 274877906944 := by omega
    clear hbel ho hos
    by_cases hlt : k < s.size
    · have hd : s[k].toNat = 10 ∨ s[k].toNat = 13 ∨ s[k].toNat = 9 ∨ s[k].toNat = 32 ∨ s[k].toNat = 92 ∨ ((¬ s[k].toNat = 10 ∧ ¬ s[k].toNat = 13 ∧ ¬ s[k].toNat = 9 ∧ ¬ s[k].toNat = 32 ∧ ¬ s[k].toNat = 92)) := by omega
      have hlt8 := s[k].toNat_lt
      rcases hd with h | h | h | h | h | ⟨n1, n2, n3, n4, n5⟩
      · have HQ := hide (Qd_str s o ⟨#[92, 110]⟩ k hlt (unhide HO) (by rw [eq_of_nat h]; rfl))
        go_wp2
        exact ⟨⟨k + 1, _, by omega, by go_num, rfl, unhide HQ, unhide HB⟩, by simp [intOf]; omega⟩
      · have HQ := hide (Qd_str s o ⟨#[92, 114]⟩ k hlt (unhide HO) (by rw [eq_of_nat h]; rfl))
        go_wp2
        exact ⟨⟨k + 1, _, by omega, by go_num, rfl, unhide HQ, unhide HB⟩, by simp [intOf]; omega⟩
      · have HQ := hide (Qd_str s o ⟨#[92, 116]⟩ k hlt (unhide HO) (by rw [eq_of_nat h]; rfl))
        go_wp2
        exact ⟨⟨k + 1, _, by omega, by go_num, rfl, unhide HQ, unhide HB⟩, by simp [intOf]; omega⟩
      · have HQ := hide (Qd_str s o ⟨#[92, 115]⟩ k hlt (unhide HO) (by rw [eq_of_nat h]; rfl))
        go_wp2
        exact ⟨⟨k + 1, _, by omega, by go_num, rfl, unhide HQ, unhide HB⟩, by simp [intOf]; omega⟩
      · have HQ := hide (Qd_str s o ⟨#[92, 92]⟩ k hlt (unhide HO) (by rw [eq_of_nat h]; rfl))
        go_wp2
        exact ⟨⟨k + 1, _, by omega, by go_num, rfl, unhide HQ, unhide HB⟩, by simp [intOf]; omega⟩
      · by_cases hp : 33 ≤ s[k].toNat ∧ s[k].toNat ≤ 126
        · obtain ⟨hp1, hp2⟩ := hp
          have HQ := hide (Qd_str s o (s.extract k (k + 1)) k hlt (unhide HO) (by rw [one_byte s k hlt, q_self n1 n2 n3 n4 n5 hp1 hp2]))
          go_wp2
          exact ⟨⟨k + 1, _, by omega, by go_num, rfl, unhide HQ, unhide HB⟩, by simp [intOf]; omega⟩
        · have hp' : s[k].toNat < 33 ∨ 126 < s[k].toNat := by omega
          have HQ := hide (Qd_str s o (⟨#[92, 120]⟩ ++ ⟨[Qt.hx (s[k] / 16), Qt.hx (s[k] % 16)].toArray⟩) k hlt (unhide HO) (by rw [q_hex n1 n2 n3 n4 n5 hp']; exact cat_list [92, 120] _))
          have HT := hide (fun w => two_dig s[k] w)
          have hsz : (⟨[Qt.hx (s[k] / 16), Qt.hx (s[k] % 16)].toArray⟩ : ByteArray).size = 2 := rfl
          generalize (⟨[Qt.hx (s[k] / 16), Qt.hx (s[k] % 16)].toArray⟩ : ByteArray) = tw at *
          clear hp
          rcases hp' with hp' | hp'
          all_goals
            go_wp2_with (go_at_call 36; refine ((unhide HT) _).mono ?_; rintro e w1 ⟨rfl, b1⟩)
            exact ⟨⟨k + 1, _, by omega, by go_num, rfl, unhide HQ, (unhide HB).trans (b1.mono (unhide HB).size)⟩, by simp [intOf]; omega⟩
    · have HE := hide (Qd_all s k (by omega))
      go_wp2
      go_ret
      exact ⟨ret_str (by rw [unhide HR, ← unhide HE]; exact unhide HO), unhide HB⟩
end Go.Proofs.YtemkbobofoimaaaDoor
