/- Walks of unquoting: unquoted, Unquote. -/
import Derived.Test.YtemkbobofoimaaaDoorWu
import Derived.Test.YtemkbobofoimaaaDoorWr
import Derived.Lib.IndexBytes
namespace Go.Proofs.YtemkbobofoimaaaDoor
open Go.RowKit
set_option linter.unusedVariables false

def oneV (l : List UInt8) : Int := match Qt.one l with | some (c, _) => c.toNat | none => 0
def oneK (l : List UInt8) : Nat := match Qt.one l with | some (_, k) => k | none => 0

theorem at_list (s : ByteArray) (l : List UInt8) (h : s.data.toList = l) (k : Nat) (hk : k < s.size) : some s[k] = l[k]? := by
  subst h
  have : k < s.data.toList.length := by simpa using hk
  rw [List.getElem?_eq_getElem this]; rfl
theorem size_list (s : ByteArray) (l : List UInt8) (h : s.data.toList = l) : s.size = l.length := by subst h; simp

theorem one_self {a : UInt8} {r : List UInt8} (h : a ≠ 92) (hp : Qt.plain a = true) : oneV (a :: r) = a.toNat ∧ oneK (a :: r) = 1 := by
  simp [oneV, oneK, Qt.one, h, hp]
theorem one_bad {a : UInt8} {r : List UInt8} (h : a ≠ 92) (hp : Qt.plain a = false) : oneV (a :: r) = 0 ∧ oneK (a :: r) = 0 := by
  simp [oneV, oneK, Qt.one, h, hp]
theorem one_end : oneV [92] = 0 ∧ oneK [92] = 0 := by decide
theorem one_hex {x y p q : UInt8} {r : List UInt8} (hx : Qt.hv x = some p) (hy : Qt.hv y = some q) : oneV (92 :: 120 :: x :: y :: r) = (p * 16 + q : UInt8).toNat ∧ oneK (92 :: 120 :: x :: y :: r) = 4 := by
  simp [oneV, oneK, Qt.one, hx, hy]
theorem one_hexbad {x y : UInt8} {r : List UInt8} (h : Qt.hv x = none ∨ Qt.hv y = none) : oneV (92 :: 120 :: x :: y :: r) = 0 ∧ oneK (92 :: 120 :: x :: y :: r) = 0 := by
  rcases h with h | h
  · simp [oneV, oneK, Qt.one, h]
  · cases hx : Qt.hv x <;> simp [oneV, oneK, Qt.one, h, hx]
theorem one_hexshort {r : List UInt8} (h : r.length < 2) : oneV (92 :: 120 :: r) = 0 ∧ oneK (92 :: 120 :: r) = 0 := by
  match r, h with
  | [], _ => decide
  | [x], _ => simp [oneV, oneK, Qt.one]
theorem one_sign {b c : UInt8} {r : List UInt8} (hb : b ≠ 120) (h : Qt.sg b = some c) : oneV (92 :: b :: r) = c.toNat ∧ oneK (92 :: b :: r) = 2 := by
  simp [oneV, oneK, Qt.one, hb, h]
theorem one_nosign {b : UInt8} {r : List UInt8} (hb : b ≠ 120) (h : Qt.sg b = none) : oneV (92 :: b :: r) = 0 ∧ oneK (92 :: b :: r) = 0 := by
  simp [oneV, oneK, Qt.one, hb, h]

theorem nat_ne {a b : UInt8} (h : a ≠ b) : ¬ a.toNat = b.toNat := fun e => h (UInt8.toNat_inj.1 e)

set_option maxHeartbeats 1000000 in
theorem w_self (s : ByteArray) (w : World) (hs : s.size ≤ maxLen) (a : UInt8) (hpos : 1 ≤ s.size) (h0 : s[0]'(by omega) = a) (ha : a.toNat < 256) (hn : ¬ a.toNat = 92) (HC : Hid (Calls Tryd.prog 51 #[.int .u8 a.toNat] w fun e w' => e = .returned (.bool true) ∧ w' = w)) :
    Calls Tryd.prog 33 #[.string s] w fun e w' => e = .returned (.tuple #[.int .u8 a.toNat, .int .i64 1]) ∧ w' = w := by
  unfold maxLen at hs
  go_enter Tryd.func33, Tryd.ntmps33
  go_wp2_with fail
  refine HC.out.mono ?_; rintro e wx ⟨rfl, rfl⟩
  go_wp2_with fail
  go_ret2
  exact ⟨rfl, rfl⟩
set_option maxHeartbeats 1000000 in
theorem w_bad (s : ByteArray) (w : World) (hs : s.size ≤ maxLen) (a : UInt8) (hpos : 1 ≤ s.size) (h0 : s[0]'(by omega) = a) (ha : a.toNat < 256) (hn : ¬ a.toNat = 92) (HC : Hid (Calls Tryd.prog 51 #[.int .u8 a.toNat] w fun e w' => e = .returned (.bool false) ∧ w' = w)) :
    Calls Tryd.prog 33 #[.string s] w fun e w' => e = .returned (.tuple #[.int .u8 0, .int .i64 0]) ∧ w' = w := by
  unfold maxLen at hs
  go_enter Tryd.func33, Tryd.ntmps33
  go_wp2_with fail
  refine HC.out.mono ?_; rintro e wx ⟨rfl, rfl⟩
  go_wp2_with fail
  go_ret2
  exact ⟨rfl, rfl⟩
set_option maxHeartbeats 1000000 in
theorem w_end (s : ByteArray) (w : World) (hs : s.size ≤ maxLen) (h1 : s.size = 1) (h0 : s[0]'(by omega) = 92) :
    Calls Tryd.prog 33 #[.string s] w fun e w' => e = .returned (.tuple #[.int .u8 0, .int .i64 0]) ∧ w' = w := by
  unfold maxLen at hs
  go_enter Tryd.func33, Tryd.ntmps33
  go_wp2_with fail
  go_ret2
  exact ⟨rfl, rfl⟩
set_option maxHeartbeats 1000000 in
theorem w_hexyes (s : ByteArray) (w : World) (hs : s.size ≤ maxLen) (c : Int) (hge : 2 ≤ s.size) (h0 : s[0]'(by omega) = 92) (h1 : s[1]'(by omega) = 120) (HC : Hid (Calls Tryd.prog 52 #[.string (s.extract 2 s.size)] w fun e w' => e = .returned (.tuple #[.int .u8 c, .bool true]) ∧ w' = w)) :
    Calls Tryd.prog 33 #[.string s] w fun e w' => e = .returned (.tuple #[.int .u8 c, .int .i64 4]) ∧ w' = w := by
  unfold maxLen at hs
  go_enter Tryd.func33, Tryd.ntmps33
  go_wp2_with fail
  refine HC.out.mono ?_; rintro e wx ⟨rfl, rfl⟩
  go_wp2_with fail
  go_ret2
  exact ⟨rfl, rfl⟩
set_option maxHeartbeats 1000000 in
theorem w_hexno (s : ByteArray) (w : World) (hs : s.size ≤ maxLen) (hge : 2 ≤ s.size) (h0 : s[0]'(by omega) = 92) (h1 : s[1]'(by omega) = 120) (HC : Hid (Calls Tryd.prog 52 #[.string (s.extract 2 s.size)] w fun e w' => e = .returned (.tuple #[.int .u8 0, .bool false]) ∧ w' = w)) :
    Calls Tryd.prog 33 #[.string s] w fun e w' => e = .returned (.tuple #[.int .u8 0, .int .i64 0]) ∧ w' = w := by
  unfold maxLen at hs
  go_enter Tryd.func33, Tryd.ntmps33
  go_wp2_with fail
  refine HC.out.mono ?_; rintro e wx ⟨rfl, rfl⟩
  go_wp2_with fail
  go_ret2
  exact ⟨rfl, rfl⟩
set_option maxHeartbeats 1000000 in
theorem w_signyes (s : ByteArray) (w : World) (hs : s.size ≤ maxLen) (b : UInt8) (c : Int) (hge : 2 ≤ s.size) (h0 : s[0]'(by omega) = 92) (h1 : s[1]'(by omega) = b) (hb : b.toNat < 256) (hn : ¬ b.toNat = 120) (HC : Hid (Calls Tryd.prog 53 #[.int .u8 b.toNat] w fun e w' => e = .returned (.tuple #[.int .u8 c, .bool true]) ∧ w' = w)) :
    Calls Tryd.prog 33 #[.string s] w fun e w' => e = .returned (.tuple #[.int .u8 c, .int .i64 2]) ∧ w' = w := by
  unfold maxLen at hs
  go_enter Tryd.func33, Tryd.ntmps33
  go_wp2_with fail
  refine HC.out.mono ?_; rintro e wx ⟨rfl, rfl⟩
  go_wp2_with fail
  go_ret2
  exact ⟨rfl, rfl⟩
set_option maxHeartbeats 1000000 in
theorem w_signno (s : ByteArray) (w : World) (hs : s.size ≤ maxLen) (b : UInt8) (hge : 2 ≤ s.size) (h0 : s[0]'(by omega) = 92) (h1 : s[1]'(by omega) = b) (hb : b.toNat < 256) (hn : ¬ b.toNat = 120) (HC : Hid (Calls Tryd.prog 53 #[.int .u8 b.toNat] w fun e w' => e = .returned (.tuple #[.int .u8 0, .bool false]) ∧ w' = w)) :
    Calls Tryd.prog 33 #[.string s] w fun e w' => e = .returned (.tuple #[.int .u8 0, .int .i64 0]) ∧ w' = w := by
  unfold maxLen at hs
  go_enter Tryd.func33, Tryd.ntmps33
  go_wp2_with fail
  refine HC.out.mono ?_; rintro e wx ⟨rfl, rfl⟩
  go_wp2_with fail
  go_ret2
  exact ⟨rfl, rfl⟩

theorem fits {p q : Int} {c : Int} {k : Nat} {w : World} {s : ByteArray} (hp : c = p) (hq : (k : Int) = q) (h : Calls Tryd.prog 33 #[.string s] w fun e w' => e = .returned (.tuple #[.int .u8 p, .int .i64 q]) ∧ w' = w) :
    Calls Tryd.prog 33 #[.string s] w fun e w' => e = .returned (.tuple #[.int .u8 c, .int .i64 k]) ∧ w' = w := by rw [hp, hq]; exact h

theorem unquoted_any (s : ByteArray) (w : World) (hs : s.size ≤ maxLen) (hpos : 1 ≤ s.size) :
    Calls Tryd.prog 33 #[.string s] w fun e w' => e = .returned (.tuple #[.int .u8 (oneV s.data.toList), .int .i64 (oneK s.data.toList)]) ∧ w' = w := by
  obtain ⟨l, hl⟩ : ∃ l, s.data.toList = l := ⟨_, rfl⟩
  have hsz := size_list s l hl
  have hg := fun k hk => at_list s l hl k hk
  rw [hl]
  match l, hl, hsz, hg with
  | [], _, hsz, _ => exact absurd hsz (by rw [List.length_nil]; omega)
  | a :: r, hl, hsz, hg =>
    have h0 : s[0]'(by omega) = a := by simpa using hg 0 (by omega)
    by_cases h92 : a = 92
    · subst h92
      match r, hl, hsz, hg with
      | [], hl, hsz, hg => exact fits one_end.1 (by rw [one_end.2]; rfl) (w_end s w hs (by simpa using hsz) h0)
      | b :: r', hl, hsz, hg =>
        have hge : 2 ≤ s.size := by simp at hsz; omega
        have h1 : s[1]'(by omega) = b := by simpa using hg 1 (by omega)
        by_cases h120 : b = 120
        · subst h120
          have he : (s.extract 2 s.size).data.toList = r' := by rw [Lib.extract_to_end, hl]; rfl
          have hes := size_list _ _ he
          by_cases hsh : r'.length < 2
          · have H := one_hexshort hsh
            exact fits H.1 (by rw [H.2]; rfl) (w_hexno s w hs hge h0 h1 (unhex_short (s.extract 2 s.size) w (by omega)))
          · match r', he, hes, hsh with
            | [], _, _, hsh => exact absurd hsh (by simp)
            | [_], _, _, hsh => exact absurd hsh (by simp)
            | x :: y :: r'', he, hes, hsh =>
              have hes2 : 2 ≤ (s.extract 2 s.size).size := by rw [hes]; simp
              have g0 : (s.extract 2 s.size)[0]'(by omega) = x := by simpa using at_list _ _ he 0 (by omega)
              have g1 : (s.extract 2 s.size)[1]'(by omega) = y := by simpa using at_list _ _ he 1 (by omega)
              have hes3 : (s.extract 2 s.size).size ≤ maxLen := by simp; omega
              rcases hx : Qt.hv x with _ | p
              · have H := @one_hexbad x y r'' (.inl hx)
                exact fits H.1 (by rw [H.2]; rfl) (w_hexno s w hs hge h0 h1 (unhex_no (s.extract 2 s.size) x y w hes3 hes2 g0 g1 (.inl hx)))
              · rcases hy : Qt.hv y with _ | q
                · have H := @one_hexbad x y r'' (.inr hy)
                  exact fits H.1 (by rw [H.2]; rfl) (w_hexno s w hs hge h0 h1 (unhex_no (s.extract 2 s.size) x y w hes3 hes2 g0 g1 (.inr hy)))
                · have H := @one_hex x y p q r'' hx hy
                  exact fits H.1 (by rw [H.2]; rfl) (w_hexyes s w hs _ hge h0 h1 (unhex_yes (s.extract 2 s.size) x y p q w hes3 hes2 g0 g1 hx hy))
        · rcases hsg : Qt.sg b with _ | c
          · have H := @one_nosign b r' h120 hsg
            exact fits H.1 (by rw [H.2]; rfl) (w_signno s w hs b hge h0 h1 b.toNat_lt (nat_ne h120) (sign_none hsg w))
          · have H := @one_sign b c r' h120 hsg
            exact fits H.1 (by rw [H.2]; rfl) (w_signyes s w hs b _ hge h0 h1 b.toNat_lt (nat_ne h120) (sign_some hsg w))
    · have HC := plain_any a w
      rcases hp : Qt.plain a with _ | _
      · have H := @one_bad a r h92 hp
        rw [hp] at HC
        exact fits H.1 (by rw [H.2]; rfl) (w_bad s w hs a hpos h0 a.toNat_lt (nat_ne h92) HC)
      · have H := @one_self a r h92 hp
        rw [hp] at HC
        exact fits H.1 (by rw [H.2]; rfl) (w_self s w hs a hpos h0 a.toNat_lt (nat_ne h92) HC)
end Go.Proofs.YtemkbobofoimaaaDoor
