/- Walks of unquoting: unquotedHex, unquotedSign, unquoted. -/
import Derived.Test.YtemkbobofoimaaaDoorWb
import Derived.Test.YtemkbobofoimaaaDoorWq
namespace Go.Proofs.YtemkbobofoimaaaDoor
open Go.RowKit
set_option linter.unusedVariables false

theorem digS_hv (c : UInt8) : digS c.toNat = (match Qt.hv c with | some p => (p.toNat : Int) | none => -1) := by
  have := Qt.all_u8 (p := fun c => digS c.toNat == (match Qt.hv c with | some p => (p.toNat : Int) | none => -1)) (by decide +kernel) c
  simpa using this
theorem digit_some {c p : UInt8} (h : Qt.hv c = some p) (w : World) :
    Calls Tryd.prog 54 #[.int .u8 c.toNat] w fun e w' => e = .returned (.tuple #[.int .i64 p.toNat, .bool true]) ∧ w' = w := by
  have hc := c.toNat_lt
  exact digit_yes c.toNat p.toNat w (by omega) (by omega) (by rw [digS_hv, h]) (by omega)
theorem digit_none {c : UInt8} (h : Qt.hv c = none) (w : World) :
    Calls Tryd.prog 54 #[.int .u8 c.toNat] w fun e w' => e = .returned (.tuple #[.int .i64 0, .bool false]) ∧ w' = w := by
  have hc := c.toNat_lt
  exact digit_no c.toNat w (by omega) (by omega) (by rw [digS_hv, h]; decide)
theorem hv_lt {c p : UInt8} (h : Qt.hv c = some p) : p.toNat < 16 := by
  have := Qt.all_u8 (p := fun c => match Qt.hv c with | some p => decide (p.toNat < 16) | none => true) (by decide +kernel) c
  simpa [h] using this

theorem or16_fin : ∀ a b : Fin 16, bits BinOp.or IntKind.i64 ((a.1 : Int) * 16) (b.1 : Int) % 256 = ((UInt8.ofNat a.1 * 16 + UInt8.ofNat b.1 : UInt8).toNat : Int) := by decide +kernel
theorem or16 {p q : UInt8} (hp : p.toNat < 16) (hq : q.toNat < 16) : bits BinOp.or IntKind.i64 ((p.toNat : Int) * 16) (q.toNat : Int) % 256 = ((p * 16 + q : UInt8).toNat : Int) := by
  have := or16_fin ⟨p.toNat, hp⟩ ⟨q.toNat, hq⟩
  simpa using this

set_option maxHeartbeats 1000000 in
theorem unhex_yes (s : ByteArray) (x y p q : UInt8) (w : World) (hs : s.size ≤ maxLen) (h2 : 2 ≤ s.size) (h0 : s[0]'(by omega) = x) (h1 : s[1]'(by omega) = y) (hx : Qt.hv x = some p) (hy : Qt.hv y = some q) :
    Calls Tryd.prog 52 #[.string s] w fun e w' => e = .returned (.tuple #[.int .u8 (p * 16 + q : UInt8).toNat, .bool true]) ∧ w' = w := by
  unfold maxLen at hs
  have hp := hv_lt hx
  have hq := hv_lt hy
  have HX := hid (digit_some hx w)
  have HY := hid (digit_some hy w)
  clear hx hy
  go_enter Tryd.func52, Tryd.ntmps52
  go_wp2_with fail
  refine HX.out.mono ?_; rintro e wx ⟨rfl, rfl⟩
  go_wp2_with fail
  refine HY.out.mono ?_; rintro e wx ⟨rfl, rfl⟩
  go_wp2_with fail
  go_ret2
  exact ⟨ret_int_bool (or16 hp hq) rfl, rfl⟩
set_option maxHeartbeats 1000000 in
theorem unhex_short (s : ByteArray) (w : World) (h2 : s.size < 2) :
    Calls Tryd.prog 52 #[.string s] w fun e w' => e = .returned (.tuple #[.int .u8 0, .bool false]) ∧ w' = w := by
  go_enter Tryd.func52, Tryd.ntmps52
  go_wp2_with fail
  go_ret2
  exact ⟨rfl, rfl⟩
set_option maxHeartbeats 1000000 in
theorem unhex_no (s : ByteArray) (x y : UInt8) (w : World) (hs : s.size ≤ maxLen) (h2 : 2 ≤ s.size) (h0 : s[0]'(by omega) = x) (h1 : s[1]'(by omega) = y) (hxy : Qt.hv x = none ∨ Qt.hv y = none) :
    Calls Tryd.prog 52 #[.string s] w fun e w' => e = .returned (.tuple #[.int .u8 0, .bool false]) ∧ w' = w := by
  unfold maxLen at hs
  rcases hx : Qt.hv x with _ | p
  · have HX := hid (digit_none hx w)
    rcases hy : Qt.hv y with _ | q
    · have HY := hid (digit_none hy w)
      clear hx hy hxy
      go_enter Tryd.func52, Tryd.ntmps52
      go_wp2_with fail
      refine HX.out.mono ?_; rintro e wx ⟨rfl, rfl⟩
      go_wp2_with fail
      refine HY.out.mono ?_; rintro e wx ⟨rfl, rfl⟩
      go_wp2_with fail
      go_ret2
      exact ⟨rfl, rfl⟩
    · have HY := hid (digit_some hy w)
      clear hx hy hxy
      go_enter Tryd.func52, Tryd.ntmps52
      go_wp2_with fail
      refine HX.out.mono ?_; rintro e wx ⟨rfl, rfl⟩
      go_wp2_with fail
      refine HY.out.mono ?_; rintro e wx ⟨rfl, rfl⟩
      go_wp2_with fail
      go_ret2
      exact ⟨rfl, rfl⟩
  · have HX := hid (digit_some hx w)
    have hy : Qt.hv y = none := by
      rcases hxy with h | h
      · rw [hx] at h; cases h
      · exact h
    have HY := hid (digit_none hy w)
    clear hx hy hxy
    go_enter Tryd.func52, Tryd.ntmps52
    go_wp2_with fail
    refine HX.out.mono ?_; rintro e wx ⟨rfl, rfl⟩
    go_wp2_with fail
    refine HY.out.mono ?_; rintro e wx ⟨rfl, rfl⟩
    go_wp2_with fail
    go_ret2
    exact ⟨rfl, rfl⟩

def sgV (c : UInt8) : Int := match Qt.sg c with | some p => p.toNat | none => 0
def sgB (c : UInt8) : Bool := match Qt.sg c with | some _ => true | none => false

theorem sgV_key (c : UInt8) : sgV c = if c.toNat = 110 then 10 else if c.toNat = 114 then 13 else if c.toNat = 116 then 9 else if c.toNat = 115 then 32 else if c.toNat = 92 then 92 else if c.toNat = 45 then 45 else 0 := by
  have := Qt.all_u8 (p := fun c => sgV c == if c.toNat = 110 then 10 else if c.toNat = 114 then 13 else if c.toNat = 116 then 9 else if c.toNat = 115 then 32 else if c.toNat = 92 then 92 else if c.toNat = 45 then 45 else 0) (by decide +kernel) c
  simpa using this
theorem sgB_key (c : UInt8) : sgB c = decide (c.toNat = 110 ∨ c.toNat = 114 ∨ c.toNat = 116 ∨ c.toNat = 115 ∨ c.toNat = 92 ∨ c.toNat = 45) := by
  have := Qt.all_u8 (p := fun c => sgB c == decide (c.toNat = 110 ∨ c.toNat = 114 ∨ c.toNat = 116 ∨ c.toNat = 115 ∨ c.toNat = 92 ∨ c.toNat = 45)) (by decide +kernel) c
  simpa using this

set_option maxHeartbeats 1000000 in
theorem sign_any (c : UInt8) (w : World) :
    Calls Tryd.prog 53 #[.int .u8 c.toNat] w fun e w' => e = .returned (.tuple #[.int .u8 (sgV c), .bool (sgB c)]) ∧ w' = w := by
  have hc := c.toNat_lt
  have H1 := hid (sgV_key c)
  have H2 := hid (sgB_key c)
  have hd : c.toNat = 110 ∨ c.toNat = 114 ∨ c.toNat = 116 ∨ c.toNat = 115 ∨ c.toNat = 92 ∨ c.toNat = 45 ∨ (c.toNat ≠ 110 ∧ c.toNat ≠ 114 ∧ c.toNat ≠ 116 ∧ c.toNat ≠ 115 ∧ c.toNat ≠ 92 ∧ c.toNat ≠ 45) := by omega
  rcases hd with h | h | h | h | h | h | ⟨n1, n2, n3, n4, n5, n6⟩
  all_goals
    go_enter Tryd.func53, Tryd.ntmps53
    go_wp2
    go_ret2
    refine ⟨ret_int_bool ?_ ?_, rfl⟩
    · rw [H1.out]; (repeat' split) <;> omega
    · rw [H2.out]; first | (refine dec_t ?_; omega) | (refine dec_f ?_; omega)

theorem sign_some {c p : UInt8} (h : Qt.sg c = some p) (w : World) :
    Calls Tryd.prog 53 #[.int .u8 c.toNat] w fun e w' => e = .returned (.tuple #[.int .u8 p.toNat, .bool true]) ∧ w' = w := by
  refine (sign_any c w).mono ?_
  rintro e w' ⟨rfl, rfl⟩
  exact ⟨ret_int_bool (by unfold sgV; rw [h]) (by unfold sgB; rw [h]), rfl⟩
theorem sign_none {c : UInt8} (h : Qt.sg c = none) (w : World) :
    Calls Tryd.prog 53 #[.int .u8 c.toNat] w fun e w' => e = .returned (.tuple #[.int .u8 0, .bool false]) ∧ w' = w := by
  refine (sign_any c w).mono ?_
  rintro e w' ⟨rfl, rfl⟩
  exact ⟨ret_int_bool (by unfold sgV; rw [h]) (by unfold sgB; rw [h]), rfl⟩
end Go.Proofs.YtemkbobofoimaaaDoor
