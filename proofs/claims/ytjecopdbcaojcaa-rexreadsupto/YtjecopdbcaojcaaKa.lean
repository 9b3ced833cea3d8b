/- The program's reading of expressions: the reader, peek, take, hexByte, escaped, char. -/
import Derived.Test.YtjecopdbcaojcaaJb
import Derived.BigQuiet
import Derived.Deep.QuietTactic
namespace Go.Proofs.Ytjecopdbcaojcaa
open Go.RowKit Kb
set_option linter.unusedVariables false
set_option maxRecDepth 20000

def rdC (s : ByteArray) (a op : Nat) : List Value := [.string s, .int .i64 a, .int .i64 op]
/-- a reader in a block of its own -/
def Rd (w : World) (B g : Nat) (s : ByteArray) (a op : Nat) : Prop := w.ownsRow B 48 3 (.slice (some ⟨g, 0, none⟩) 1 1) 1 (rdC s a op)
theorem Rd.cells {w : World} {B g : Nat} {s : ByteArray} {a op : Nat} (h : Rd w B g s a op) : w.cell? ⟨g, 0, none⟩ = some (.string s) ∧ w.cell? ⟨g, 1, none⟩ = some (.int .i64 a) ∧ w.cell? ⟨g, 2, none⟩ = some (.int .i64 op) :=
  ⟨World.ownsRow.cellAt h 0 (by omega), World.ownsRow.cellAt h 1 (by omega), World.ownsRow.cellAt h 2 (by omega)⟩
theorem Rd.lt {w : World} {B g : Nat} {s : ByteArray} {a op : Nat} (h : Rd w B g s a op) : B ≤ g ∧ g < w.heap.size := World.ownsRow.lt h g rfl
theorem Rd.below {w w' : World} {B g : Nat} {s : ByteArray} {a op : Nat} (h : Rd w B g s a op) (b : Below w.heap.size w w') : Rd w' B g s a op := own_below h b
theorem Rd.frozen {w : World} {B g : Nat} {s : ByteArray} {a op : Nat} (h : Rd w B g s a op) (j : Nat) : w.frozen? ⟨g, j, none⟩ = false := World.ownsRow.frozenAt h j
theorem Rd.setAt {w : World} {B g : Nat} {s : ByteArray} {a op : Nat} (h : Rd w B g s a op) (a' : Nat) : Rd (w.setCell ⟨g, 1, none⟩ (.int .i64 a')) B g s a' op ∧ w.grownBy (w.setCell ⟨g, 1, none⟩ (.int .i64 a')) (some g) := World.ownsRow.stored h 1 (.int .i64 a')
theorem Rd.setOp {w : World} {B g : Nat} {s : ByteArray} {a op : Nat} (h : Rd w B g s a op) (op' : Nat) : Rd (w.setCell ⟨g, 2, none⟩ (.int .i64 op')) B g s a op' ∧ w.grownBy (w.setCell ⟨g, 2, none⟩ (.int .i64 op')) (some g) := World.ownsRow.stored h 2 (.int .i64 op')
theorem grown_below' {w w' : World} (b : Below w.heap.size w w') (row : Option Nat) : w.grownBy w' row := ⟨b.os, b.tape, b.output, b.size, fun k hk _ => b.block k hk⟩
/-- the byte that comes next: 0 at the end -/
def pkB (s : ByteArray) (a : Nat) : UInt8 := if h : a < s.size then s[a] else 0
set_option maxHeartbeats 1000000 in
theorem peekR_any (w : World) (B g : Nat) (s : ByteArray) (a op : Nat) (h : Rd w B g s a op) (hs : s.size ≤ 100000) (ha : a ≤ s.size) :
    Calls Try.prog 40 #[.pointer (some ⟨g, 0, none⟩)] w fun e w' => e = .returned (.int .u8 (pkB s a).toNat) ∧ Below w.heap.size w w' := by
  obtain ⟨c0, c1, c2⟩ := h.cells
  clear h
  by_cases hl : a < s.size
  · have HP : Hid (pkB s a = s[a]) := hide (by unfold pkB; rw [dif_pos hl])
    obtain ⟨x, hx⟩ : ∃ x, pkB s a = x := ⟨_, rfl⟩
    rw [hx] at HP ⊢
    clear hx
    have hb : ((a : Int) == (s.size : Int)) = false := by rw [beq_eq_false_iff_ne]; omega
    have hI : 0 ≤ (a : Int) ∧ (a : Int) < s.size := by omega
    go_enter Try.func40, Try.ntmps40
    go_wp2
    go_quiet (fail)
    go_wp2
    go_quiet (fail)
    go_wp2
    go_ret
    exact ⟨by rw [unhide HP]; rfl, Go.below_drewN (Go.below_drewN (Below.refl _ _) _) _⟩
  · obtain rfl : a = s.size := by omega
    have HP : Hid (pkB s s.size = 0) := hide (by unfold pkB; rw [dif_neg hl])
    obtain ⟨x, hx⟩ : ∃ x, pkB s s.size = x := ⟨_, rfl⟩
    rw [hx] at HP ⊢
    clear hx
    go_enter Try.func40, Try.ntmps40
    go_wp2
    go_quiet (fail)
    go_wp2
    go_ret
    exact ⟨by rw [unhide HP]; rfl, Go.below_drewN (Below.refl _ _) _⟩
theorem pk_lt {s : ByteArray} {a : Nat} (h : pkB s a ≠ 0) : a < s.size := by
  unfold pkB at h
  by_cases hl : a < s.size
  · exact hl
  · rw [dif_neg hl] at h; exact absurd rfl h
/-- where take leaves off -/
def tkA (s : ByteArray) (a : Nat) (c : UInt8) : Nat := if pkB s a = c then a + 1 else a
set_option maxHeartbeats 1000000 in
theorem take_any (w : World) (B g : Nat) (s : ByteArray) (a op : Nat) (c : UInt8) (h : Rd w B g s a op) (hs : s.size ≤ 100000) (ha : a ≤ s.size) :
    Calls Try.prog 28 #[.pointer (some ⟨g, 0, none⟩), .int .u8 c.toNat] w fun e w' => e = .returned (.bool (decide (pkB s a = c))) ∧ w.grownBy w' (some g) ∧ Rd w' B g s (tkA s a c) op := by
  have HP := hide (peekR_any w B g s a op h hs ha)
  have HR := hide h
  clear h
  have hcc := c.toNat_lt
  by_cases he : pkB s a = c
  · have HT : Hid (tkA s a c = a + 1) := hide (by unfold tkA; rw [if_pos he])
    have hb : (((pkB s a).toNat : Int) != (c.toNat : Int)) = false := by rw [he]; simp
    rw [decide_eq_true he]
    obtain ⟨x, hx⟩ : ∃ x, pkB s a = x := ⟨_, rfl⟩
    rw [hx] at HP hb
    clear he hx
    go_enter Try.func28, Try.ntmps28
    go_wp2_with fail
    refine (unhide HP).mono ?_
    rintro e w2 ⟨rfl, b2⟩
    have R2 := hide ((unhide HR).below b2)
    have G2 := hide (grown_below' b2 (some g))
    clear b2
    obtain ⟨c0, c1, c2⟩ := (unhide R2).cells
    have f1 := (unhide R2).frozen 1
    go_wp2_with fail
    go_ret
    obtain ⟨r3, g3⟩ := (unhide R2).setAt (a + 1)
    rw [show ((a + 1 : Nat) : Int) = (a : Int) + 1 by omega] at r3 g3
    exact ⟨rfl, (unhide G2).trans g3, by rw [unhide HT]; exact r3⟩
  · have HT : Hid (tkA s a c = a) := hide (by unfold tkA; rw [if_neg he])
    have hb : (((pkB s a).toNat : Int) != (c.toNat : Int)) = true := by
      have : (pkB s a).toNat ≠ c.toNat := fun e => he (UInt8.toNat_inj.1 e)
      simp; omega
    rw [decide_eq_false he]
    obtain ⟨x, hx⟩ : ∃ x, pkB s a = x := ⟨_, rfl⟩
    rw [hx] at HP hb
    clear he hx
    go_enter Try.func28, Try.ntmps28
    go_wp2_with fail
    refine (unhide HP).mono ?_
    rintro e w2 ⟨rfl, b2⟩
    have R2 := hide ((unhide HR).below b2)
    have G2 := hide (grown_below' b2 (some g))
    clear b2
    go_wp2_with fail
    go_ret
    exact ⟨rfl, unhide G2, by rw [unhide HT]; exact unhide R2⟩
/-- the worth of a digit, -1: none -/
def hv (c : UInt8) : Int := Lib.indexByte [48, 49, 50, 51, 52, 53, 54, 55, 56, 57, 97, 98, 99, 100, 101, 102] c
theorem hv_le (c : UInt8) : -1 ≤ hv c ∧ hv c < 16 := by
  have := u8_all (p := fun c => decide (-1 ≤ hv c ∧ hv c < 16)) (by decide +kernel) c
  simpa using this
theorem hv_pos {c : UInt8} (h : 0 ≤ hv c) : c ≠ 0 := by
  rintro rfl
  exact absurd h (by decide +kernel)
/-- a byte of two digits: its worth, or none, and where it leaves off -/
def hexR (s : ByteArray) (a : Nat) : Option Nat × Nat :=
  if hv (pkB s a) < 0 then (none, a) else if hv (pkB s (a + 1)) < 0 then (none, a + 1) else (some ((hv (pkB s a)).toNat * 16 + (hv (pkB s (a + 1))).toNat), a + 2)
/-- what a byte that is read, or not, answers -/
def retB (x : Option Nat) : Value := match x with | some c => .tuple #[.int .u8 c, .int .i64 0] | none => .tuple #[.int .u8 0, .int .i64 3]
theorem or16 (x y : Nat) (hx : x < 16) (hy : y < 16) : bits BinOp.or IntKind.i64 ((x : Int) * 16) (y : Int) = ((x * 16 + y : Nat) : Int) := by
  have := bits_join .i64 63 (by decide) wraps63' 4 ((x : Int) * 16) (y : Int) (by omega) (by omega) (by omega) (by omega) (by omega) (by omega)
  rw [this]; omega
set_option maxHeartbeats 2000000 in
theorem hexByte_any (w : World) (B g : Nat) (s : ByteArray) (a op : Nat) (h : Rd w B g s a op) (hs : s.size ≤ 100000) (ha : a ≤ s.size) :
    Calls Try.prog 79 #[.pointer (some ⟨g, 0, none⟩)] w fun e w' => e = .returned (retB (hexR s a).1) ∧ w.grownBy w' (some g) ∧ Rd w' B g s (hexR s a).2 op := by
  have HPK := hide (fun W a' (r : Rd W B g s a' op) (l : a' ≤ s.size) => peekR_any W B g s a' op r hs l)
  have HIX : Hid (∀ (c : UInt8) (W : World), Calls Try.prog 81 #[.string ⟨#[48, 49, 50, 51, 52, 53, 54, 55, 56, 57, 97, 98, 99, 100, 101, 102]⟩, .int .u8 c.toNat] W fun e w' => e = .returned (.int .i64 (hv c)) ∧ w' = W) := hide (fun c W => by
    have := Try.strings_IndexByte ⟨#[48, 49, 50, 51, 52, 53, 54, 55, 56, 57, 97, 98, 99, 100, 101, 102]⟩ c.toNat W
    rw [show ((c.toNat : Int).toNat.toUInt8) = c by simp] at this
    exact this)
  have HR := hide h
  clear h
  obtain ⟨x, hx⟩ : ∃ x, pkB s a = x := ⟨_, rfl⟩
  obtain ⟨y, hy⟩ : ∃ y, pkB s (a + 1) = y := ⟨_, rfl⟩
  have HPA := hide ((unhide HPK) w a (unhide HR) ha)
  rw [hx] at HPA
  have hxl := hv_le x
  have hyl := hv_le y
  have HX := hide ((unhide HIX) x)
  have HY := hide ((unhide HIX) y)
  have HHX : Hid (0 ≤ hv x → a + 1 ≤ s.size) := hide (fun h => by have := pk_lt (s := s) (a := a) (by rw [hx]; exact hv_pos h); omega)
  have HHY : Hid (0 ≤ hv y → a + 2 ≤ s.size) := hide (fun h => by have := pk_lt (s := s) (a := a + 1) (by rw [hy]; exact hv_pos h); omega)
  have HE : Hid (hexR s a = if hv x < 0 then (none, a) else if hv y < 0 then (none, a + 1) else (some ((hv x).toNat * 16 + (hv y).toNat), a + 2)) := hide (by unfold hexR; rw [hx, hy])
  have HY1 := hide hy
  obtain ⟨res, hres⟩ : ∃ res, hexR s a = res := ⟨_, rfl⟩
  rw [hres] at HE ⊢
  clear hx hy hres HIX
  generalize hv x = dx at *
  generalize hv y = dy at *
  go_enter Try.func79, Try.ntmps79
  go_wp2_with fail
  go_loopw [6, 4] (fun z m wr => (z = .int .i64 0 ∧ m = .int .i64 0 ∧ wr = w) ∨ (z = .int .i64 1 ∧ m = .int .i64 dx ∧ 0 ≤ dx ∧ w.grownBy wr (some g) ∧ Rd wr B g s (a + 1) op) ∨ (z = .int .i64 2 ∧ m = .int .i64 (dx * 16 + dy) ∧ 0 ≤ dx ∧ 0 ≤ dy ∧ w.grownBy wr (some g) ∧ Rd wr B g s (a + 2) op)) (fun z _ _ => 2 - (intOf z).toNat)
  case atStart => exact .inl ⟨rfl, rfl, rfl⟩
  case round =>
    rcases hrel with ⟨rfl, rfl, hwr⟩ | ⟨rfl, rfl, hdx, hg, hr⟩ | ⟨rfl, rfl, hdx, hdy, hg, hr⟩
    · rw [hwr]
      clear hwr
      go_wp2_with fail
      refine (unhide HPA).mono ?_
      rintro e w2 ⟨rfl, b2⟩
      have R2 := hide ((unhide HR).below b2)
      have G2 := hide (grown_below' b2 (some g))
      clear b2
      go_wp2_with fail
      refine ((unhide HX) w2).mono ?_
      rintro e wx ⟨rfl, hwx⟩; rw [hwx]; clear hwx wx
      by_cases hd : dx < 0
      · rw [if_pos hd] at HE
        go_wp2_with fail
        go_ret2
        obtain rfl := unhide HE
        exact ⟨rfl, unhide G2, unhide R2⟩
      · obtain ⟨c0, c1, c2⟩ := (unhide R2).cells
        have f1 := (unhide R2).frozen 1
        obtain ⟨r3, g3⟩ := (unhide R2).setAt (a + 1)
        rw [show ((a + 1 : Nat) : Int) = (a : Int) + 1 by omega] at r3 g3
        have R3 := hide r3
        have G3 := hide ((unhide G2).trans g3)
        clear r3 g3
        have hor : bits BinOp.or IntKind.i64 0 dx = dx := by
          have := or16 0 dx.toNat (by omega) (by omega)
          rw [show ((0 : Nat) : Int) * 16 = 0 by omega, show ((dx.toNat : Nat) : Int) = dx by omega, show ((0 * 16 + dx.toNat : Nat) : Int) = dx by omega] at this
          exact this
        go_wp2_with fail
        exact ⟨.inr (.inl ⟨rfl, rfl, by omega, unhide G3, unhide R3⟩), by simp [intOf]⟩
    · rw [if_neg (show ¬ dx < 0 by omega)] at HE
      have hal := (unhide HHX) hdx
      have HPB := hide ((unhide HPK) wr (a + 1) hr hal)
      rw [unhide HY1] at HPB
      have R1 := hide hr
      have G1 := hide hg
      clear hr hg
      go_wp2_with fail
      refine (unhide HPB).mono ?_
      rintro e w2 ⟨rfl, b2⟩
      have R2 := hide ((unhide R1).below b2)
      have G2 := hide ((unhide G1).trans (grown_below' b2 (some g)))
      clear b2
      go_wp2_with fail
      refine ((unhide HY) w2).mono ?_
      rintro e wx ⟨rfl, hwx⟩; rw [hwx]; clear hwx wx
      by_cases hd : dy < 0
      · rw [if_pos hd] at HE
        go_wp2_with fail
        go_ret2
        obtain rfl := unhide HE
        exact ⟨rfl, unhide G2, unhide R2⟩
      · obtain ⟨c0, c1, c2⟩ := (unhide R2).cells
        have f1 := (unhide R2).frozen 1
        obtain ⟨r3, g3⟩ := (unhide R2).setAt (a + 2)
        rw [show ((a + 2 : Nat) : Int) = (a : Int) + 1 + 1 by omega] at r3 g3
        rw [show ((a + 1 : Nat) : Int) = (a : Int) + 1 by omega] at c1
        have R3 := hide r3
        have G3 := hide ((unhide G2).trans g3)
        clear r3 g3
        have hor : bits BinOp.or IntKind.i64 (dx * 16) dy = dx * 16 + dy := by
          have := or16 dx.toNat dy.toNat (by omega) (by omega)
          rw [show ((dx.toNat : Nat) : Int) = dx by omega, show ((dy.toNat : Nat) : Int) = dy by omega, show ((dx.toNat * 16 + dy.toNat : Nat) : Int) = dx * 16 + dy by omega] at this
          exact this
        go_wp2_with fail
        exact ⟨.inr (.inr ⟨rfl, rfl, hdx, by omega, unhide G3, unhide R3⟩), by simp [intOf]⟩
    · rw [if_neg (show ¬ dx < 0 by omega), if_neg (show ¬ dy < 0 by omega)] at HE
      have R3 := hide hr
      have G3 := hide hg
      clear hr hg
      obtain ⟨m, hm⟩ : ∃ m, dx.toNat * 16 + dy.toNat = m := ⟨_, rfl⟩
      rw [hm] at HE
      have hw8 : IntKind.u8.wrap (dx * 16 + dy) = (m : Int) := by rw [IntKind.wrap_u8]; omega
      clear hm
      go_wp2_with fail
      go_ret2
      obtain rfl := unhide HE
      exact ⟨rfl, unhide G3, unhide R3⟩
theorem hexR_le (s : ByteArray) (a : Nat) (ha : a ≤ s.size) : (hexR s a).2 ≤ s.size ∧ (∀ m, (hexR s a).1 = some m → m < 256) := by
  have hx := hv_le (pkB s a)
  have hy := hv_le (pkB s (a + 1))
  unfold hexR
  by_cases h1 : hv (pkB s a) < 0
  · rw [if_pos h1]; exact ⟨ha, fun m h => by cases h⟩
  have l1 := pk_lt (s := s) (a := a) (hv_pos (by omega))
  rw [if_neg h1]
  by_cases h2 : hv (pkB s (a + 1)) < 0
  · rw [if_pos h2]; exact ⟨by simp; omega, fun m h => by cases h⟩
  have l2 := pk_lt (s := s) (a := a + 1) (hv_pos (by omega))
  rw [if_neg h2]
  refine ⟨by simp; omega, fun m h => ?_⟩
  cases h; omega
/-- what stands behind a \\ -/
def escR (s : ByteArray) (a : Nat) : Option Nat × Nat :=
  if pkB s a = 120 then hexR s (a + 1) else if pkB s a = 110 then (some 10, a + 1) else if pkB s a = 116 then (some 9, a + 1) else if pkB s a = 114 then (some 13, a + 1) else if has specs (pkB s a) = true then (some (pkB s a).toNat, a + 1) else (none, a)
set_option maxHeartbeats 2000000 in
theorem escaped_any (w : World) (B g : Nat) (s : ByteArray) (a op : Nat) (h : Rd w B g s a op) (hs : s.size ≤ 100000) (ha : a ≤ s.size) :
    Calls Try.prog 68 #[.pointer (some ⟨g, 0, none⟩)] w fun e w' => e = .returned (retB (escR s a).1) ∧ w.grownBy w' (some g) ∧ Rd w' B g s (escR s a).2 op := by
  have HP := hide (peekR_any w B g s a op h hs ha)
  have HT := hide (fun W (r : Rd W B g s a op) => take_any W B g s a op 120 r hs ha)
  have HH : Hid (∀ W, pkB s a = 120 → Rd W B g s (a + 1) op → Calls Try.prog 79 #[.pointer (some ⟨g, 0, none⟩)] W fun e w' => e = .returned (retB (hexR s (a + 1)).1) ∧ W.grownBy w' (some g) ∧ Rd w' B g s (hexR s (a + 1)).2 op) := hide (fun W he r => hexByte_any W B g s (a + 1) op r hs (by have := pk_lt (s := s) (a := a) (by rw [he]; decide); omega))
  have HS := hide (sign_any (pkB s a))
  have HR := hide h
  clear h
  obtain ⟨x, hx⟩ : ∃ x, pkB s a = x := ⟨_, rfl⟩
  have HE : Hid (escR s a = if x = 120 then hexR s (a + 1) else if x = 110 then (some 10, a + 1) else if x = 116 then (some 9, a + 1) else if x = 114 then (some 13, a + 1) else if has specs x = true then (some x.toNat, a + 1) else (none, a)) := hide (by unfold escR; rw [hx])
  have HTA : Hid (tkA s a 120 = if x = 120 then a + 1 else a) := hide (by unfold tkA; rw [hx])
  obtain ⟨res, hres⟩ : ∃ res, escR s a = res := ⟨_, rfl⟩
  rw [hres] at HE ⊢
  rw [hx] at HP HT HH HS
  clear hx hres
  have hxl := x.toNat_lt
  go_enter Try.func68, Try.ntmps68
  go_wp2_with fail
  refine (unhide HP).mono ?_
  rintro e w2 ⟨rfl, b2⟩
  have R2 := hide ((unhide HR).below b2)
  have G2 := hide (grown_below' b2 (some g))
  clear b2 HP HR
  by_cases h120 : x = 120
  · rw [if_pos h120] at HE HTA
    have HTC := hide ((unhide HT) w2 (unhide R2))
    rw [unhide HTA, decide_eq_true h120] at HTC
    have HHC := hide (fun W r => (unhide HH) W h120 r)
    clear h120 HT HH HTA
    go_wp2_with fail
    refine (unhide HTC).mono ?_
    rintro e w3 ⟨rfl, g3, r3⟩
    have HHD := hide ((unhide HHC) w3 r3)
    have G3 := hide ((unhide G2).trans g3)
    clear g3 r3 HTC HHC
    obtain ⟨⟨o1, a1⟩, ho1⟩ : ∃ o1, hexR s (a + 1) = o1 := ⟨_, rfl⟩
    rw [ho1] at HHD HE
    clear ho1
    unfold retB at HHD
    cases o1
    · go_wp2_with fail
      refine (unhide HHD).mono ?_
      rintro e w4 ⟨rfl, g4, r4⟩
      have G4 := hide ((unhide G3).trans g4)
      have R4 := hide r4
      clear g4 r4 HHD
      go_wp2_with fail
      go_ret2
      obtain rfl := unhide HE
      exact ⟨rfl, unhide G4, unhide R4⟩
    · go_wp2_with fail
      refine (unhide HHD).mono ?_
      rintro e w4 ⟨rfl, g4, r4⟩
      have G4 := hide ((unhide G3).trans g4)
      have R4 := hide r4
      clear g4 r4 HHD
      go_wp2_with fail
      go_ret2
      obtain rfl := unhide HE
      exact ⟨rfl, unhide G4, unhide R4⟩
  rw [if_neg h120] at HE HTA
  have HTC := hide ((unhide HT) w2 (unhide R2))
  rw [unhide HTA, decide_eq_false h120] at HTC
  clear h120 HT HH HTA
  go_wp2_with fail
  refine (unhide HTC).mono ?_
  rintro e w3 ⟨rfl, g3, r3⟩
  obtain ⟨c0, c1, c2⟩ := r3.cells
  have f1 := r3.frozen 1
  obtain ⟨r4, g4⟩ := r3.setAt (a + 1)
  rw [show ((a + 1 : Nat) : Int) = (a : Int) + 1 by omega] at r4 g4
  have R3 := hide r3
  have G3 := hide ((unhide G2).trans g3)
  have R4 := hide r4
  have G4 := hide ((unhide G3).trans g4)
  clear g3 r3 r4 g4 HTC
  by_cases h110 : x = 110
  · rw [if_pos h110] at HE
    have hb : ((x.toNat : Int) == 110) = true := by rw [h110]; rfl
    clear h110
    go_wp2_with fail
    go_ret2
    obtain rfl := unhide HE
    exact ⟨rfl, unhide G4, unhide R4⟩
  rw [if_neg h110] at HE
  have hb1 : ((x.toNat : Int) == 110) = false := by
    rw [beq_eq_false_iff_ne]; intro e; exact h110 (UInt8.toNat_inj.1 (by show x.toNat = 110; omega))
  clear h110
  by_cases h116 : x = 116
  · rw [if_pos h116] at HE
    have hb : ((x.toNat : Int) == 116) = true := by rw [h116]; rfl
    clear h116
    go_wp2_with fail
    go_ret2
    obtain rfl := unhide HE
    exact ⟨rfl, unhide G4, unhide R4⟩
  rw [if_neg h116] at HE
  have hb2 : ((x.toNat : Int) == 116) = false := by
    rw [beq_eq_false_iff_ne]; intro e; exact h116 (UInt8.toNat_inj.1 (by show x.toNat = 116; omega))
  clear h116
  by_cases h114 : x = 114
  · rw [if_pos h114] at HE
    have hb : ((x.toNat : Int) == 114) = true := by rw [h114]; rfl
    clear h114
    go_wp2_with fail
    go_ret2
    obtain rfl := unhide HE
    exact ⟨rfl, unhide G4, unhide R4⟩
  rw [if_neg h114] at HE
  have hb3 : ((x.toNat : Int) == 114) = false := by
    rw [beq_eq_false_iff_ne]; intro e; exact h114 (UInt8.toNat_inj.1 (by show x.toNat = 114; omega))
  clear h114
  have HSC := hide ((unhide HS) w3)
  cases hsp : has specs x
  · rw [hsp] at HSC HE
    clear hsp HS
    go_wp2_with fail
    refine (unhide HSC).mono ?_
    rintro e wx ⟨rfl, hwx⟩; rw [hwx]; clear hwx wx
    go_wp2_with fail
    go_ret2
    obtain rfl := unhide HE
    exact ⟨rfl, unhide G3, unhide R3⟩
  · rw [hsp] at HSC HE
    clear hsp HS
    go_wp2_with fail
    refine (unhide HSC).mono ?_
    rintro e wx ⟨rfl, hwx⟩; rw [hwx]; clear hwx wx
    go_wp2_with fail
    go_ret2
    obtain rfl := unhide HE
    exact ⟨rfl, unhide G4, unhide R4⟩
end Go.Proofs.Ytjecopdbcaojcaa
