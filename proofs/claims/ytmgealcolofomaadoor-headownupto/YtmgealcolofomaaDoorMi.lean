/- Walks: is one of two ASCII bytes in a text of whatever bytes (the library's ContainsAny)? -/
import Derived.Test.YtmgealcolofomaaDoorKc
import Derived.Test.YtmgealcolofomaaDoorMa
import Derived.Test.YtmgealcolofomaaDoorShelf
import Derived.Laws.Runes
import Derived.Laws.RangeAny
import Derived.Lib.OthersKept
import Derived.Lib.IndexAny
import Derived.BigQuiet
import Derived.WalkMore
import Derived.Deep.QuietTactic
namespace Go.Proofs.YtmgealcolofomaaDoor
open Go.RowKit Kb
set_option linter.unusedVariables false
set_option maxRecDepth 20000

theorem get_k (s : ByteArray) (i : Nat) (h : i < s.size) : s.get! i = s[i]'h := by
  simp [ByteArray.get!, getElem!_pos, h]
  rfl
/-- what is read as one sign has no ASCII byte, if it begins with none -/
theorem decode_bytes (s : ByteArray) (pos : Nat) (h : pos < s.size) (ha : 128 ≤ (s[pos]'h).toNat) :
    pos + (Utf8.decode s pos).2 ≤ s.size ∧ ∀ j, pos ≤ j → j < pos + (Utf8.decode s pos).2 → ∀ hj : j < s.size, 128 ≤ (s[j]'hj).toNat := by
  have hn : ¬ (s[pos]'h).toNat < 128 := by omega
  have hc : ∀ k, (decide (pos + k < s.size) && (s.get! (pos + k)).toNat / 64 == 2) = true → ∃ hk : pos + k < s.size, 128 ≤ (s[pos + k]'hk).toNat := by
    intro k hk
    rw [Bool.and_eq_true, decide_eq_true_eq, beq_iff_eq] at hk
    refine ⟨hk.1, ?_⟩
    have := hk.2
    rw [get_k s _ hk.1] at this
    omega
  have h1 : pos + 1 ≤ s.size ∧ ∀ j, pos ≤ j → j < pos + 1 → ∀ hj : j < s.size, 128 ≤ (s[j]'hj).toNat := by
    refine ⟨by omega, fun j a b hj => ?_⟩
    obtain rfl : j = pos := by omega
    exact ha
  simp only [Utf8.decode, get_at s pos h, hn, if_false]
  split
  · rename_i hcc
    rw [Bool.and_eq_true] at hcc
    obtain ⟨k1, g1⟩ := hc 1 hcc.2
    split
    · refine ⟨by show pos + 2 ≤ _; omega, fun j a b hj => ?_⟩
      have b' : j < pos + 2 := b
      rcases (by omega : j = pos ∨ j = pos + 1) with rfl | rfl
      · exact ha
      · exact g1
    · exact h1
  · split
    · rename_i hcc
      rw [Bool.and_eq_true, Bool.and_eq_true] at hcc
      obtain ⟨k1, g1⟩ := hc 1 hcc.1.2
      obtain ⟨k2, g2⟩ := hc 2 hcc.2
      split
      · refine ⟨by show pos + 3 ≤ _; omega, fun j a b hj => ?_⟩
        have b' : j < pos + 3 := b
        rcases (by omega : j = pos ∨ j = pos + 1 ∨ j = pos + 2) with rfl | rfl | rfl
        · exact ha
        · exact g1
        · exact g2
      · exact h1
    · split
      · rename_i hcc
        rw [Bool.and_eq_true, Bool.and_eq_true, Bool.and_eq_true] at hcc
        obtain ⟨k1, g1⟩ := hc 1 hcc.1.1.2
        obtain ⟨k2, g2⟩ := hc 2 hcc.1.2
        obtain ⟨k3, g3⟩ := hc 3 hcc.2
        split
        · refine ⟨by show pos + 4 ≤ _; omega, fun j a b hj => ?_⟩
          have b' : j < pos + 4 := b
          rcases (by omega : j = pos ∨ j = pos + 1 ∨ j = pos + 2 ∨ j = pos + 3) with rfl | rfl | rfl | rfl
          · exact ha
          · exact g1
          · exact g2
          · exact g3
        · exact h1
      · exact h1
set_option maxHeartbeats 2000000 in
set_option maxRecDepth 100000 in
/-- a sign beyond ASCII is not among two ASCII bytes -/
theorem irune_high (s : ByteArray) (r : Int) (w : World) (h2 : s.size = 2) (hasc : ∀ i (h : i < s.size), (s[i]'h).toNat < 128) (h0 : 128 ≤ r) (h1 : r ≤ 2147483647) :
    Calls Tryd.prog 136 #[.string s, .int .i32 r] w fun e w' => e = .returned (.int .i64 (-1)) ∧ Below w.heap.size w w' := by
  have hr0 : (0 : Int) ≤ r := by omega
  have hr1 : ¬ r < 128 := by omega
  have HA := hide hasc
  clear hasc
  by_cases he : r = 65533
  · subst he
    go_enter Tryd.func136, Tryd.ntmps136
    go_wp2_with fail
    go_loopg [5, 6] 2 (fun g _ _ wx => ∃ i : Nat, i + g = 2 ∧ wx = w.iter s i)
    case atStart => exact ⟨0, by omega, rfl⟩
    case round =>
      obtain ⟨i, hig, rfl⟩ := hrel
      cases gk with
      | zero =>
        obtain rfl : i = 2 := by omega
        have hnx := run_next_end (P := Tryd.prog) w s 2
        go_wp2_with fail
        go_ret
        exact ⟨rfl, (Below.refl _ _).alloc (Nat.le_refl _) _⟩
      | succ g =>
        have hi : i < s.size := by omega
        obtain ⟨x, hx⟩ : ∃ x : UInt8, s[i]'hi = x := ⟨_, rfl⟩
        have hx128 : x.toNat < 128 := by rw [← hx]; exact unhide HA i hi
        have hnx := fun ty => run_next_ascii (P := Tryd.prog) w s i ty hi (by rw [hx]; exact hx128)
        rw [hx] at hnx
        have hne : ((x.toNat : Int) == 65533) = false := beq_eq_false_iff_ne.2 (by omega)
        clear hx
        go_wp2_with fail
        go_roundg g
        case measure => omega
        case rel => exact ⟨i + 1, by omega, rfl⟩
  · have hen : (r == 65533) = false := beq_eq_false_iff_ne.2 he
    have HV := hide (Tryd.utf8_ValidRune r w)
    by_cases hv : Lib.validRune r = true
    · rw [hv] at HV
      obtain ⟨e1, e2, e3⟩ := encode_facts r (by rw [validRune_eq]; exact hv) h0
      obtain ⟨rs, hrs⟩ : ∃ rs, Utf8.encode r = rs := ⟨_, rfl⟩
      rw [hrs] at e1 e2 e3
      obtain ⟨n, hn⟩ : ∃ n, rs.size = n := ⟨_, rfl⟩
      by_cases hn2 : n = 2
      · subst hn2
        have hb := e3 (by omega)
        have HB : Hid (128 ≤ (rs[1]'(by omega)).toNat) := hide (by simpa [hn] using hb)
        obtain ⟨c, hc⟩ : ∃ c, rs[1]'(by omega) = c := ⟨_, rfl⟩
        obtain ⟨d, hd⟩ : ∃ d, s[1]'(by omega) = d := ⟨_, rfl⟩
        have hd128 : d.toNat < 128 := by rw [← hd]; exact unhide HA 1 (by omega)
        have hc128 : 128 ≤ c.toNat := by rw [← hc]; exact unhide HB
        have hne : ((d.toNat : Int) != (c.toNat : Int)) = true := bne_iff_ne.2 (by omega)
        have HIX := hide (fun W => Tryd.strings_IndexByte ByteArray.empty c.toNat W)
        rw [show ByteArray.empty.data.toList = [] from rfl] at HIX
        have hw2 : IntKind.i64.wrap 2 = 2 := Kb.wr64 2 (by omega) (by omega)
        clear e3 hb HB
        go_enter Tryd.func136, Tryd.ntmps136
        go_wp2_with (go_at_call 140; refine (unhide HV).mono ?_; rintro e wx ⟨rfl, hwx⟩; rw [hwx]; clear hwx wx)
        go_step3
        go_wp2_with fail
        go_loopw [9] (fun i wr => i = .int .i64 1 ∧ wr = w) (fun _ _ => 0)
        case atStart => exact ⟨rfl, rfl⟩
        case round =>
          obtain ⟨rfl, rfl⟩ := hrel
          go_wp2_with fail
          go_step3
          go_wp2_with fail
          go_quiet (fail)
          go_wp2_with fail
          go_quiet (first | (go_at_call 129; refine ((unhide HIX) _).mono ?_; rintro e w'' ⟨rfl, rfl⟩; exact ⟨rfl, _, rfl⟩))
          go_wp2_with fail
          (repeat rw [Exit.noGoto_ret])
          go_wp2_with fail
          (repeat rw [Exit.noGoto_ret])
          go_ret
          exact ⟨rfl, Go.below_drewN (Below.refl _ _) _⟩
      · have hn3 : 3 ≤ n := by omega
        have hlt : ¬ ((n : Int) - 1 < 2) := by omega
        clear e3
        go_enter Tryd.func136, Tryd.ntmps136
        go_wp2_with (go_at_call 140; refine (unhide HV).mono ?_; rintro e wx ⟨rfl, hwx⟩; rw [hwx]; clear hwx wx)
        go_step3
        go_wp2_with fail
        go_loopw [9] (fun i wr => i = .int .i64 ((n : Int) - 1) ∧ wr = w) (fun _ _ => 0)
        case atStart => exact ⟨rfl, rfl⟩
        case round =>
          obtain ⟨rfl, rfl⟩ := hrel
          go_wp2_with fail
          rw [Exit.noGoto_ret]
          go_ret
          exact ⟨rfl, Below.refl _ _⟩
    · have hv' : Lib.validRune r = false := by simpa using hv
      rw [hv'] at HV
      go_enter Tryd.func136, Tryd.ntmps136
      go_wp2_with (go_at_call 140; refine (unhide HV).mono ?_; rintro e wx ⟨rfl, hwx⟩; rw [hwx]; clear hwx wx)
      go_ret
      exact ⟨rfl, Below.refl _ _⟩
theorem below_iter {w w' : World} (h : Below w.heap.size w w') (s : ByteArray) (pos : Nat) : Below w.heap.size w (w'.alloc (.stringIter s pos)) := h.alloc h.size _
/-- none of the first bytes is among two -/
def NoP (p : UInt8 → Bool) (s : ByteArray) (i : Nat) : Prop := ∀ j, j < i → ∀ h : j < s.size, p (s[j]'h) = false
theorem any_of (p : UInt8 → Bool) (s : ByteArray) (i : Nat) (h : i < s.size) (hp : p (s[i]'h) = true) : s.data.toList.any p = true :=
  List.any_eq_true.2 ⟨_, List.getElem_mem (by simpa using h), hp⟩
theorem none_of (p : UInt8 → Bool) (s : ByteArray) (i : Nat) (h : s.size ≤ i) (hn : NoP p s i) : s.data.toList.any p = false := by
  rw [List.any_eq_false]
  intro x hx
  obtain ⟨j, hj, rfl⟩ := List.getElem_of_mem hx
  have hj' : j < s.size := by simpa using hj
  have := hn j (by omega) hj'
  rw [Bool.not_eq_true]
  exact this
theorem is_broken (c : UInt8) : ([13, 10] : List UInt8).contains c = (c == 13 || c == 10) := by
  have := Kb.u8_all (p := fun c => ([13, 10] : List UInt8).contains c == (c == 13 || c == 10)) (by decide +kernel) c
  exact beq_iff_eq.1 this
theorem high_not (c : UInt8) (h : 128 ≤ c.toNat) : (c == 13 || c == 10) = false := by
  have := Kb.u8_all (p := fun c => decide (c.toNat < 128) || !(c == 13 || c == 10)) (by decide +kernel) c
  rw [decide_eq_false (by omega), Bool.false_or, Bool.not_eq_true'] at this
  exact this
theorem two_ascii : ∀ i (h : i < (⟨#[13, 10]⟩ : ByteArray).size), ((⟨#[13, 10]⟩ : ByteArray)[i]'h).toNat < 128 := by
  intro i h
  have h' : i < 2 := h
  rcases (by omega : i = 0 ∨ i = 1) with rfl | rfl
  · show (13 : UInt8).toNat < 128; decide
  · show (10 : UInt8).toNat < 128; decide
end Go.Proofs.YtmgealcolofomaaDoor
