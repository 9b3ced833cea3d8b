/- Walks of Token and Trim. -/
import Derived.Test.YtmgealcolofomaaDoorKd
import Derived.Test.YtmgealcolofomaaDoorWl
import Derived.Test.YtmgealcolofomaaDoorFnd
import Derived.Test.YtmgealcolofomaaDoorShelf
import Derived.Shelf.Strings.SlTrimAscii
namespace Go.Proofs.YtmgealcolofomaaDoor
open Go.RowKit
set_option linter.unusedVariables false
set_option maxRecDepth 20000

/-- the signs of a token that are no letters and no digits -/
def signs : List UInt8 := [33, 35, 36, 37, 38, 39, 42, 43, 45, 46, 94, 95, 124, 126, 96]
def tok8 (c : UInt8) : Bool := (decide (97 ≤ (low8 c).toNat) && decide ((low8 c).toNat ≤ 122)) || (decide (48 ≤ c.toNat) && decide (c.toNat ≤ 57)) || decide (0 ≤ Lib.indexByte signs c)
def tokenB (l : List UInt8) : Bool := !l.isEmpty && l.all tok8
theorem tok8_low (c : UInt8) : tok8 (low8 c) = tok8 c := by
  have := u8_all (p := fun c => tok8 (low8 c) == tok8 c) (by decide +kernel) c
  simpa using this
theorem tokenB_lower (l : List UInt8) : tokenB (lower l) = tokenB l := by
  unfold tokenB lower
  rw [List.all_map]
  congr 1
  · cases l <;> rfl
  · congr 1; funext c; exact tok8_low c

theorem ret_boolt {a b : Bool} (h : a = b) : Ending.returned (.bool a) = .returned (.bool b) := by rw [h]

theorem nat_int {a : UInt8} {n : Nat} (h : n ≤ a.toNat) : (n : Int) ≤ (a.toNat : Int) := by omega

set_option maxHeartbeats 1000000 in
theorem inToken_any (c : UInt8) (w : World) :
    Calls Tryd.prog 113 #[.int .u8 c.toNat] w fun e w' => e = .returned (.bool (tok8 c)) ∧ w' = w := by
  have hc := c.toNat_lt
  have hl := (low8 c).toNat_lt
  have HS := hide (small8 c w)
  have HI := hide (Tryd.strings_IndexByte ⟨#[33, 35, 36, 37, 38, 39, 42, 43, 45, 46, 94, 95, 124, 126, 96]⟩ c.toNat w)
  rw [show ((c.toNat : Int).toNat.toUInt8) = c from by simp] at HI
  have HT : Hid (tok8 c = ((decide (97 ≤ (low8 c).toNat) && decide ((low8 c).toNat ≤ 122)) || (decide (48 ≤ c.toNat) && decide (c.toNat ≤ 57)) || decide (0 ≤ Lib.indexByte signs c))) := hide rfl
  change Hid (Calls _ _ _ _ fun e w' => e = .returned (.int .i64 (Lib.indexByte signs c)) ∧ w' = w) at HI
  generalize Lib.indexByte signs c = i at *
  generalize low8 c = d at *
  by_cases h1 : 97 ≤ d.toNat <;> by_cases h2 : d.toNat ≤ 122 <;> by_cases h3 : 48 ≤ c.toNat <;> by_cases h4 : c.toNat ≤ 57 <;> try omega
  all_goals
    go_enter Tryd.func113, Tryd.ntmps113
    go_wp2_with (first | (go_at_call 57; refine (unhide HS).mono ?_; rintro e wx ⟨rfl, rfl⟩) | (go_at_call 129; refine (unhide HI).mono ?_; rintro e wx ⟨rfl, rfl⟩))
    go_ret
    refine ⟨ret_boolt ?_, rfl⟩
    rw [unhide HT]
    first
      | (simp [h1, h2, h3, h4]; done)
      | (simp [h1, h2, h3, h4]; omega)
      | (simp [h1, h2, h3, h4, Int.not_le]; omega)

theorem all_take (s : ByteArray) (k : Nat) (h : k < s.size) : (s.data.toList.take (k + 1)).all tok8 = ((s.data.toList.take k).all tok8 && tok8 s[k]) := by
  rw [List.take_succ_eq_append_getElem (by simpa using h), List.all_append]; simp; rfl
theorem all_bad (s : ByteArray) (k : Nat) (h : k < s.size) (hb : tok8 s[k] = false) : tokenB s.data.toList = false := by
  have : s.data.toList.all tok8 = false := by
    rw [← List.take_append_drop (k + 1) s.data.toList, List.all_append, all_take s k h, hb]; simp
  unfold tokenB; rw [this]; simp
theorem all_good (s : ByteArray) (k : Nat) (h : s.size ≤ k) (hb : (s.data.toList.take k).all tok8 = true) : tokenB s.data.toList = decide (0 < s.size) := by
  rw [List.take_of_length_le (by simpa using h)] at hb
  unfold tokenB; rw [hb, Bool.and_true]
  have hl : s.data.toList.length = s.size := by simp
  cases hs : s.data.toList with
  | nil => rw [hs, List.length_nil] at hl; rw [← hl]; rfl
  | cons a r => rw [hs, List.length_cons] at hl; rw [← hl]; simp

set_option maxHeartbeats 1000000 in
theorem token_any (s : ByteArray) (w : World) (hs : s.size ≤ maxLen) :
    Calls Tryd.prog 92 #[.string s] w fun e w' => e = .returned (.bool (tokenB s.data.toList)) ∧ w' = w := by
  unfold maxLen at hs
  go_enter Tryd.func92, Tryd.ntmps92
  go_wp2
  go_loop [6] (fun i => ∃ k : Nat, k ≤ s.size ∧ i = .int .i64 k ∧ (s.data.toList.take k).all tok8 = true) (fun i => s.size - (intOf i).toNat)
  case atStart => exact ⟨0, Nat.zero_le _, rfl, rfl⟩
  case round =>
    obtain ⟨k, hk, rfl, ha⟩ := hrel
    have HA := hide ha
    clear ha
    by_cases hlt : k < s.size
    · have HC := hide (inToken_any s[k] w)
      rcases ht : tok8 s[k] with _ | _
      · have HR := hide (all_bad s k hlt ht)
        rw [ht] at HC
        clear ht
        go_wp2_with (go_at_call 113; refine (unhide HC).mono ?_; rintro e wx ⟨rfl, rfl⟩)
        go_ret
        exact ⟨ret_boolt (by rw [unhide HR]), rfl⟩
      · have HR := hide (all_take s k hlt)
        rw [unhide HA, ht] at HR
        rw [ht] at HC
        clear ht
        go_wp2_with (go_at_call 113; refine (unhide HC).mono ?_; rintro e wx ⟨rfl, rfl⟩)
        exact ⟨⟨k + 1, by omega, by go_num, unhide HR⟩, by simp [intOf]; omega⟩
    · have HR := hide (all_good s k (by omega) (unhide HA))
      go_wp2
      go_ret
      exact ⟨ret_boolt (by rw [unhide HR]), rfl⟩

/-- without the bytes 9 and 32 at its ends -/
def trim (l : List UInt8) : List UInt8 := Lib.trimS l [9, 32]

theorem dw_head (p : UInt8 → Bool) : ∀ l : List UInt8, l.dropWhile p = [] ∨ ∃ a r, l.dropWhile p = a :: r ∧ p a = false
  | [] => .inl rfl
  | a :: r => by
    rw [List.dropWhile_cons]
    cases h : p a with
    | true => rw [if_pos rfl]; exact dw_head p r
    | false => rw [if_neg (by simp)]; exact .inr ⟨a, r, rfl, h⟩
theorem dw_suffix (p : UInt8 → Bool) (l : List UInt8) : ∃ u, l = u ++ l.dropWhile p := ⟨l.takeWhile p, (List.takeWhile_append_dropWhile).symm⟩
theorem dw_same (p : UInt8 → Bool) {a : UInt8} {r : List UInt8} (h : p a = false) : (a :: r).dropWhile p = a :: r := by
  rw [List.dropWhile_cons, h]; simp

theorem trim_trim (l : List UInt8) : trim (trim l) = trim l := by
  unfold trim Lib.trimS Lib.trimLeftS Lib.trimRightS
  generalize hp : (fun x : UInt8 => List.contains [9, 32] x) = p
  generalize hz : l.reverse.dropWhile p = z
  have hz2 := dw_head p l.reverse
  rw [hz] at hz2
  obtain ⟨u, hu⟩ := dw_suffix p z.reverse
  generalize hx : z.reverse.dropWhile p = x at hu
  have e1 : (x.reverse.dropWhile p) = x.reverse := by
    cases hxr : x.reverse with
    | nil => rfl
    | cons b r =>
      have : z = b :: (r ++ u.reverse) := by
        have := congrArg List.reverse hu
        rw [List.reverse_reverse, List.reverse_append, hxr] at this
        exact this
      rcases hz2 with h | ⟨a, r', h, ha⟩
      · rw [this] at h; cases h
      · rw [this] at h; cases h
        exact dw_same p ha
  rw [e1, List.reverse_reverse]
  have hx2 := dw_head p z.reverse
  rw [hx] at hx2
  rcases hx2 with h | ⟨a, r, h, ha⟩
  · rw [h]; rfl
  · rw [h]; exact dw_same p ha

theorem trim_piece (l : List UInt8) : ∃ u v, l = u ++ trim l ++ v := by
  unfold trim Lib.trimS Lib.trimLeftS Lib.trimRightS
  generalize (fun x : UInt8 => List.contains [9, 32] x) = p
  obtain ⟨v, hv⟩ := dw_suffix p l.reverse
  obtain ⟨u, hu⟩ := dw_suffix p (l.reverse.dropWhile p).reverse
  refine ⟨u, v.reverse, ?_⟩
  rw [← hu]
  have := congrArg List.reverse hv
  rwa [List.reverse_reverse, List.reverse_append] at this
theorem trim_len (l : List UInt8) : (trim l).length ≤ l.length := by
  obtain ⟨u, v, h⟩ := trim_piece l
  have := congrArg List.length h
  simp at this; omega

theorem trim_lib (s : ByteArray) (w : World) (hs : s.size ≤ 9223372036854775807) :
    Calls Tryd.prog 83 #[.string s, .string ⟨#[9, 32]⟩] w fun e w' => e = .returned (.string ⟨(trim s.data.toList).toArray⟩) ∧ Below w.heap.size w w' :=
  Any.strings_Trim_laid Tryd.lays160 (by kernel_rfl) s ⟨#[9, 32]⟩ w hs (by decide) (ascii_of_all (by decide))

set_option maxHeartbeats 1000000 in
theorem trim_any (s : ByteArray) (w : World) (hs : s.size ≤ 68719476736) :
    Calls Tryd.prog 55 #[.string s] w fun e w' => e = .returned (.string ⟨(trim s.data.toList).toArray⟩) ∧ Below w.heap.size w w' := by
  have H1 := hide (trim_lib s w (by omega))
  have hl := trim_len s.data.toList
  have hsz : (⟨(trim s.data.toList).toArray⟩ : ByteArray).size = (trim s.data.toList).length := by simp [ByteArray.size]
  have hb : (⟨(trim s.data.toList).toArray⟩ : ByteArray).size ≤ 281474976710656 := by rw [hsz]; simp at hl; omega
  generalize (⟨(trim s.data.toList).toArray⟩ : ByteArray) = t at *
  clear hl hsz
  have H2 := hide (fun w => clone_any t w hb)
  go_enter Tryd.func55, Tryd.ntmps55
  go_wp2_with fail
  refine (unhide H1).mono ?_; rintro e w1 ⟨rfl, b1⟩
  go_wp2_with fail
  refine ((unhide H2) _).mono ?_; rintro e w2 ⟨rfl, b2⟩
  go_wp2_with fail
  go_ret
  exact ⟨rfl, b1.trans (b2.mono b1.size)⟩
end Go.Proofs.YtmgealcolofomaaDoor
