/- Walks of base 64: appendFour, Base64Encode. -/
import Derived.Test.YtejjbnbaholbbaaKb
import Derived.Test.YtejjbnbaholbbaaC6
import Derived.Laws.BitsLemmas
namespace Go.Proofs.Ytejjbnbaholbbaa
open Go.RowKit Kb
set_option linter.unusedVariables false

theorem wraps63 (n : Int) (h0 : 0 ≤ n) (h1 : n < 2 ^ 63) : IntKind.i64.wrap n = n := by
  apply wr64 <;> omega
theorem and63 (y : Int) (h0 : 0 ≤ y) (h1 : y < 9223372036854775808) : bits BinOp.and IntKind.i64 y 63 = y % 64 := by
  have := bits_mask .i64 63 (by decide) wraps63 6 (by decide) y h0 (by simpa using h1)
  simpa using this
theorem or8 (x : Nat) (c : UInt8) (h : x < 16777216) : bits BinOp.or IntKind.i64 ((x : Int) * 256) (c.toNat : Int) = ((x * 256 + c.toNat : Nat) : Int) := by
  have hc := c.toNat_lt
  have := bits_join .i64 63 (by decide) wraps63 8 ((x : Int) * 256) (c.toNat : Int) (by omega) (by omega) (by omega) (by omega) (by omega) (by omega)
  rw [this]; omega

/-- the first k bytes of a text, nulls behind it, as a number -/
def b8 (l : List UInt8) : Nat → Nat
  | 0 => 0
  | k + 1 => b8 l k * 256 + (l.getD k 0).toNat
theorem b8_lt (l : List UInt8) : ∀ k, b8 l k < 256 ^ k := by
  intro k
  induction k with
  | zero => simp [b8]
  | succ k ih =>
    have := (l.getD k 0).toNat_lt
    rw [b8, Nat.pow_succ]; omega
theorem enc_at (l : List UInt8) (h1 : 1 ≤ l.length) (h3 : l.length ≤ 3) (k : Nat) (hk : k < 4) :
    (C6.enc64 l).take (k + 1) = (C6.enc64 l).take k ++ [if l.length < k then 61 else C6.sg (b8 l 3 / 2 ^ (18 - 6 * k) % 64)] := by
  match l, h1, h3 with
  | [a], _, _ =>
    have ha := a.toNat_lt
    have e : b8 [a] 3 = a.toNat * 65536 := by simp [b8]; omega
    rw [e]
    match k, hk with
    | 0, _ => simp [C6.enc64]; congr 1; omega
    | 1, _ => simp [C6.enc64]; congr 1; omega
    | 2, _ => simp [C6.enc64]
    | 3, _ => simp [C6.enc64]
  | [a, b], _, _ =>
    have ha := a.toNat_lt
    have hb := b.toNat_lt
    have e : b8 [a, b] 3 = a.toNat * 65536 + b.toNat * 256 := by simp [b8]; omega
    rw [e]
    match k, hk with
    | 0, _ => simp [C6.enc64]; congr 1; omega
    | 1, _ => simp [C6.enc64]; congr 1; omega
    | 2, _ => simp [C6.enc64]; congr 1; omega
    | 3, _ => simp [C6.enc64]
  | [a, b, c], _, _ =>
    have ha := a.toNat_lt
    have hb := b.toNat_lt
    have hc := c.toNat_lt
    have e : b8 [a, b, c] 3 = a.toNat * 65536 + b.toNat * 256 + c.toNat := by simp [b8]; omega
    rw [e]
    match k, hk with
    | 0, _ => simp [C6.enc64]; congr 1; omega
    | 1, _ => simp [C6.enc64]; congr 1; omega
    | 2, _ => simp [C6.enc64]; congr 1; omega
    | 3, _ => simp [C6.enc64]; congr 1; omega
theorem enc_four (l : List UInt8) (h1 : 1 ≤ l.length) (h3 : l.length ≤ 3) : (C6.enc64 l).length = 4 := by
  rw [C6.enc_len]; omega

def tab64 : ByteArray := { data := #[65, 66, 67, 68, 69, 70, 71, 72, 73, 74, 75, 76, 77, 78, 79, 80, 81, 82, 83, 84, 85, 86, 87, 88, 89, 90, 97, 98, 99, 100, 101, 102, 103, 104, 105, 106, 107, 108, 109, 110, 111, 112, 113, 114, 115, 116, 117, 118, 119, 120, 121, 122, 48, 49, 50, 51, 52, 53, 54, 55, 56, 57, 43, 47] }
theorem tab_64 : ∀ k : Fin 64, (tab64[k.1]'(k.2)) = C6.sg k.1 := by decide +kernel
theorem tab_at64 (v : Nat) (h : v < 64) (hb : v < tab64.size) : tab64[v]'hb = C6.sg v := tab_64 ⟨v, h⟩

theorem getD_at (s : ByteArray) (k : Nat) (h : k < s.size) : s.data.toList.getD k 0 = s[k] := by
  simp [List.getD, List.getElem?_eq_getElem (show k < s.data.toList.length by simpa using h)]; rfl
theorem getD_no (s : ByteArray) (k : Nat) (h : s.size ≤ k) : s.data.toList.getD k 0 = 0 := by
  simp [List.getD, List.getElem?_eq_none (show s.data.toList.length ≤ k by simpa using h)]

set_option maxRecDepth 100000 in
set_option maxHeartbeats 4000000 in
theorem appendFour_any (v : Value) (n B : Nat) (xs : List UInt8) (s : ByteArray) (w : World) (hs1 : 1 ≤ s.size) (hs3 : s.size ≤ 3) (hB : B ≤ w.heap.size) (hn : n ≤ 1099511627776) (hown : w.ownsRow B 5 1 v n (cells xs)) :
    Calls Try.prog 37 #[v, .string s] w fun e w' => ∃ v', e = .returned v' ∧ w'.ownsRow B 5 1 v' (n + 4) (cells (xs ++ C6.enc64 s.data.toList)) ∧ Below B w w' := by
  obtain ⟨i0, hi, hz0, hz1, hz2⟩ := info_parts Kb.infoU8
  have OWN := hide hown
  clear hown
  have hl : s.data.toList.length = s.size := by simp
  have HT := hide (enc_at s.data.toList (by omega) (by omega))
  have HF := hide (enc_four s.data.toList (by omega) (by omega))
  rw [hl] at HT
  clear hl
  obtain ⟨w0, hw0⟩ : ∃ w0, Hid (w0 = w) := ⟨_, hide rfl⟩
  go_enter Try.func37, Try.ntmps37
  go_wp2
  go_loopw [5, 8] (fun b i wr => ∃ (k : Nat), k ≤ 3 ∧ i = .int .i64 k ∧ b = .int .i64 (b8 s.data.toList k : Nat) ∧ wr = w) (fun _ i _ => 3 - (intOf i).toNat)
  case atStart => exact ⟨0, by omega, rfl, rfl, rfl⟩
  case round =>
    obtain ⟨k, hk, rfl, rfl, rfl⟩ := hrel
    have hx : b8 s.data.toList k < 16777216 := by
      have h1 := b8_lt s.data.toList k
      have h2 : 256 ^ k ≤ 256 ^ 3 := Nat.pow_le_pow_right (by omega) hk
      omega
    by_cases h3 : k < 3
    · by_cases hlt : k < s.size
      · have hc := s[k].toNat_lt
        have HS : Hid (b8 s.data.toList (k + 1) = b8 s.data.toList k * 256 + s[k].toNat) := hide (by rw [b8, getD_at s k hlt])
        have hor := or8 (b8 s.data.toList k) s[k] hx
        have hwc := wr64 (s[k].toNat : Int) (by omega) (by omega)
        generalize b8 s.data.toList k = x at *
        go_wp2
        refine ⟨⟨k + 1, by omega, by go_num, ?_, by first | trivial | rfl⟩, by simp [intOf]; omega⟩
        rw [unhide HS]; simp
      · have HS : Hid (b8 s.data.toList (k + 1) = b8 s.data.toList k * 256) := hide (by rw [b8, getD_no s k (by omega)]; rfl)
        generalize b8 s.data.toList k = x at *
        go_wp2
        refine ⟨⟨k + 1, by omega, by go_num, ?_, by first | trivial | rfl⟩, by simp [intOf]; omega⟩
        rw [unhide HS]; simp
    · obtain rfl : k = 3 := by omega
      clear h3 hk
      generalize b8 s.data.toList 3 = x at *
      go_wp2
      go_loopw [0, 24] (fun v i wr => ∃ (k : Nat), k ≤ 4 ∧ i = .int .i64 k ∧ wr.ownsRow B 5 1 v (n + k) (cells (xs ++ (C6.enc64 s.data.toList).take k)) ∧ Below B w0 wr) (fun _ i _ => 4 - (intOf i).toNat)
      case atStart => exact ⟨0, by omega, rfl, by simpa using unhide OWN, by rw [unhide hw0]; exact Below.refl _ _⟩
      case round =>
        obtain ⟨k, hk, rfl, hown, hbel⟩ := hrel
        have hBq := Nat.le_trans (show B ≤ w0.heap.size by rw [unhide hw0]; exact hB) hbel.size
        have OWQ := hide hown
        have HB := hide hbel
        clear hown hbel OWN
        have b1 : n + k + 1 ≤ maxLen := by unfold maxLen; omega
        have b2 : n + k + 1 ≤ 140737488355328 := by omega
        have b4 : (n + k + 1) * 1 ≤ 140737488355328 := by omega
        match k, hk with
        | 0, _ =>
            have hv : x / 262144 % 64 < 64 := Nat.mod_lt _ (by decide)
            have hand : bits BinOp.and IntKind.i64 ((x : Int) / 262144) 63 = ((x / 262144 % 64 : Nat) : Int) := by rw [and63 _ (by omega) (by omega)]; omega
            have HS := hide ((unhide HT) 0 (by omega))
            rw [if_neg (by omega), show x / 2 ^ (18 - 6 * 0) % 64 = x / 262144 % 64 from rfl] at HS
            have HTB := hide (tab_at64 (x / 262144 % 64) hv hv)
            generalize x / 262144 % 64 = z at *
            have hz : (z : Int) < 64 := by omega
            have hle : ¬ (s.size : Int) < 0 := by omega
            go_wp2_with (at_builtin; refine wpList_append_own _ rfl _ _ 29 rfl B 5 i0 (.int .u8 0) 1 1 Try.underlying29 hi hz0 hz1 hz2 rfl (by decide) _ (n + 0) (cells (xs ++ (C6.enc64 s.data.toList).take 0)) rfl ((unhide OWQ).alloc _) _ 1 1 _ rfl rfl (cell_one_new _ _ _) (by simp [Value.oneCell']) b1 b4 (by simp; omega) ?_; intro v1 w1 own1 grow1 _)
            refine ⟨⟨v1, _, _, ⟨1, by omega, rfl, ?_, ((unhide HB).alloc hBq _).grown grow1 (by simp; omega) (own_lt (unhide OWQ))⟩, rfl, rfl, rfl⟩, by simp [intOf]⟩
            rw [unhide HS, ← List.append_assoc, cells_append, ← unhide HTB]; exact own1
        | 1, _ =>
            have hv : x / 4096 % 64 < 64 := Nat.mod_lt _ (by decide)
            have hand : bits BinOp.and IntKind.i64 ((x : Int) / 4096) 63 = ((x / 4096 % 64 : Nat) : Int) := by rw [and63 _ (by omega) (by omega)]; omega
            have HS := hide ((unhide HT) 1 (by omega))
            rw [if_neg (by omega), show x / 2 ^ (18 - 6 * 1) % 64 = x / 4096 % 64 from rfl] at HS
            have HTB := hide (tab_at64 (x / 4096 % 64) hv hv)
            generalize x / 4096 % 64 = z at *
            have hz : (z : Int) < 64 := by omega
            have hle : ¬ (s.size : Int) < 1 := by omega
            go_wp2_with (at_builtin; refine wpList_append_own _ rfl _ _ 29 rfl B 5 i0 (.int .u8 0) 1 1 Try.underlying29 hi hz0 hz1 hz2 rfl (by decide) _ (n + 1) (cells (xs ++ (C6.enc64 s.data.toList).take 1)) rfl ((unhide OWQ).alloc _) _ 1 1 _ rfl rfl (cell_one_new _ _ _) (by simp [Value.oneCell']) b1 b4 (by simp; omega) ?_; intro v1 w1 own1 grow1 _)
            refine ⟨⟨v1, _, _, ⟨2, by omega, rfl, ?_, ((unhide HB).alloc hBq _).grown grow1 (by simp; omega) (own_lt (unhide OWQ))⟩, rfl, rfl, rfl⟩, by simp [intOf]⟩
            rw [unhide HS, ← List.append_assoc, cells_append, ← unhide HTB]; exact own1
        | 2, _ =>
          by_cases hsz : s.size < 2
          · have HS := hide ((unhide HT) 2 (by omega))
            rw [if_pos (by omega)] at HS
            have hgt : (s.size : Int) < 2 := by omega
            go_wp2_with (at_builtin; go_must (refine Lib.wpList_append_own_string _ rfl _ _ 29 9 rfl B 5 i0 Try.underlying29 Try.underlying9 hi hz0 hz1 hz2 _ (n + 2) (cells (xs ++ (C6.enc64 s.data.toList).take 2)) rfl (unhide OWQ) ⟨#[61]⟩ rfl b1 b2 hBq ?_); intro v1 w1 own1 grow1 _)
            refine ⟨⟨v1, _, _, _, _, _, _, _, _, _, _, _, _, _, _, _, _, _, _, _, _, _, ⟨3, by omega, rfl, ?_, (unhide HB).grown grow1 hBq (own_lt (unhide OWQ))⟩, rfl⟩, by simp [intOf]⟩
            rw [unhide HS, ← List.append_assoc, cells_append]; exact own1
          · have hv : x / 64 % 64 < 64 := Nat.mod_lt _ (by decide)
            have hand : bits BinOp.and IntKind.i64 ((x : Int) / 64) 63 = ((x / 64 % 64 : Nat) : Int) := by rw [and63 _ (by omega) (by omega)]; omega
            have HS := hide ((unhide HT) 2 (by omega))
            rw [if_neg (by omega), show x / 2 ^ (18 - 6 * 2) % 64 = x / 64 % 64 from rfl] at HS
            have HTB := hide (tab_at64 (x / 64 % 64) hv hv)
            generalize x / 64 % 64 = z at *
            have hz : (z : Int) < 64 := by omega
            have hle : ¬ (s.size : Int) < 2 := by omega
            go_wp2_with (at_builtin; refine wpList_append_own _ rfl _ _ 29 rfl B 5 i0 (.int .u8 0) 1 1 Try.underlying29 hi hz0 hz1 hz2 rfl (by decide) _ (n + 2) (cells (xs ++ (C6.enc64 s.data.toList).take 2)) rfl ((unhide OWQ).alloc _) _ 1 1 _ rfl rfl (cell_one_new _ _ _) (by simp [Value.oneCell']) b1 b4 (by simp; omega) ?_; intro v1 w1 own1 grow1 _)
            refine ⟨⟨v1, _, _, ⟨3, by omega, rfl, ?_, ((unhide HB).alloc hBq _).grown grow1 (by simp; omega) (own_lt (unhide OWQ))⟩, rfl, rfl, rfl⟩, by simp [intOf]⟩
            rw [unhide HS, ← List.append_assoc, cells_append, ← unhide HTB]; exact own1
        | 3, _ =>
          by_cases hsz : s.size < 3
          · have HS := hide ((unhide HT) 3 (by omega))
            rw [if_pos (by omega)] at HS
            have hgt : (s.size : Int) < 3 := by omega
            go_wp2_with (at_builtin; go_must (refine Lib.wpList_append_own_string _ rfl _ _ 29 9 rfl B 5 i0 Try.underlying29 Try.underlying9 hi hz0 hz1 hz2 _ (n + 3) (cells (xs ++ (C6.enc64 s.data.toList).take 3)) rfl (unhide OWQ) ⟨#[61]⟩ rfl b1 b2 hBq ?_); intro v1 w1 own1 grow1 _)
            refine ⟨⟨v1, _, _, _, _, _, _, _, _, _, _, _, _, _, _, _, _, _, _, _, _, _, ⟨4, by omega, rfl, ?_, (unhide HB).grown grow1 hBq (own_lt (unhide OWQ))⟩, rfl⟩, by simp [intOf]⟩
            rw [unhide HS, ← List.append_assoc, cells_append]; exact own1
          · have hv : x / 1 % 64 < 64 := Nat.mod_lt _ (by decide)
            have hand : bits BinOp.and IntKind.i64 ((x : Int)) 63 = ((x / 1 % 64 : Nat) : Int) := by rw [and63 _ (by omega) (by omega)]; omega
            have HS := hide ((unhide HT) 3 (by omega))
            rw [if_neg (by omega), show x / 2 ^ (18 - 6 * 3) % 64 = x / 1 % 64 from rfl] at HS
            have HTB := hide (tab_at64 (x / 1 % 64) hv hv)
            generalize x / 1 % 64 = z at *
            have hz : (z : Int) < 64 := by omega
            have hle : ¬ (s.size : Int) < 3 := by omega
            go_wp2_with (at_builtin; refine wpList_append_own _ rfl _ _ 29 rfl B 5 i0 (.int .u8 0) 1 1 Try.underlying29 hi hz0 hz1 hz2 rfl (by decide) _ (n + 3) (cells (xs ++ (C6.enc64 s.data.toList).take 3)) rfl ((unhide OWQ).alloc _) _ 1 1 _ rfl rfl (cell_one_new _ _ _) (by simp [Value.oneCell']) b1 b4 (by simp; omega) ?_; intro v1 w1 own1 grow1 _)
            refine ⟨⟨v1, _, _, ⟨4, by omega, rfl, ?_, ((unhide HB).alloc hBq _).grown grow1 (by simp; omega) (own_lt (unhide OWQ))⟩, rfl, rfl, rfl⟩, by simp [intOf]⟩
            rw [unhide HS, ← List.append_assoc, cells_append, ← unhide HTB]; exact own1
        | 4, _ =>
          have HE := hide (List.take_of_length_le (Nat.le_of_eq (unhide HF)))
          go_wp2
          go_ret
          refine ⟨_, rfl, ?_, by rw [← unhide hw0]; exact unhide HB⟩
          have := unhide OWQ
          rwa [unhide HE] at this
end Go.Proofs.Ytejjbnbaholbbaa
