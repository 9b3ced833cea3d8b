/- Walks of base 64: appendFour, Base64Encode. -/
import Derived.Test.YtkhbfdokkmebhaaGreatDoorKb
import Derived.Test.YtkhbfdokkmebhaaGreatDoorC6
import Derived.Laws.BitsLemmas
namespace Go.Proofs.YtkhbfdokkmebhaaGreatDoor
open Go.RowKit Kb
set_option linter.unusedVariables false
set_option maxRecDepth 20000

theorem wraps63 (n : Int) (h0 : 0 ≤ n) (h1 : n < 2 ^ 63) : IntKind.i64.wrap n = n := by
  apply wr64 <;> omega
theorem and63 (y : Int) (h0 : 0 ≤ y) (h1 : y < 9223372036854775808) : bits BinOp.and IntKind.i64 y 63 = y % 64 := by
  have := bits_mask .i64 63 (by decide) wraps63 6 (by decide) y h0 (by simpa using h1)
  simpa using this
theorem or8 (x : Nat) (c : UInt8) (h : x < 16777216) : bits BinOp.or IntKind.i64 ((x : Int) * 256) (c.toNat : Int) = ((x * 256 + c.toNat : Nat) : Int) := by
  have hc := c.toNat_lt
  have := bits_join .i64 63 (by decide) wraps63 8 ((x : Int) * 256) (c.toNat : Int) (by omega) (by omega) (by omega) (by omega) (by omega) (by omega)
  rw [this]; omega

/-- the first k bytes of a text, nulls behind it, as a number -/
def b8 (l : List UInt8) : Nat → Nat
  | 0 => 0
  | k + 1 => b8 l k * 256 + (l.getD k 0).toNat
theorem b8_lt (l : List UInt8) : ∀ k, b8 l k < 256 ^ k := by
  intro k
  induction k with
  | zero => simp [b8]
  | succ k ih =>
    have := (l.getD k 0).toNat_lt
    rw [b8, Nat.pow_succ]; omega
theorem enc_at (l : List UInt8) (h1 : 1 ≤ l.length) (h3 : l.length ≤ 3) (k : Nat) (hk : k < 4) :
    (C6.enc64 l).take (k + 1) = (C6.enc64 l).take k ++ [if l.length < k then 61 else C6.sg (b8 l 3 / 2 ^ (18 - 6 * k) % 64)] := by
  match l, h1, h3 with
  | [a], _, _ =>
    have ha := a.toNat_lt
    have e : b8 [a] 3 = a.toNat * 65536 := by simp [b8]; omega
    rw [e]
    match k, hk with
    | 0, _ => simp [C6.enc64]; congr 1; omega
    | 1, _ => simp [C6.enc64]; congr 1; omega
    | 2, _ => simp [C6.enc64]
    | 3, _ => simp [C6.enc64]
  | [a, b], _, _ =>
    have ha := a.toNat_lt
    have hb := b.toNat_lt
    have e : b8 [a, b] 3 = a.toNat * 65536 + b.toNat * 256 := by simp [b8]; omega
    rw [e]
    match k, hk with
    | 0, _ => simp [C6.enc64]; congr 1; omega
    | 1, _ => simp [C6.enc64]; congr 1; omega
    | 2, _ => simp [C6.enc64]; congr 1; omega
    | 3, _ => simp [C6.enc64]
  | [a, b, c], _, _ =>
    have ha := a.toNat_lt
    have hb := b.toNat_lt
    have hc := c.toNat_lt
    have e : b8 [a, b, c] 3 = a.toNat * 65536 + b.toNat * 256 + c.toNat := by simp [b8]; omega
    rw [e]
    match k, hk with
    | 0, _ => simp [C6.enc64]; congr 1; omega
    | 1, _ => simp [C6.enc64]; congr 1; omega
    | 2, _ => simp [C6.enc64]; congr 1; omega
    | 3, _ => simp [C6.enc64]; congr 1; omega
theorem enc_four (l : List UInt8) (h1 : 1 ≤ l.length) (h3 : l.length ≤ 3) : (C6.enc64 l).length = 4 := by
  rw [C6.enc_len]; omega

def tab64 : ByteArray := { data := #[65, 66, 67, 68, 69, 70, 71, 72, 73, 74, 75, 76, 77, 78, 79, 80, 81, 82, 83, 84, 85, 86, 87, 88, 89, 90, 97, 98, 99, 100, 101, 102, 103, 104, 105, 106, 107, 108, 109, 110, 111, 112, 113, 114, 115, 116, 117, 118, 119, 120, 121, 122, 48, 49, 50, 51, 52, 53, 54, 55, 56, 57, 43, 47] }
theorem tab_64 : ∀ k : Fin 64, (tab64[k.1]'(k.2)) = C6.sg k.1 := by decide +kernel
theorem tab_at64 (v : Nat) (h : v < 64) (hb : v < tab64.size) : tab64[v]'hb = C6.sg v := tab_64 ⟨v, h⟩

theorem getD_at (s : ByteArray) (k : Nat) (h : k < s.size) : s.data.toList.getD k 0 = s[k] := by
  simp [List.getD, List.getElem?_eq_getElem (show k < s.data.toList.length by simpa using h)]; rfl
theorem getD_no (s : ByteArray) (k : Nat) (h : s.size ≤ k) : s.data.toList.getD k 0 = 0 := by
  simp [List.getD, List.getElem?_eq_none (show s.data.toList.length ≤ k by simpa using h)]

end Go.Proofs.YtkhbfdokkmebhaaGreatDoor
