/- Walks: chunks read, the program's: readLineEnd, longest, readSize, readChunk. -/
import Derived.Test.YtmgealcolofomaaDoorTb
import Derived.Test.YtmgealcolofomaaDoorWb
import Derived.Test.YtmgealcolofomaaDoorKc
import Derived.Test.YtmgealcolofomaaDoorShelf
import Derived.OwnWalk
namespace Go.Proofs.YtmgealcolofomaaDoor
open Go.RowKit Kb
set_option linter.unusedVariables false
set_option maxRecDepth 20000

namespace Cu
theorem nl_cases (l : L8) : nl l = 0 ∨ nl l = 4 ∨ nl l = 7 := by
  rcases l with _ | ⟨c, _ | ⟨d, r⟩⟩
  · exact .inr (.inr rfl)
  · simp only [nl]; split <;> simp
  · simp only [nl]; split <;> simp
theorem pre_yes {l : L8} (h : nl l = 0) : Lib.hasPrefix l crlf = true ∧ Lib.trimPrefix l crlf = l.drop 2 := by
  obtain ⟨t, rfl⟩ := nl_form h
  have hp : Lib.hasPrefix (crlf ++ t) crlf = true := by simp [Lib.hasPrefix, crlf]
  exact ⟨hp, by unfold Lib.trimPrefix; rw [hp]; simp [crlf]⟩
theorem pre_no {l : L8} (h : nl l ≠ 0) : Lib.hasPrefix l crlf = false := by
  rcases hp : Lib.hasPrefix l crlf with _ | _
  · rfl
  · exfalso; apply h
    unfold Lib.hasPrefix at hp
    rw [List.isPrefixOf_iff_prefix] at hp
    obtain ⟨t, rfl⟩ := hp
    exact nl_crlf t
theorem pre_seven {l : L8} (h : nl l = 7) : Lib.hasPrefix crlf l = true := by
  rcases l with _ | ⟨c, _ | ⟨d, r⟩⟩
  · rfl
  · simp only [nl] at h
    split at h
    · rename_i hc; subst hc; rfl
    · exact absurd h (by decide)
  · simp only [nl] at h
    split at h <;> exact absurd h (by decide)
theorem pre_four {l : L8} (h : nl l = 4) : Lib.hasPrefix crlf l = false := by
  rcases hp : Lib.hasPrefix crlf l with _ | _
  · rfl
  · exfalso
    unfold Lib.hasPrefix at hp
    rw [List.isPrefixOf_iff_prefix] at hp
    obtain ⟨t, ht⟩ := hp
    rcases l with _ | ⟨c, _ | ⟨d, r⟩⟩
    · exact absurd h (by decide)
    · simp [crlf] at ht
      rw [ht.1] at h
      exact absurd h (by decide)
    · simp [crlf] at ht
      rw [ht.1, ht.2.1] at h
      simp only [nl] at h
      exact absurd h (by decide)
/-- how the end of a line is told: what is behind it, and the error -/
def lineEnd (l : L8) : L8 × Int := if nl l = 0 then (l.drop 2, 0) else ([], nl l)
theorem line_no {l : L8} {z : Int} (h : nl l = z) (h0 : z ≠ 0) : lineEnd l = ([], z) := by unfold lineEnd; rw [h, if_neg h0]
theorem line_yes {l : L8} (h : nl l = 0) : lineEnd l = (l.drop 2, 0) := by unfold lineEnd; rw [if_pos h]
/-- the number at the front of so many digits -/
def numv (l : L8) (k : Nat) : Int := (Num.num 16 (l.take k)).getD 0
theorem take_pre {l : L8} {k : Nat} (h : k < digs l) : ∀ x ∈ l.take (k + 1), isX x = true := fun x hx => digs_all l x (by
  have : l.take (k + 1) = (l.take (digs l)).take (k + 1) := by rw [List.take_take]; congr 1; omega
  rw [this] at hx; exact List.mem_of_mem_take hx)
theorem ans_yes {l : L8} {k : Nat} (h : k < digs l) : Num.ans 16 7 (l.take (k + 1)) = (numv l (k + 1), 0) := by
  have hd := digs_le l
  obtain ⟨n, hn⟩ := num_yes _ (take_pre h)
  unfold Num.ans numv
  rw [if_neg (by rw [List.length_take]; omega), hn]; rfl
theorem ans_no {l : L8} {k : Nat} (h : k = digs l) (hk : k < l.length) : Num.ans 16 7 (l.take (k + 1)) = (0, 4) := by
  have hd := digs_le l
  unfold Num.ans
  by_cases h7 : 7 < k + 1
  · rw [if_pos (by rw [List.length_take]; omega)]
  · have hc := digs_next l (by omega) l[k] (by rw [← h]; exact List.getElem?_eq_getElem hk)
    have e : l.take (k + 1) = l.take k ++ [l[k]] := by rw [List.take_add_one, List.getElem?_eq_getElem hk]; rfl
    rw [if_neg (by rw [List.length_take]; omega), e, num_no _ _ hc]
theorem numv_bd {l : L8} {k : Nat} (h : k ≤ digs l) : 0 ≤ numv l k ∧ numv l k < 268435456 := by
  have hd := digs_le l
  unfold numv
  cases hn : Num.num 16 (l.take k) with
  | none => simp
  | some n =>
    have hb := Num.num_bd 16 (by omega) (by omega) (l.take k).length _ _ rfl hn
    rw [List.length_take] at hb
    have h2 : ∀ k : Fin 8, (16 : Int) ^ k.1 ≤ 268435456 := by decide
    have h3 := h2 ⟨min k l.length, by omega⟩
    dsimp only at h3
    simp only [Option.getD_some]
    omega
end Cu
theorem ret_si2 {a b : ByteArray} {k : IntKind} {c d : Int} (h : a = b) (g : c = d) : Ending.returned (.tuple #[.string a, .int k c]) = .returned (.tuple #[.string b, .int k d]) := by rw [h, g]
theorem take_data (s : ByteArray) (k : Nat) : (s.extract 0 k).data.toList = s.data.toList.take k := by
  rw [Lib.extract_data]; simp
namespace Cu
/-- how a size is told: it, what is behind its line, and the error -/
def readSize (l : L8) : Int × L8 × Int :=
  if digs l = 0 ∧ l ≠ [] then (0, [], 4) else if nl (l.drop (digs l)) ≠ 0 then (0, [], nl (l.drop (digs l))) else (val l, l.drop (digs l + 2), 0)
/-- how a chunk is told -/
def told (l : L8) : Except Int (L8 × Nat) → L8 × L8 × Int
  | .error e => ([], [], e)
  | .ok (p, u) => (p, l.drop u, 0)
theorem size_bad {l : L8} (h : digs l = 0 ∧ l ≠ []) : readSize l = (0, [], 4) := if_pos h
theorem size_err {l : L8} {z : Int} (h : ¬ (digs l = 0 ∧ l ≠ [])) (hz : nl (l.drop (digs l)) = z) (h0 : z ≠ 0) : readSize l = (0, [], z) := by
  unfold readSize; rw [if_neg h, hz, if_pos h0]
theorem size_ok {l : L8} (h : ¬ (digs l = 0 ∧ l ≠ [])) (hz : nl (l.drop (digs l)) = 0) : readSize l = (val l, l.drop (digs l + 2), 0) := by
  unfold readSize; rw [if_neg h, hz, if_neg (by decide)]
end Cu
theorem ret_isi {a b : ByteArray} {x y c d : Int} (h : x = y) (g : a = b) (k : c = d) : Ending.returned (.tuple #[.int .i64 x, .string a, .int .i64 c]) = .returned (.tuple #[.int .i64 y, .string b, .int .i64 d]) := by rw [h, g, k]
theorem ret_ssi {a b c d : ByteArray} {x y : Int} (h : a = b) (g : c = d) (k : x = y) : Ending.returned (.tuple #[.string a, .string c, .int .i64 x]) = .returned (.tuple #[.string b, .string d, .int .i64 y]) := by rw [h, g, k]
theorem nil_size {s : ByteArray} (h : s.data.toList = []) : s = ByteArray.empty := eq_of_lists (by rw [h]; rfl)
theorem ne_size {s : ByteArray} (h : s.data.toList ≠ []) : s ≠ ⟨[].toArray⟩ := fun e => h (by rw [e])
end Go.Proofs.YtmgealcolofomaaDoor
