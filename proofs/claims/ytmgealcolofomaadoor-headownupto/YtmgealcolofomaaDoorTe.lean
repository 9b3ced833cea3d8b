/- Walks: chunks read, the program's: readChunk, Chunks. -/
import Derived.Test.YtmgealcolofomaaDoorTc
import Derived.Test.YtmgealcolofomaaDoorTbd
namespace Go.Proofs.YtmgealcolofomaaDoor
open Go.RowKit Kb
set_option linter.unusedVariables false
set_option maxRecDepth 20000

namespace Cu
/-- a chunk, by the size's line -/
def byLine (room : Int) (z : Int × L8 × Int) : L8 × L8 × Int :=
  if z.2.2 ≠ 0 then ([], [], z.2.2) else if room < z.1 then ([], [], 6) else if (z.2.1.length : Int) < z.1 then ([], [], 7)
  else if nl (z.2.1.drop z.1.toNat) ≠ 0 then ([], [], nl (z.2.1.drop z.1.toNat)) else (z.2.1.take z.1.toNat, (z.2.1.drop z.1.toNat).drop 2, 0)
theorem told_line (room : Int) (l : L8) : told l (chunk room l) = byLine room (readSize l) := by
  unfold chunk readSize byLine
  by_cases h1 : digs l = 0 ∧ l ≠ []
  · rw [if_pos h1, if_pos h1]; rfl
  rw [if_neg h1, if_neg h1]
  by_cases h2 : nl (l.drop (digs l)) ≠ 0
  · rw [if_pos h2, if_pos h2, if_pos h2]; rfl
  rw [if_neg h2, if_neg h2]
  dsimp only
  rw [if_neg (show ¬ ((0 : Int) ≠ 0) by decide)]
  by_cases h3 : room < val l
  · rw [if_pos h3, if_pos h3]; rfl
  rw [if_neg h3, if_neg h3]
  by_cases h4 : ((l.drop (digs l + 2)).length : Int) < val l
  · rw [if_pos h4, if_pos h4]; rfl
  rw [if_neg h4, if_neg h4]
  by_cases h5 : nl ((l.drop (digs l + 2)).drop (val l).toNat) ≠ 0
  · rw [if_pos h5, if_pos h5]; rfl
  rw [if_neg h5, if_neg h5]
  show (_, l.drop (digs l + 2 + (val l).toNat + 2), (0 : Int)) = _
  rw [List.drop_drop, List.drop_drop, Nat.add_assoc]
theorem size_bd (l : L8) : 0 ≤ (readSize l).1 ∧ (readSize l).1 < 268435456 := by
  unfold readSize
  split
  · simp
  · split
    · simp
    · exact val_bd l
theorem chunk_err {room : Int} {l : L8} {e : Int} (h : chunk room l = .error e) : e = 4 ∨ e = 6 ∨ e = 7 := by
  unfold chunk at h
  split at h
  · cases h; exact .inl rfl
  split at h
  · rename_i h2
    cases h
    rcases nl_cases (l.drop (digs l)) with h | h | h
    · exact absurd h h2
    · exact .inl h
    · exact .inr (.inr h)
  split at h
  · cases h; exact .inr (.inl rfl)
  split at h
  · cases h; exact .inr (.inr rfl)
  split at h
  · rename_i h2
    cases h
    rcases nl_cases ((l.drop (digs l + 2)).drop (val l).toNat) with h | h | h
    · exact absurd h h2
    · exact .inl h
    · exact .inr (.inr h)
  · cases h
theorem chunk_used {room : Int} {l p : L8} {u : Nat} (h : chunk room l = .ok (p, u)) : 5 ≤ u ∧ u ≤ l.length ∧ (p.length : Int) ≤ room ∧ p.length + 5 ≤ u := by
  obtain ⟨d, t, hI, rfl, hu⟩ := chunk_form h
  have := hI.some_
  have h2 : crlf.length = 2 := rfl
  refine ⟨by omega, by simp [h2]; omega, hI.fits, by omega⟩
end Cu
theorem ret_sii {a b : ByteArray} {c d x y : Int} (h : a = b) (g : c = d) (k : x = y) : Ending.returned (.tuple #[.string a, .int .i64 c, .int .i64 x]) = .returned (.tuple #[.string b, .int .i64 d, .int .i64 y]) := by rw [h, g, k]
theorem drop_size (s : ByteArray) (k : Nat) (h : k ≤ s.size) : (s.extract k s.size).size = s.size - k := by simp
namespace Cu
/-- how chunks are told -/
def tell : Except Int (L8 × Nat) → L8 × Int × Int
  | .error e => ([], 0, e)
  | .ok (q, n) => (q, n, 0)
end Cu
end Go.Proofs.YtmgealcolofomaaDoor
