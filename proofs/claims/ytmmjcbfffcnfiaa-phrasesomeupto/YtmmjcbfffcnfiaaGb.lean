/- Where words stand, word by word. -/
import Derived.Test.YtmmjcbfffcnfiaaGa
namespace Go.Proofs.Ytmmjcbfffcnfiaa
open Go.RowKit Kb Ph
set_option linter.unusedVariables false
set_option maxRecDepth 20000

def EnP (ws : List ByteArray) (t : List UInt8) (k : Nat) : List Int := ((List.range k).filter fun i => (wd ws i).isSuffixOf t).map fun (i : Nat) => (i : Int)
theorem EnP_all (ws : List ByteArray) (t : List UInt8) : EnP ws t ws.length = En ws t := rfl
theorem EnP_len (ws : List ByteArray) (t : List UInt8) (k : Nat) : (EnP ws t k).length ≤ k := by
  unfold EnP
  rw [List.length_map]
  have := List.length_filter_le (fun i => (wd ws i).isSuffixOf t) (List.range k)
  rw [List.length_range] at this; exact this
theorem EnP_yes {ws : List ByteArray} {t : List UInt8} {k : Nat} (h : wd ws k <:+ t) : EnP ws t (k + 1) = EnP ws t k ++ [(k : Int)] := by
  have : (wd ws k).isSuffixOf t = true := by simpa using h
  unfold EnP
  rw [List.range_succ, List.filter_append, List.map_append]
  simp [this]
theorem EnP_no {ws : List ByteArray} {t : List UInt8} {k : Nat} (h : ¬ wd ws k <:+ t) : EnP ws t (k + 1) = EnP ws t k := by
  have : (wd ws k).isSuffixOf t = false := by
    rw [Bool.eq_false_iff]; intro g; exact h (List.isSuffixOf_iff_suffix.1 g)
  unfold EnP
  rw [List.range_succ, List.filter_append, List.map_append]
  simp [this]
/-- the hits of the places ahead of to, and of the first k words at to -/
def stP (ws : List ByteArray) (s : List UInt8) (to k : Nat) : List Ht := stands ws s (to - 1) ++ (EnP ws (s.take to) k).map fun e => (e, (to : Int))
theorem stP_zero (ws : List ByteArray) (s : List UInt8) (to : Nat) : stP ws s to 0 = stands ws s (to - 1) := by simp [stP, EnP]
theorem stP_all (ws : List ByteArray) (s : List UInt8) (to : Nat) (h : 1 ≤ to) : stP ws s to ws.length = stands ws s (to + 1 - 1) := by
  obtain ⟨m, rfl⟩ : ∃ m, to = m + 1 := ⟨to - 1, by omega⟩
  rw [stP, EnP_all]
  show stands ws s m ++ _ = stands ws s (m + 1)
  rw [stands]
theorem stP_yes {ws : List ByteArray} {s : List UInt8} {to k : Nat} (h : wd ws k <:+ s.take to) : stP ws s to (k + 1) = stP ws s to k ++ [((k : Int), (to : Int))] := by
  rw [stP, EnP_yes h, List.map_append, ← List.append_assoc]; rfl
theorem stP_no {ws : List ByteArray} {s : List UInt8} {to k : Nat} (h : ¬ wd ws k <:+ s.take to) : stP ws s to (k + 1) = stP ws s to k := by
  rw [stP, EnP_no h]; rfl
theorem stP_len {ws : List ByteArray} {s : List UInt8} {to k : Nat} : (stP ws s to k).length ≤ (to - 1) * ws.length + k := by
  have := stands_len ws s (to - 1)
  have := EnP_len ws (s.take to) k
  rw [stP, List.length_append, List.length_map]; omega
theorem suf_take {s x : ByteArray} {a : Nat} (h : a + x.size ≤ s.size) : x.data.toList <:+ s.data.toList.take (a + x.size) ↔ ((s.extract a (a + x.size)).toList == x.toList) = true := by
  rw [beq_iff_eq, Lib.extract_toList, ByteArray.toList_eq, show a + x.size - a = x.data.toList.length by simp]
  have hl : (s.data.toList.take (a + x.size)).length = a + x.size := by rw [List.length_take]; simp; omega
  have hd : (s.data.toList.drop a).take x.data.toList.length = (s.data.toList.take (a + x.size)).drop a := by
    rw [List.drop_take]; congr 1; simp
  rw [hd]
  constructor
  · rintro ⟨u, hu⟩
    have : u.length = a := by
      have := congrArg List.length hu
      rw [List.length_append, hl] at this
      have h2 : x.data.toList.length = x.size := by simp
      omega
    rw [← hu, ← this, List.drop_left]
  · intro e
    rw [← e]; exact List.drop_suffix _ _
theorem suf_short {s x : List UInt8} {to : Nat} (h : to < x.length) : ¬ x <:+ s.take to := by
  intro g
  have := g.length_le
  rw [List.length_take] at this; omega
theorem own_lit2 (w : World) (a b c d : Int) : (w.alloc (.cells #[.int .i64 a, .int .i64 b, .int .i64 c, .int .i64 d] 38)).ownsRow w.heap.size 38 2 (.slice (some ⟨w.heap.size, 0, none⟩) 2 2) 2 (cellsH [(a, b), (c, d)]) := by
  refine ⟨rfl, .inr ⟨w.heap.size, 2, #[.int .i64 a, .int .i64 b, .int .i64 c, .int .i64 d], rfl, Nat.le_refl _, ?_, Nat.le_refl _, by unfold maxLen; omega, rfl, rfl⟩⟩
  show (w.heap.push _)[w.heap.size]? = _
  simp
end Go.Proofs.Ytmmjcbfffcnfiaa
