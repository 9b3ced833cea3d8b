/- The calls of pipe's Print and Parse, told by their outcome. -/
import Derived.Test.YtkhbfdokkmebhaaDoorPq
import Derived.Test.YtkhbfdokkmebhaaDoorPo
namespace Go.Proofs.YtkhbfdokkmebhaaDoor
open Go.RowKit Kb
set_option linter.unusedVariables false

theorem print_ok (v : Value) (zs : List Int) (q : ByteArray) (w : World) (hv : Ints w v zs) (hw : TabS 1 Pw.words w) (hc : Pw.check zs = 0) (hq : q.data.toList = Pw.print zs) :
    Calls Tryd.prog 8 #[v] w fun e w' => e = .returned (.tuple #[.string q, .int .i64 0]) ∧ Below w.heap.size w w' := by
  have := print_any v zs w hv hw
  rw [prV, if_pos hc, hc, ← hq, mk_data] at this
  exact this
theorem print_bad (v : Value) (zs : List Int) (n : Int) (w : World) (hv : Ints w v zs) (hw : TabS 1 Pw.words w) (hc : Pw.check zs = n) (hn : n ≠ 0) :
    Calls Tryd.prog 8 #[v] w fun e w' => e = .returned (.tuple #[.string ⟨#[]⟩, .int .i64 n]) ∧ Below w.heap.size w w' := by
  have := print_any v zs w hv hw
  rw [prV, if_neg (by rw [hc]; exact hn), hc] at this
  exact this
theorem parse_ok (s : ByteArray) (l : List Int) (m : Int) (w : World) (hs : s.size ≤ 4294960000) (hm : w.cell? ⟨2, 0, none⟩ = some (.int .i64 m)) (hw : TabS 1 Pw.words w) (hp : Pw.parse s.data.toList = (l, 0)) :
    Calls Tryd.prog 9 #[.string s] w fun e w' => ∃ v, e = .returned (.tuple #[v, .int .i64 0]) ∧ Ints w' v l ∧ Below w.heap.size w w' := by
  have := parse_any s m w hs hm hw
  rw [hp] at this
  exact this
theorem parse_no (s : ByteArray) (f : Int) (m : Int) (w : World) (hs : s.size ≤ 4294960000) (hm : w.cell? ⟨2, 0, none⟩ = some (.int .i64 m)) (hw : TabS 1 Pw.words w) (hp : (Pw.parse s.data.toList).2 = f) (hf : f ≠ 0) :
    Calls Tryd.prog 9 #[.string s] w fun e w' => ∃ v, e = .returned (.tuple #[v, .int .i64 f]) ∧ Ints w' v [] ∧ Below w.heap.size w w' := by
  have := parse_any s m w hs hm hw
  rw [Pw.parse_bad (by rw [hp]; exact hf), hp] at this
  exact this
theorem two_ints (w : World) (a b : Int) (t : TypeId) (ha : -9223372036854775808 ≤ a ∧ a ≤ 9223372036854775807) (hb : -9223372036854775808 ≤ b ∧ b ≤ 9223372036854775807) :
    Ints (w.alloc (.cells #[.int .i64 a, .int .i64 b] t)) (.slice (some ⟨w.heap.size, 0, none⟩) 2 2) [a, b] := by
  refine ⟨⟨_, 2, rfl, Nat.le_refl _⟩, by show 2 ≤ _; omega, ?_, fun _ => ⟨w.heap.size, 0, 2, rfl, by simp, ?_⟩⟩
  · intro z hz
    simp at hz
    rcases hz with rfl | rfl
    · exact ha
    · exact hb
  · intro j z hj
    rw [Nat.zero_add, World.cell?_alloc_new w _ _ j]
    match j, hj with
    | 0, hj => simpa using hj
    | 1, hj => simpa using hj
theorem mem_below {w w' : World} {a : Addr} {x : Value} (h : w.cell? a = some x) (hb : Below w.heap.size w w') : w'.cell? a = some x :=
  (hb.cell (World.block_lt_of_cell? _ _ h)).trans h
end Go.Proofs.YtkhbfdokkmebhaaDoor
