/- The program's kindOf, the document's place. -/
import Derived.Test.YtkhbfdokkmebhaaDoorPi
namespace Go.Proofs.YtkhbfdokkmebhaaDoor
open Go.RowKit Kb
set_option linter.unusedVariables false

/-- a table of texts, cell for cell -/
structure TabS (g : Nat) (ws : List (List UInt8)) (w : World) : Prop where
  lt : g < w.heap.size
  cell : ∀ j p, ws[j]? = some p → w.cell? ⟨g, j, none⟩ = some (.string (mk p))
theorem TabS.below {g : Nat} {ws : List (List UInt8)} {w w' : World} (h : TabS g ws w) (b : Below w.heap.size w w') : TabS g ws w' :=
  ⟨Nat.lt_of_lt_of_le h.lt b.size, fun j p hp => cell_below (h.cell j p hp) h.lt b⟩

def kdV (p : ByteArray) : Int := (Pw.kind p.data.toList).getD 0
def kdB (p : ByteArray) : Bool := (Pw.kind p.data.toList).isSome
theorem ret_ib {k : IntKind} {a b : Int} {p q : Bool} (h : a = b) (g : p = q) : Ending.returned (.tuple #[.int k a, .bool p]) = .returned (.tuple #[.int k b, .bool q]) := by rw [h, g]

theorem drop_word (k : Nat) (h : k < 11) : Pw.words.drop k = Pw.word ((k : Int) + 1) :: Pw.words.drop (k + 1) := by
  match k, h with
  | 0, _ | 1, _ | 2, _ | 3, _ | 4, _ | 5, _ | 6, _ | 7, _ | 8, _ | 9, _ | 10, _ => decide
theorem kindS (k : Nat) (h : k < 11) : Pw.kind (mk (Pw.word ((k : Int) + 1))).data.toList = some ((k : Int) + 1) := by
  match k, h with
  | 0, _ | 1, _ | 2, _ | 3, _ | 4, _ | 5, _ | 6, _ | 7, _ | 8, _ | 9, _ | 10, _ => decide
theorem strT {p x : ByteArray} (h : p = x) : (x.toList == p.toList) = true := by rw [h]; simp
theorem strF {p x : ByteArray} (h : ¬ p = x) : (x.toList == p.toList) = false := str_f fun e => h e.symm

theorem ix0 (X : Nat → ByteArray) : ∀ w, (Instr.index 38 (.agg #[.string (X 0), .string (X 1), .string (X 2), .string (X 3), .string (X 4), .string (X 5), .string (X 6), .string (X 7), .string (X 8), .string (X 9), .string (X 10)]) (.int .i64 0)).run Tryd.prog w = .ok (.string (X 0)) w := fun _ => by kernel_rfl
theorem ix1 (X : Nat → ByteArray) : ∀ w, (Instr.index 38 (.agg #[.string (X 0), .string (X 1), .string (X 2), .string (X 3), .string (X 4), .string (X 5), .string (X 6), .string (X 7), .string (X 8), .string (X 9), .string (X 10)]) (.int .i64 1)).run Tryd.prog w = .ok (.string (X 1)) w := fun _ => by kernel_rfl
theorem ix2 (X : Nat → ByteArray) : ∀ w, (Instr.index 38 (.agg #[.string (X 0), .string (X 1), .string (X 2), .string (X 3), .string (X 4), .string (X 5), .string (X 6), .string (X 7), .string (X 8), .string (X 9), .string (X 10)]) (.int .i64 2)).run Tryd.prog w = .ok (.string (X 2)) w := fun _ => by kernel_rfl
theorem ix3 (X : Nat → ByteArray) : ∀ w, (Instr.index 38 (.agg #[.string (X 0), .string (X 1), .string (X 2), .string (X 3), .string (X 4), .string (X 5), .string (X 6), .string (X 7), .string (X 8), .string (X 9), .string (X 10)]) (.int .i64 3)).run Tryd.prog w = .ok (.string (X 3)) w := fun _ => by kernel_rfl
theorem ix4 (X : Nat → ByteArray) : ∀ w, (Instr.index 38 (.agg #[.string (X 0), .string (X 1), .string (X 2), .string (X 3), .string (X 4), .string (X 5), .string (X 6), .string (X 7), .string (X 8), .string (X 9), .string (X 10)]) (.int .i64 4)).run Tryd.prog w = .ok (.string (X 4)) w := fun _ => by kernel_rfl
theorem ix5 (X : Nat → ByteArray) : ∀ w, (Instr.index 38 (.agg #[.string (X 0), .string (X 1), .string (X 2), .string (X 3), .string (X 4), .string (X 5), .string (X 6), .string (X 7), .string (X 8), .string (X 9), .string (X 10)]) (.int .i64 5)).run Tryd.prog w = .ok (.string (X 5)) w := fun _ => by kernel_rfl
theorem ix6 (X : Nat → ByteArray) : ∀ w, (Instr.index 38 (.agg #[.string (X 0), .string (X 1), .string (X 2), .string (X 3), .string (X 4), .string (X 5), .string (X 6), .string (X 7), .string (X 8), .string (X 9), .string (X 10)]) (.int .i64 6)).run Tryd.prog w = .ok (.string (X 6)) w := fun _ => by kernel_rfl
theorem ix7 (X : Nat → ByteArray) : ∀ w, (Instr.index 38 (.agg #[.string (X 0), .string (X 1), .string (X 2), .string (X 3), .string (X 4), .string (X 5), .string (X 6), .string (X 7), .string (X 8), .string (X 9), .string (X 10)]) (.int .i64 7)).run Tryd.prog w = .ok (.string (X 7)) w := fun _ => by kernel_rfl
theorem ix8 (X : Nat → ByteArray) : ∀ w, (Instr.index 38 (.agg #[.string (X 0), .string (X 1), .string (X 2), .string (X 3), .string (X 4), .string (X 5), .string (X 6), .string (X 7), .string (X 8), .string (X 9), .string (X 10)]) (.int .i64 8)).run Tryd.prog w = .ok (.string (X 8)) w := fun _ => by kernel_rfl
theorem ix9 (X : Nat → ByteArray) : ∀ w, (Instr.index 38 (.agg #[.string (X 0), .string (X 1), .string (X 2), .string (X 3), .string (X 4), .string (X 5), .string (X 6), .string (X 7), .string (X 8), .string (X 9), .string (X 10)]) (.int .i64 9)).run Tryd.prog w = .ok (.string (X 9)) w := fun _ => by kernel_rfl
theorem ix10 (X : Nat → ByteArray) : ∀ w, (Instr.index 38 (.agg #[.string (X 0), .string (X 1), .string (X 2), .string (X 3), .string (X 4), .string (X 5), .string (X 6), .string (X 7), .string (X 8), .string (X 9), .string (X 10)]) (.int .i64 10)).run Tryd.prog w = .ok (.string (X 10)) w := fun _ => by kernel_rfl

set_option maxRecDepth 20000 in
set_option maxHeartbeats 4000000 in
theorem kindOf_any (p : ByteArray) (w : World) (hw : TabS 1 Pw.words w) :
    Calls Tryd.prog 19 #[.string p] w fun e w' => e = .returned (.tuple #[.int .i64 (kdV p), .bool (kdB p)]) ∧ w' = w := by
  obtain ⟨X, hX⟩ : ∃ X : Nat → ByteArray, ∀ k, X k = mk (Pw.word ((k : Int) + 1)) := ⟨_, fun _ => rfl⟩
  have cX : ∀ j, j < 11 → w.cell? ⟨1, j, none⟩ = some (.string (X j)) := fun j hj => by rw [hX]; exact hw.cell j _ (Pw.word_of j hj)
  have HX := hide hX
  clear hX
  have c0 := cX 0 (by decide)
  have c1 := cX 1 (by decide)
  have c2 := cX 2 (by decide)
  have c3 := cX 3 (by decide)
  have c4 := cX 4 (by decide)
  have c5 := cX 5 (by decide)
  have c6 := cX 6 (by decide)
  have c7 := cX 7 (by decide)
  have c8 := cX 8 (by decide)
  have c9 := cX 9 (by decide)
  have c10 := cX 10 (by decide)
  clear cX
  go_enter Tryd.func19, Tryd.ntmps19
  go_wp2
  go_loop [7] (fun i => ∃ k : Nat, k ≤ 11 ∧ i = .int .i64 k ∧ Pw.kind p.data.toList = Pw.kindFrom p.data.toList k (Pw.words.drop k)) (fun i => 11 - (intOf i).toNat)
  case atStart => exact ⟨0, by decide, rfl, rfl⟩
  case round =>
    clear c0 c1 c2 c3 c4 c5 c6 c7 c8 c9 c10 hw
    have i0 := ix0 X
    have i1 := ix1 X
    have i2 := ix2 X
    have i3 := ix3 X
    have i4 := ix4 X
    have i5 := ix5 X
    have i6 := ix6 X
    have i7 := ix7 X
    have i8 := ix8 X
    have i9 := ix9 X
    have i10 := ix10 X
    obtain ⟨k, hk, rfl, hkd⟩ := hrel
    have HK := hide hkd
    clear hkd
    by_cases h11 : k = 11
    · subst h11
      have hB : Hid (Pw.kind p.data.toList = none) := hide (unhide HK)
      go_wp2
      go_ret2
      exact ⟨ret_ib (by unfold kdV; rw [unhide hB]; rfl) (by unfold kdB; rw [unhide hB]; rfl), rfl⟩
    · have hk' : k < 11 := by omega
      clear hk h11
      by_cases he : p = X k
      · have HB : Hid (Pw.kind p.data.toList = some ((k : Int) + 1)) := hide (by rw [he, (unhide HX) k]; exact kindS k hk')
        match k, hk' with
        | 0, _ | 1, _ | 2, _ | 3, _ | 4, _ | 5, _ | 6, _ | 7, _ | 8, _ | 9, _ | 10, _ =>
          have hq := strT he
          clear he
          go_wp2
          go_ret2
          exact ⟨ret_ib (by unfold kdV; rw [unhide HB]; rfl) (by unfold kdB; rw [unhide HB]; rfl), rfl⟩
      · have HB : Hid (Pw.kind p.data.toList = Pw.kindFrom p.data.toList (k + 1) (Pw.words.drop (k + 1))) := hide (by
          rw [unhide HK, drop_word k hk', Pw.kindFrom, if_neg]
          intro e; exact he (by rw [(unhide HX) k, e, mk_data]))
        match k, hk' with
        | 0, _ | 1, _ | 2, _ | 3, _ | 4, _ | 5, _ | 6, _ | 7, _ | 8, _ | 9, _ | 10, _ =>
          have hq := strF he
          clear he
          go_wp2
          exact ⟨⟨_, by decide, rfl, unhide HB⟩, by simp [intOf]⟩
end Go.Proofs.YtkhbfdokkmebhaaDoor
