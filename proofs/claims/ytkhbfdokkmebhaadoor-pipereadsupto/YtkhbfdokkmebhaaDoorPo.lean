/- Slices of numbers that came in; tables of texts as they are laid. -/
import Derived.Test.YtkhbfdokkmebhaaDoorPk
import Derived.Test.YtkhbfdokkmebhaaDoorRows
import Derived.Test.YtkhbfdokkmebhaaDoorShelf
import Derived.Lib.LaidTab
import Derived.OpenShut
import Derived.Carry
import Derived.WideShapes
namespace Go.Proofs.YtkhbfdokkmebhaaDoor
open Go.RowKit Kb Go.ChangeShapes Go.WideShapes
set_option linter.unusedVariables false

theorem laidOutAll : laidOutB Tryd.prog = true := by kernel_rfl
theorem lits_len {H : Type} (k : IntKind) (zs : List Int) : Rows.uptoBulkAll (lits k zs : List (DataW H)) = zs.length := by
  induction zs with
  | nil => rfl
  | cons z r ih =>
    show Rows.uptoBulk (DataW.lit (.int k z)) + Rows.uptoBulkAll (lits k r : List (DataW H)) = _
    rw [ih, List.length_cons, show Rows.uptoBulk (DataW.lit (.int k z) : DataW H) = 1 by simp [Rows.uptoBulk]]; omega
set_option maxRecDepth 100000 in
/-- a slice of numbers that came in -/
theorem open_ints_in {H : Type} {enc : TypeId × Value → H} {W : World} {base : Nat} {v : Value} {d : DataW H} {p : List MemPlace}
    (hval : Value.okWide Tryd.prog W .any base 22 v) (h : DataW.Trod enc Tryd.prog W 0 (fun _ => true) true 22 v d p) (hk : Rows.uptoBulk d ≤ 1048576) :
    ∃ zs, Ints W v zs ∧ zs.length ≤ Rows.uptoBulk d ∧ ∀ x ∈ p, x.block < W.heap.size := by
  obtain ⟨a0, len, cap, rfl⟩ := okWide_slice Tryd.underlying22 hval
  obtain ⟨fuel, hf⟩ := h
  rcases open_ints Tryd.underlying22 Tryd.underlying3 (by kernel_rfl) hf with ⟨hcs, hx⟩ | ⟨a, len', cap', zs, hcs, _, hl, hm, hz, hx, hcell, hwz⟩
  · have e : Value.slice a0 len cap = .slice none 0 0 := by simpa [Value.cells] using hcs
    cases e
    cases hx
    exact ⟨[], Ints.nil _, Nat.zero_le _, by simp⟩
  · have e : Value.slice a0 len cap = .slice (some a) len' cap' := by simpa [Value.cells] using hcs
    cases e
    cases hx
    simp only [if_true] at hz
    have htl : (zs.take len).length = len := by rw [List.length_take]; omega
    have hbulk : (zs.take len).length ≤ Rows.uptoBulk (DataW.slice (lits .i64 (zs.take len)) (lits .i64 (zs.drop len)) : DataW H) := by
      have : Rows.uptoBulk (DataW.slice (lits .i64 (zs.take len)) (lits .i64 (zs.drop len)) : DataW H) = Rows.uptoBulkAll (lits .i64 (zs.take len) : List (DataW H)) + Rows.uptoBulkAll (lits .i64 (zs.drop len) : List (DataW H)) + 1 := by simp [Rows.uptoBulk]
      rw [this, lits_len]; omega
    have hblk : ∀ x ∈ MemPlace.row a zs.length, x.block < W.heap.size := by
      intro x hx
      obtain ⟨i, hi, rfl⟩ := MemPlace.mem_row.1 hx
      obtain ⟨b, off, rfl, hc⟩ := ints_at hcell (by omega)
      have hh := World.block_lt_of_cell? _ _ (hc i hi)
      simpa [MemPlace.block] using hh
    refine ⟨zs.take len, ⟨⟨some a, cap, by rw [htl], by rw [htl]; exact hl⟩, ?_, ?_, ?_⟩, ?_, hblk⟩
    · omega
    · intro z hz'
      exact bounds_i64 (hwz z (List.mem_of_mem_take hz'))
    · intro hne
      have hp : 0 < zs.length := by
        have := List.length_pos_iff.2 hne; rw [htl] at this; omega
      obtain ⟨b, off, rfl, hc⟩ := ints_at hcell hp
      refine ⟨b, off, cap, by rw [htl], World.block_lt_of_cell? _ _ (hc 0 hp), ?_⟩
      intro j z hj
      have hjl : j < len := by have := (List.getElem?_eq_some_iff.1 hj).1; rw [htl] at this; exact this
      rw [List.getElem?_take, if_pos hjl] at hj
      rw [hc j (by omega), List.getD, hj]; rfl
    · exact hbulk

def tabStr {H : Type} (ws : List (List UInt8)) : DataW H := .agg (ws.map fun b => .lit (.string b))
theorem cells_of_strs {H : Type} {enc : TypeId × Value → H} {P : Program} {w : World} {base : Nat} {sp : Nat → Bool} {held : Bool} {fuel : Nat} {t e : TypeId} {n : Nat} {cs : List Value} {ws : List (List UInt8)} {p : List MemPlace}
    (ht : P.underlying t = some (.array n e)) (he : P.underlying e = some .string) (hce : P.cellsOf e = 1) (hct : P.cellsOf t = n)
    (h : DataW.trod enc P w base sp held fuel t cs = some (tabStr ws, p)) : cs = cellsS ws := by
  cases fuel with
  | zero => simp [DataW.trod] at h
  | succ fuel =>
    simp only [DataW.trod, ht, hce, hct, Nat.mul_one] at h
    split at h
    · rename_i hl
      obtain ⟨xs, hm, hx⟩ := Option.map_eq_some_iff.1 h
      have hxs : xs.map (·.1) = ws.map fun b => (DataW.lit (.string b) : DataW H) := by
        have := congrArg Prod.fst hx
        simpa [tabStr] using this
      have hxl : xs.length = n := by simpa using Lib.mapM_length hm
      have hzl : ws.length = n := by
        have := congrArg List.length hxs
        simp at this
        omega
      apply List.ext_getElem?
      intro i
      by_cases hi : i < n
      · obtain ⟨b, hb, hf⟩ := Lib.mapM_at hm i i (by simp [hi])
        obtain ⟨z, hc, rfl, _⟩ := DataW.trod_string he hf
        have h1 : cs[i]? = some (.string z) := by
          have := congrArg (·[0]?) hc
          simpa [List.getElem?_take, List.getElem?_drop] using this
        have h2 : (xs.map (·.1))[i]? = some (DataW.lit (.string z.data.toList) : DataW H) := by simp [hb]
        rw [hxs] at h2
        simp only [List.getElem?_map, Option.map_eq_some_iff, DataW.lit.injEq, Lit.string.injEq] at h2
        obtain ⟨z', hz', e'⟩ := h2
        rw [h1, cellsS, List.getElem?_map, hz', e']
        show some (Value.string z) = some (.string (mk z.data.toList))
        rw [mk_data]
      · rw [List.getElem?_eq_none (by omega), List.getElem?_eq_none (by rw [cellsS_length]; omega)]
    · cases h
theorem tabS_of_head {W : World} {name : String} {ws : List (List UInt8)} {rest : List (String × DataW Unit)} {g : Nat} {t : TypeId} {n : Nat} (hne : 0 < ws.length)
    (hg : Tryd.prog.globalNamed name = some g) (hty : (Tryd.prog.globals[g]?).map (·.type) = some t) (ht : Tryd.prog.underlying t = some (.array n 9)) (hct : Tryd.prog.cellsOf t = n)
    (h : laidMet Tryd.prog ((name, tabStr ws) :: rest) W) : TabS g ws W := by
  obtain ⟨ps, ⟨g', t', cs, fuel, p, q, hg', ht', hvar, hd, _, _⟩, _⟩ := h
  obtain rfl := Option.some.inj (hg.symm.trans hg')
  obtain rfl := Option.some.inj (hty.symm.trans ht')
  have hc := cells_of_strs ht Tryd.underlying9 (by kernel_rfl) hct hd
  have key : ∀ j p, ws[j]? = some p → W.cell? ⟨g, j, none⟩ = some (.string (mk p)) := by
    intro j p hp
    rw [World.var?_cell hg hvar j]
    have h2 : (cellsS ws)[j]? = some (.string (mk p)) := by rw [cellsS, List.getElem?_map, hp]; rfl
    rw [← hc] at h2
    simpa using h2
  refine ⟨?_, key⟩
  obtain ⟨p, hp⟩ : ∃ p, ws[0]? = some p := ⟨ws[0], List.getElem?_eq_getElem hne⟩
  exact World.block_lt_of_cell? _ _ (key 0 p hp)

/-- two slices of numbers held against each other -/
theorem equal_any (v1 v2 : Value) (xs ys : List Int) (w : World) (h1 : Ints w v1 xs) (h2 : Ints w v2 ys) :
    Calls Tryd.prog 11 #[v1, v2] w fun e w' => e = .returned (.bool (decide (xs = ys))) ∧ Below w.heap.size w w' := by
  have r1 := h1.room
  have r2 := h2.room
  by_cases hl : xs.length = ys.length
  · by_cases hx : xs = []
    · subst hx
      have hy : ys = [] := List.length_eq_zero_iff.1 hl.symm
      subst hy
      obtain ⟨o1, c1, rfl, _⟩ := h1.form
      obtain ⟨o2, c2, rfl, _⟩ := h2.form
      refine (Tryd.slices_Equal_int_empty o1 o2 c1 0 c2 w (by decide)).mono ?_
      rintro e w' ⟨rfl, rfl⟩
      exact ⟨rfl, Below.refl _ _⟩
    · have hy : ys ≠ [] := fun e => hx (List.length_eq_zero_iff.1 (by rw [hl, e]; rfl))
      obtain ⟨g1, o1, c1, rfl, _, hc1⟩ := h1.at_ hx
      obtain ⟨g2, o2, c2, rfl, _, hc2⟩ := h2.at_ hy
      refine (Tryd.slices_Equal_int g1 o1 xs.length c1 g2 o2 ys.length c2 xs ys w (Nat.le_refl _) (Nat.le_refl _) (by omega) (by omega) ?_ ?_).mono ?_
      · intro j hj; exact hc1 j _ (by rw [List.getD, List.getElem?_eq_getElem hj]; rfl)
      · intro j hj; exact hc2 j _ (by rw [List.getD, List.getElem?_eq_getElem hj]; rfl)
      · rintro e w' ⟨rfl, q, rfl⟩
        refine ⟨ret_bool ?_, Go.below_drewN (Below.refl _ _) _⟩
        rw [List.take_length, List.take_length]
        rw [Bool.eq_iff_iff, beq_iff_eq, decide_eq_true_iff]
  · obtain ⟨o1, c1, rfl, _⟩ := h1.form
    obtain ⟨o2, c2, rfl, _⟩ := h2.form
    refine (Tryd.slices_Equal_int_lens o1 o2 xs.length c1 ys.length c2 w hl).mono ?_
    rintro e w' ⟨rfl, rfl⟩
    refine ⟨ret_bool (by rw [eq_comm, decide_eq_false_iff_not]; intro e; exact hl (by rw [e])), Below.refl _ _⟩
end Go.Proofs.YtkhbfdokkmebhaaDoor
