/- The document's tables of spans in memory: blank, First. -/
import Derived.Test.YtmgealcolofomaaEo
import Derived.Deep.OwnRows
namespace Go.Proofs.Ytmgealcolofomaa
open Go.RowKit Kb
set_option linter.unusedVariables false
set_option maxRecDepth 20000
open Sp

namespace Sp
/-- a table of n + 1 rows lies in block g, its rows in the blocks from h on -/
structure TB (W : World) (g h n : Nat) (T : Nat → Nat → Bool) : Prop where
  gh : g < h
  lt : h + n < W.heap.size
  top : ∀ i, i ≤ n → W.cell? ⟨g, i, none⟩ = some (.slice (some ⟨h + i, 0, none⟩) (n + 1) (n + 1))
  cell : ∀ i j, i ≤ n → j ≤ n → W.cell? ⟨h + i, j, none⟩ = some (.bool (T i j))
  froz : ∀ i j, i ≤ n → W.frozen? ⟨h + i, j, none⟩ = false
theorem TB.kept {W W' : World} {g h n : Nat} {T : Nat → Nat → Bool} (t : TB W g h n T) (hs : W.heap.size ≤ W'.heap.size) (b : ∀ k, (k = g ∨ (h ≤ k ∧ k ≤ h + n)) → W'.heap[k]? = W.heap[k]?) : TB W' g h n T :=
  ⟨t.gh, Nat.lt_of_lt_of_le t.lt hs, fun i hi => (World.cell?_of_block (a := ⟨g, i, none⟩) (b g (.inl rfl))).trans (t.top i hi),
    fun i j hi hj => (World.cell?_of_block (a := ⟨h + i, j, none⟩) (b (h + i) (.inr ⟨by omega, by omega⟩))).trans (t.cell i j hi hj),
    fun i j hi => (World.frozen?_of_block (a := ⟨h + i, j, none⟩) (b (h + i) (.inr ⟨by omega, by omega⟩))).trans (t.froz i j hi)⟩
theorem TB.below {W W' : World} {g h n : Nat} {T : Nat → Nat → Bool} (t : TB W g h n T) (b : Below W.heap.size W W') : TB W' g h n T :=
  t.kept b.size (fun k hk => b.block k (by have := t.gh; have := t.lt; omega))
theorem TB.congr {W : World} {g h n : Nat} {T T' : Nat → Nat → Bool} (t : TB W g h n T) (e : ∀ i j, i ≤ n → j ≤ n → T i j = T' i j) : TB W g h n T' :=
  ⟨t.gh, t.lt, t.top, fun i j hi hj => by rw [t.cell i j hi hj, e i j hi hj], t.froz⟩
/-- one cell is put -/
theorem TB.put {W : World} {g h n : Nat} {T : Nat → Nat → Bool} (t : TB W g h n T) {i j : Nat} (hi : i ≤ n) (hj : j ≤ n) (v : Bool) :
    TB (W.setCell ⟨h + i, j, none⟩ (.bool v)) g h n (fun a b => if a = i ∧ b = j then v else T a b) := by
  refine ⟨t.gh, by simpa using t.lt, fun a ha => ?_, fun a b ha hb => ?_, fun a b ha => by rw [World.frozen?_setCell]; exact t.froz a b ha⟩
  · rw [World.cell?_setCell_other _ _ _ _ (by intro e; have := congrArg Addr.block e; have := t.gh; simp only at *; omega)]
    exact t.top a ha
  · by_cases e : a = i ∧ b = j
    · obtain ⟨rfl, rfl⟩ := e
      rw [if_pos ⟨rfl, rfl⟩]
      exact World.cell?_setCell_same' _ _ _ (by rw [t.cell a b ha hb]; rfl)
    · rw [if_neg e, World.cell?_setCell_other _ _ _ _ (by intro e2; apply e; have h1 := congrArg Addr.block e2; have h2 := congrArg Addr.off e2; simp only at h1 h2; omega)]
      exact t.cell a b ha hb
theorem made_one (z : Value) (n j : Nat) (hj : j < n) : (madeCells #[z] n)[j]? = some z := by
  unfold madeCells
  rw [Array.getElem?_map, Array.getElem?_range, if_pos hj]
  simp [Nat.mod_one]
end Sp
theorem make_table (m : Nat) (hm : m ≤ 1000000) (w : World) : (Instr.makeSlice 50 (.int .i64 m) (.int .i64 m)).run Try.prog w = .ok (.slice (some ⟨w.heap.size, 0, none⟩) m m) (w.alloc (.cells (madeCells #[.slice none 0 0] m) 49)) :=
  run_make_row' (P := Try.prog) 50 49 (.slice none 0 0) 24 Try.underlying50 (by kernel_rfl) rfl .i64 .i64 m (by omega) (by omega) w
theorem make_bools (m : Nat) (hm : m ≤ 1000000) (w : World) : (Instr.makeSlice 49 (.int .i64 m) (.int .i64 m)).run Try.prog w = .ok (.slice (some ⟨w.heap.size, 0, none⟩) m m) (w.alloc (.cells (madeCells #[.bool false] m) 4)) :=
  run_make_row' (P := Try.prog) 49 4 (.bool false) 1 Try.underlying49 (by kernel_rfl) rfl .i64 .i64 m (by omega) (by omega) w
set_option maxHeartbeats 1000000 in
theorem blank_any (n : Nat) (hn : n ≤ 100000) (w : World) :
    Calls Try.prog 14 #[.int .i64 n] w fun e w' => e = .returned (.slice (some ⟨w.heap.size, 0, none⟩) (n + 1) (n + 1)) ∧ TB w' w.heap.size (w.heap.size + 1) n (fun _ _ => false) ∧ Below w.heap.size w w' := by
  have hmk := make_table (n + 1) (by omega)
  have hmb := make_bools (n + 1) (by omega)
  rw [show ((n + 1 : Nat) : Int) = (n : Int) + 1 by omega] at hmk hmb
  have hg : ∀ j, j ≤ n → (w.alloc (.cells (madeCells #[.slice none 0 0] (n + 1)) 49)).cell? ⟨w.heap.size, j, none⟩ = some (.slice none 0 0) := fun j hj => by
    rw [World.cell?_alloc_new]; exact made_one _ _ _ (by omega)
  have hgf : ∀ j, (w.alloc (.cells (madeCells #[.slice none 0 0] (n + 1)) 49)).frozen? ⟨w.heap.size, j, none⟩ = false := fun j => World.frozen?_alloc_new _ _ _ _
  have hb0 := (Below.refl w.heap.size w).alloc (Nat.le_refl _) (.cells (madeCells #[.slice none 0 0] (n + 1)) 49)
  obtain ⟨cs, hcs⟩ : ∃ cs, madeCells #[.slice none 0 0] (n + 1) = cs := ⟨_, rfl⟩
  obtain ⟨cb, hcb⟩ : ∃ cb, madeCells #[.bool false] (n + 1) = cb := ⟨_, rfl⟩
  have HCB : Hid (∀ j, j ≤ n → cb[j]? = some (.bool false)) := hide (fun j hj => by rw [← hcb]; exact made_one _ _ _ (by omega))
  rw [hcs] at hmk hg hgf hb0
  rw [hcb] at hmb
  clear hcs hcb
  obtain ⟨W1, hW1⟩ : ∃ W1, w.alloc (.cells cs 49) = W1 := ⟨_, rfl⟩
  have hs1 : W1.heap.size = w.heap.size + 1 := by rw [← hW1]; simp
  rw [hW1] at hg hgf hb0
  have HG := hide hg
  have HGF := hide hgf
  have HB0 := hide hb0
  have HS1 := hide hs1
  clear hg hgf hb0 hs1
  go_enter Try.func14, Try.ntmps14
  go_wp2_with fail
  clear hW1 hmk
  go_loopw [4] (fun x wr => ∃ i : Nat, x = .int .i64 i ∧ i ≤ n + 1 ∧ wr.heap.size = w.heap.size + 1 + i ∧ (∀ a, a ≤ n → ∃ v, wr.cell? ⟨w.heap.size, a, none⟩ = some v) ∧ (∀ a, wr.frozen? ⟨w.heap.size, a, none⟩ = false) ∧
      (∀ a, a < i → wr.cell? ⟨w.heap.size, a, none⟩ = some (.slice (some ⟨w.heap.size + 1 + a, 0, none⟩) (n + 1) (n + 1))) ∧ (∀ a b, a < i → b ≤ n → wr.cell? ⟨w.heap.size + 1 + a, b, none⟩ = some (.bool false)) ∧ (∀ a b, a < i → wr.frozen? ⟨w.heap.size + 1 + a, b, none⟩ = false) ∧ Below w.heap.size w wr) (fun x _ => n + 1 - (intOf x).toNat)
  case atStart =>
    exact ⟨0, rfl, by omega, by rw [unhide HS1], fun a ha => ⟨_, (unhide HG) a ha⟩, unhide HGF, fun a ha => by omega, fun a b ha => by omega, fun a b ha => by omega, unhide HB0⟩
  case round =>
    clear HG HGF HB0 HS1
    obtain ⟨i, rfl, hi, hsz, h1, h2, h3, h4, h5, h6⟩ := hrel
    have H1 := hide h1
    have H2 := hide h2
    have H3 := hide h3
    have H4 := hide h4
    have H5 := hide h5
    have H6 := hide h6
    have HSZ := hide hsz
    clear h1 h2 h3 h4 h5 h6 hsz
    by_cases hlt : i ≤ n
    · have hI : (i : Int) ≤ n := by omega
      have hI2 : (i : Int) < n + 1 := by omega
      obtain ⟨v, hv⟩ := (unhide H1) i hlt
      have hf := (unhide H2) i
      have hwl := World.block_lt_of_cell? _ _ hv
      dsimp only at hwl
      go_wp2_with fail
      have hsz := unhide HSZ
      obtain ⟨X, hX⟩ : ∃ X, (wr.setCell ⟨w.heap.size, i, none⟩ (.slice (some ⟨wr.heap.size, 0, none⟩) (n + 1) (n + 1))).alloc (.cells cb 4) = X := ⟨_, rfl⟩
      rw [hX]
      have hXs : X.heap.size = wr.heap.size + 1 := by rw [← hX]; simp
      have hXo : ∀ k, k < wr.heap.size → k ≠ w.heap.size → X.heap[k]? = wr.heap[k]? := fun k hk hne => by
        rw [← hX]
        exact (Below.heap_alloc _ _ _ (by simpa using hk)).trans (Below.heap_setCell _ _ _ _ hne)
      have hXg : ∀ a, X.cell? ⟨w.heap.size, a, none⟩ = (wr.setCell ⟨w.heap.size, i, none⟩ (.slice (some ⟨wr.heap.size, 0, none⟩) (n + 1) (n + 1))).cell? ⟨w.heap.size, a, none⟩ := fun a => by
        rw [← hX]; exact World.cell?_alloc_lt _ _ _ (by simpa using hwl)
      have hXn : ∀ b, X.cell? ⟨wr.heap.size, b, none⟩ = cb[b]? := fun b => by
        rw [← hX]
        have h := World.cell?_alloc_new (wr.setCell ⟨w.heap.size, i, none⟩ (.slice (some ⟨wr.heap.size, 0, none⟩) (n + 1) (n + 1))) cb 4 b
        rw [World.size_setCell] at h
        exact h
      have hXnf : ∀ b, X.frozen? ⟨wr.heap.size, b, none⟩ = false := fun b => by
        rw [← hX]
        have h := World.frozen?_alloc_new (wr.setCell ⟨w.heap.size, i, none⟩ (.slice (some ⟨wr.heap.size, 0, none⟩) (n + 1) (n + 1))) cb 4 b
        rw [World.size_setCell] at h
        exact h
      have hXgf : ∀ a, X.frozen? ⟨w.heap.size, a, none⟩ = false := fun a => by
        rw [← hX, World.frozen?_alloc_old _ _ _ (by show w.heap.size ≠ (wr.setCell _ _).heap.size; rw [World.size_setCell]; omega), World.frozen?_setCell]
        exact (unhide H2) a
      have hsame : (wr.setCell ⟨w.heap.size, i, none⟩ (.slice (some ⟨wr.heap.size, 0, none⟩) (n + 1) (n + 1))).cell? ⟨w.heap.size, i, none⟩ = some (.slice (some ⟨wr.heap.size, 0, none⟩) (n + 1) (n + 1)) := World.cell?_setCell_same' _ _ _ (by rw [hv]; rfl)
      have hoth : ∀ a, a ≠ i → (wr.setCell ⟨w.heap.size, i, none⟩ (.slice (some ⟨wr.heap.size, 0, none⟩) (n + 1) (n + 1))).cell? ⟨w.heap.size, a, none⟩ = wr.cell? ⟨w.heap.size, a, none⟩ := fun a ha =>
        World.cell?_setCell_other _ _ _ _ (by intro e; have := congrArg Addr.off e; simp only at this; omega)
      refine ⟨⟨i + 1, by go_num, by omega, by rw [hXs, hsz]; omega, fun a ha => ?_, hXgf, fun a ha => ?_, fun a b ha hb => ?_, fun a b ha => ?_, ?_⟩, by simp [intOf]; omega⟩
      · rw [hXg]
        by_cases e : a = i
        · rw [e]; exact ⟨_, hsame⟩
        · rw [hoth a e]; exact (unhide H1) a ha
      · rw [hXg]
        by_cases e : a = i
        · rw [e, hsame, hsz]
        · rw [hoth a e]; exact (unhide H3) a (by omega)
      · by_cases e : a = i
        · rw [e, ← hsz, hXn]; exact (unhide HCB) b hb
        · exact (World.cell?_of_block (a := ⟨w.heap.size + 1 + a, b, none⟩) (hXo (w.heap.size + 1 + a) (by omega) (by omega))).trans ((unhide H4) a b (by omega) hb)
      · by_cases e : a = i
        · rw [e, ← hsz]; exact hXnf b
        · exact (World.frozen?_of_block (a := ⟨w.heap.size + 1 + a, b, none⟩) (hXo (w.heap.size + 1 + a) (by omega) (by omega))).trans ((unhide H5) a b (by omega))
      · rw [← hX]
        exact ((unhide H6).setCell (p := ⟨w.heap.size, i, none⟩) (Nat.le_refl _) _).alloc (by rw [World.size_setCell]; omega) _
    · have hI : ¬ ((i : Int) ≤ n) := by omega
      have hin : i = n + 1 := by omega
      have hsz := unhide HSZ
      have HR : Hid (TB wr w.heap.size (w.heap.size + 1) n (fun _ _ => false)) := hide ⟨by omega, by omega, fun a ha => (unhide H3) a (by omega), fun a b ha hb => (unhide H4) a b (by omega) hb, fun a b ha => (unhide H5) a b (by omega)⟩
      clear hsz hin
      go_wp2_with fail
      go_ret
      exact ⟨rfl, unhide HR, unhide H6⟩
end Go.Proofs.Ytmgealcolofomaa
