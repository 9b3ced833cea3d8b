/- Lists of numbers one behind the other: slices.Concat. -/
import Derived.Test.YtmmjcbfffcnfiaaFv
import Derived.Test.YtmmjcbfffcnfiaaGw
import Derived.Laws.AppendOwnNone
namespace Go.Proofs.Ytmmjcbfffcnfiaa
open Go.RowKit Kb Ph
set_option linter.unusedVariables false
set_option maxRecDepth 20000

theorem grow_nil (w : World) (n : Nat) (hn : n ≤ 100000) :
    Calls Try.prog 47 #[.slice none 0 0, .int .i64 n] w fun e w' => ∃ v, e = .returned v ∧ Below w.heap.size w w' ∧ w'.ownsRow w.heap.size 3 1 v 0 [] := by
  obtain ⟨i0, hi, hz0, hz1, hz2⟩ := info_parts infoI64
  by_cases h0 : n = 0
  · subst h0
    refine (Any8.slices_Grow_room Try.grow47 none 0 0 0 w (Nat.le_refl _) (by omega) (by omega) (by omega)).mono ?_
    rintro e w' ⟨rfl, rfl⟩
    exact ⟨_, rfl, Below.refl _ _, World.ownsRow_nil _ _ _ _⟩
  · refine (Any8.slices_Grow_grow Try.grow47 i0 (.int .i64 0) hi hz0 (by rw [hz1]; omega) none 0 0 n [] w (Nat.le_refl _) (by omega) (by rw [hz2]; omega) (by omega) (by simp) (fun _ => rfl) (fun a h => by cases h)).mono ?_
    rintro e w' ⟨rfl, rfl⟩
    have hge := grownCap_ge w (0 + n) 0 3
    obtain ⟨k, hk⟩ : ∃ k, grownCap w (0 + n) 0 3 = k := ⟨_, rfl⟩
    obtain ⟨cur, hcur⟩ : ∃ cur, ([] : List Value).toArray ++ Builtin.zeroCells (Value.int .i64 0).cells (0 + n - 0) ++ Builtin.zeroCells (Value.int .i64 0).cells (k - (0 + n)) = cur := ⟨_, rfl⟩
    have hcl : cur.size = k * 1 := by
      rw [← hcur]; simp only [Array.size_append, size_zeroCells, List.size_toArray, List.length_nil]
      rw [show (Value.int .i64 0).cells.size = 1 from rfl]; omega
    refine ⟨.slice (some ⟨w.heap.size, 0, none⟩) 0 k, by rw [← hk]; rfl, ((Below.refl _ _).drew).alloc (Nat.le_refl _) _, rfl, .inr ⟨w.heap.size, k, cur, rfl, Nat.le_refl _, ?_, Nat.zero_le _, ?_, hcl, rfl⟩⟩
    · rw [show Try.grow47_ren.t 25 = 3 from rfl, hk, hcur]
      show (w.heap.push (.cells cur 3 (0, 0)))[w.heap.size]? = _
      simp
    · rw [← hk]; exact grownCap_le_maxLen _ _ _ _ (by unfold maxLen; omega)

def catN (ls : Nat → List Int) : Nat → List Int
  | 0 => []
  | i + 1 => catN ls i ++ ls i
theorem one_cells (l : List Int) : ∀ u ∈ cellsZ l, u.oneCell' = true := by
  intro u hu
  obtain ⟨z, _, rfl⟩ := List.mem_map.1 hu
  rfl
theorem add_addr (g off j : Nat) : (⟨g, off, none⟩ : Addr).add j = ⟨g, off + j, none⟩ := by
  simp only [Addr.add]
  split
  · rename_i h; rw [h]; rfl
  · rfl
set_option maxHeartbeats 4000000 in
theorem concat_any (w : World) (g : Nat) (vs : Nat → Value) (ls : Nat → List Int) (hg : g < w.heap.size) (hc : ∀ j, j < 2 → w.cell? ⟨g, j, none⟩ = some (vs j)) (hv : ∀ j, j < 2 → Ints w (vs j) (ls j)) (hl : ∀ j, j < 2 → (ls j).length ≤ 1000) :
    Calls Try.prog 39 #[.slice (some ⟨g, 0, none⟩) 2 2] w fun e w' => ∃ v, e = .returned v ∧ Below w.heap.size w w' ∧ w'.ownsRow w.heap.size 3 1 v (ls 0 ++ ls 1).length (cellsZ (ls 0 ++ ls 1)) := by
  obtain ⟨i0, hi, hz0, hz1, hz2⟩ := info_parts infoI64
  have HC := hide hc
  have HV := hide hv
  have HL := hide hl
  have hcl : ∀ j, j ≤ 2 → (catN ls j).length ≤ j * 1000 := by
    intro j
    induction j with
    | zero => simp [catN]
    | succ j ih => intro h; have := hl j (by omega); have := ih (by omega); rw [catN, List.length_append]; omega
  have HCL := hide hcl
  clear hc hv hl hcl
  go_enter Try.func39, Try.ntmps39
  go_wp2_with fail
  go_loopw [11, 3] (fun x y wr => ∃ i : Nat, x = .int .i64 i ∧ i ≤ 2 ∧ wr = w ∧ y = .int .i64 (catN ls i).length) (fun x _ _ => 2 - (intOf x).toNat)
  case atStart => exact ⟨0, rfl, by omega, rfl, rfl⟩
  case round =>
    obtain ⟨i, rfl, hi2, hw, rfl⟩ := hrel
    have hw := hw.symm
    subst hw
    by_cases hlt : i < 2
    · have hload := (unhide HC) i hlt
      obtain ⟨o, c, hvi, _⟩ := ((unhide HV) i hlt).form
      rw [hvi] at hload
      have HVI := hide hvi
      have h1 := (unhide HL) i hlt
      have h2 := (unhide HCL) i hi2
      have HE : Hid ((catN ls (i + 1)).length = (catN ls i).length + (ls i).length) := hide (by rw [catN, List.length_append])
      obtain ⟨m, hm⟩ : ∃ m, (ls i).length = m := ⟨_, rfl⟩
      obtain ⟨n, hn⟩ : ∃ n, (catN ls i).length = n := ⟨_, rfl⟩
      rw [hm] at hload h1 HE
      rw [hn] at h2 HE ⊢
      have hneg : ¬ ((n : Int) + m < 0) := Int.not_lt.2 (Int.add_nonneg (Int.natCast_nonneg _) (Int.natCast_nonneg _))
      clear hm hn hvi
      go_wp2_with fail
      refine ⟨⟨i + 1, by go_num, by omega, trivial, by rw [unhide HE, Int.natCast_add]⟩, by simp [intOf]; omega⟩
    · obtain rfl : i = 2 := by omega
      have hcl2 := (unhide HCL) 2 (Nat.le_refl _)
      have HG := hide (grow_nil w (catN ls 2).length (by omega))
      go_wp2_with fail
      refine (unhide HG).mono ?_; rintro e w1 ⟨v1, rfl, b1, own1⟩
      have BEL := hide b1
      have OWN := hide own1
      clear b1 own1 HG
      go_wp2_with fail
      go_loopw [27, 6] (fun x y wr => ∃ j : Nat, x = .int .i64 j ∧ j ≤ 2 ∧ Below w.heap.size w wr ∧ wr.ownsRow w.heap.size 3 1 y (catN ls j).length (cellsZ (catN ls j))) (fun x _ _ => 2 - (intOf x).toNat)
      case atStart => exact ⟨0, rfl, by omega, unhide BEL, unhide OWN⟩
      case round =>
        clear BEL OWN
        obtain ⟨j, rfl, hj2, hbel, hown⟩ := hrel
        have BEL := hide hbel
        have OWN := hide hown
        have hsz := hbel.size
        clear hbel hown
        by_cases hlt : j < 2
        · have hload := cell_below ((unhide HC) j hlt) hg (unhide BEL)
          have h1 := (unhide HL) j hlt
          have h2 := (unhide HCL) j hj2
          have HE : Hid (catN ls (j + 1) = catN ls j ++ ls j) := hide rfl
          have HI := hide (((unhide HV) j hlt).below (unhide BEL))
          have hsort := (unhide HI).sort_
          obtain ⟨vj, hvj⟩ : ∃ v, vs j = v := ⟨_, rfl⟩
          obtain ⟨lj, hlj⟩ : ∃ l, ls j = l := ⟨_, rfl⟩
          obtain ⟨lc, hlc⟩ : ∃ l, catN ls j = l := ⟨_, rfl⟩
          rw [hvj] at hload HI hsort
          rw [hlj] at h1 HE HI hsort
          rw [hlc] at h2 HE OWN
          clear hvj hlj hlc
          have hj2000 : lc.length ≤ 2000 := by omega
          rcases hsort with rfl | ⟨ad, c, rfl⟩
          · have hnil : lj = [] := by
              obtain ⟨o', c', he, _⟩ := (unhide HI).form
              cases lj with
              | nil => rfl
              | cons => simp at he
            subst hnil
            go_wp2_with (at_builtin; refine wpList_append_own_none rfl _ _ 55 rfl w.heap.size 3 i0 1 Try.underlying55 hi _ lc.length (cellsZ lc) rfl (unhide OWN) rfl ?_)
            refine ⟨⟨j + 1, by go_num, by omega, unhide BEL, by rw [unhide HE, List.append_nil]; exact unhide OWN⟩, by simp [intOf]; omega⟩
          · have hnews : ∀ k u, (cellsZ lj)[k]? = some u → wr.cell? (ad.add k) = some u := by
              intro k u hk
              have hkl : k < lj.length := by have := (List.getElem?_eq_some_iff.1 hk).1; simpa [cellsZ] using this
              obtain ⟨g', off, c', he, hg', hcell⟩ := (unhide HI).at_ (by intro e; rw [e] at hkl; cases hkl)
              cases he
              rw [cellsZ, List.getElem?_map, List.getElem?_eq_getElem hkl] at hk
              cases hk
              rw [add_addr]; exact hcell k _ (List.getElem?_eq_getElem hkl)
            have HNW := hide hnews
            clear hnews
            have b3 : lc.length + lj.length ≤ maxLen := by unfold maxLen; omega
            have b4 : (lc.length + lj.length) * 8 ≤ 140737488355328 := by omega
            go_wp2_with (at_builtin; refine wpList_append_own _ rfl _ _ 55 rfl w.heap.size 3 i0 (.int .i64 0) 1 8 Try.underlying55 hi hz0 hz1 hz2 rfl (by decide) _ lc.length (cellsZ lc) rfl (unhide OWN) ad lj.length c (cellsZ lj) rfl (by simp [cellsZ]) (unhide HNW) (one_cells lj) b3 b4 hsz ?_; intro v5 w5 own5 grow5 _)
            refine ⟨⟨j + 1, by go_num, by omega, (unhide BEL).grown grow5 hsz (own_lt (unhide OWN)), by rw [unhide HE, List.length_append, cellsZ_append]; exact own5⟩, by simp [intOf]; omega⟩
        · obtain rfl : j = 2 := by omega
          have HE : Hid (catN ls 2 = ls 0 ++ ls 1) := hide (by simp [catN])
          go_wp2_with fail
          go_ret
          exact ⟨_, rfl, unhide BEL, by rw [← unhide HE]; exact unhide OWN⟩
end Go.Proofs.Ytmmjcbfffcnfiaa
