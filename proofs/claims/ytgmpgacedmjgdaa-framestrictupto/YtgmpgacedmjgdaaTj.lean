/- Walk: slices.Clone of fields. -/
import Derived.Test.YtgmpgacedmjgdaaTy
import Derived.Test.YtgmpgacedmjgdaaMe
import Derived.WalkSpells
import Derived.Lib.BufferMore
namespace Go.Proofs.Ytgmpgacedmjgdaa
open Go.RowKit Kb
set_option linter.unusedVariables false
set_option maxRecDepth 20000
open Mh (Fl)

theorem cellsF_one (l : List Fl) : ∀ u ∈ cellsF l, u.oneCell' = true := by
  intro u hu
  unfold cellsF at hu
  obtain ⟨f, _, hf⟩ := List.mem_flatMap.1 hu
  simp at hf
  rcases hf with rfl | rfl <;> rfl
theorem Flds.cells {w : World} {v : Value} {fs : List Fl} (h : Flds w v fs) (hne : fs ≠ []) : ∃ g off c, v = .slice (some ⟨g, off, none⟩) fs.length c ∧ g < w.heap.size ∧ ∀ j u, (cellsF fs)[j]? = some u → w.cell? ⟨g, off + j, none⟩ = some u := by
  obtain ⟨g, off, c, h1, h2, h3⟩ := h.at_ hne
  refine ⟨g, off, c, h1, h2, fun j u hj => ?_⟩
  have hl : j < (cellsF fs).length := (List.getElem?_eq_some_iff.1 hj).1
  rw [cellsF_len] at hl
  obtain ⟨f, hf⟩ : ∃ f, fs[j / 2]? = some f := ⟨fs[j / 2]'(by omega), List.getElem?_eq_getElem (by omega)⟩
  obtain ⟨e0, e1⟩ := cellsF_at hf
  obtain ⟨c0, c1⟩ := h3 _ f hf
  rcases Nat.mod_two_eq_zero_or_one j with h0 | h0
  · have ej : j / 2 * 2 = j := by omega
    rw [ej] at e0 c0
    rw [hj] at e0
    rw [c0, ← Option.some.inj e0]
  · have ej : j / 2 * 2 + 1 = j := by omega
    rw [ej] at e1
    rw [Nat.add_assoc, ej] at c1
    rw [hj] at e1
    rw [c1, ← Option.some.inj e1]
set_option maxHeartbeats 4000000 in
theorem cloneF_any (w : World) (v : Value) (fs : List Fl) (hu : Flds w v fs) (hl : fs.length ≤ 1099511627776) :
    Calls Try.prog 12 #[v] w fun e w' => ∃ v', e = .returned v' ∧ Below w.heap.size w w' ∧ w'.ownsRow w.heap.size 45 2 v' fs.length (cellsF fs) := by
  obtain ⟨i0, hi, hz0, hz1, hz2⟩ := info_parts infoF
  obtain ⟨o, c, hv, hlc⟩ := hu.form
  cases o with
  | none =>
    have hnil : fs = [] := Classical.byContradiction fun hne => by
      obtain ⟨g, off, c', h1, _⟩ := hu.at_ hne
      rw [hv] at h1; cases h1
    subst hnil
    subst hv
    clear hu
    simp only [List.length_nil] at *
    go_enter Try.func12, Try.ntmps12
    have heq : ∀ W, (binOp .eql 37 (.slice none 0 c) (.slice none 0 0)).run Try.prog W = .ok (.bool true) W := fun W => run_eql_nil_slice W _ _ none 0 0 0 c Try.underlying37
    go_wp2_with fail
    go_ret
    exact ⟨_, rfl, Below.refl _ _, World.ownsRow_nil _ _ _ _⟩
  | some ad =>
    have hlen := cellsF_len fs
    have hnews' : ∀ (j : Nat) (u : Value), (cellsF fs)[j]? = some u → (w.alloc (.cells #[] 45)).cell? (ad.add j) = some u := by
      intro j u hj
      have hne : fs ≠ [] := fun e => by subst e; simp [cellsF] at hj
      obtain ⟨g, off, c', h1, hgl, h3⟩ := hu.cells hne
      rw [hv] at h1
      cases h1
      rw [Addr.add_lit]; exact cell_below (h3 j u hj) hgl ((Below.refl _ _).alloc (Nat.le_refl _) _)
    have HN := hide hnews'
    have OWN := hide (World.ownsRow_lit (e := 45) (size := 2) w #[] 0 (Nat.le_refl w.heap.size) (by unfold maxLen; omega) rfl)
    have B0 := hide ((Below.refl w.heap.size w).alloc (Nat.le_refl _) (.cells #[] 45))
    have hone := cellsF_one fs
    obtain ⟨L, hL⟩ : ∃ L, cellsF fs = L := ⟨_, rfl⟩
    obtain ⟨n, hn⟩ : ∃ n, fs.length = n := ⟨_, rfl⟩
    rw [hL] at HN hone hlen ⊢
    rw [hn] at hlen hv hl ⊢
    subst hv
    have HO := hide hone
    have HLEN := hide hlen
    clear hu hnews' hone hlen hL hn hlc
    have heq : ∀ W, (binOp .eql 37 (.slice (some ad) n c) (.slice none 0 0)).run Try.prog W = .ok (.bool false) W := fun W => Go.Lib.run_eql_slice_some_nil W ad n c Try.underlying37
    have b3 : 0 + n ≤ maxLen := by unfold maxLen; omega
    have b4 : (0 + n) * 32 ≤ 140737488355328 := by omega
    go_enter Try.func12, Try.ntmps12
    go_wp2_with (at_builtin; go_loud (
                 refine wpList_append_own_at _ rfl _ _ 37 rfl w.heap.size 45 i0 _ 2 32 Try.underlying37 hi hz0 hz1 hz2 rfl (by decide) _ 0 [] rfl (unhide OWN) ad n c L rfl (unhide HLEN) (unhide HN) (unhide HO) b3 b4 (unhide B0).size ?_; intro v1 w1 own1 grow1 _ hat))
    go_ret
    refine ⟨v1, rfl, (unhide B0).grown grow1 (unhide B0).size (own_lt (unhide OWN)), ?_⟩
    rw [Nat.zero_add, List.nil_append] at own1
    exact own1
end Go.Proofs.Ytgmpgacedmjgdaa
