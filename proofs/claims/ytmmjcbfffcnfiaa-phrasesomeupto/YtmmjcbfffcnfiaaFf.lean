/- The document's Hits; rows of hits compared. -/
import Derived.Test.YtmmjcbfffcnfiaaFe
namespace Go.Proofs.Ytmmjcbfffcnfiaa
open Go.RowKit Kb Go.Maps Ph
set_option linter.unusedVariables false
set_option maxRecDepth 20000

theorem kid_keep {T : List Nd} {a b : Int} {m : Nat} (h : kid T m a b ≠ 0) (d : Nat) : kid T (m + d) a b = kid T m a b := by
  induction d with
  | zero => rfl
  | succ d ih => rw [show m + (d + 1) = (m + d) + 1 by omega, kid, if_pos (by rw [ih]; exact h), ih]
theorem kid_first {T : List Nd} {a b : Int} {m : Nat} (hm : 1 ≤ m) (hl : m < T.length) (h : kid T m a b = 0) (g : (nd T m).up = a ∧ (nd T m).c = b) : Kid T a b = m := by
  have h1 : kid T (m + 1) a b = m := by rw [kid, if_neg (by omega), if_pos g]
  have h2 := kid_keep (T := T) (a := a) (b := b) (m := m + 1) (by omega) (T.length - (m + 1))
  rw [show m + 1 + (T.length - (m + 1)) = T.length by omega, h1] at h2
  exact h2

set_option maxHeartbeats 8000000 in
theorem child_any (w : World) (v : Value) (T : List Nd) (bx : Nat) (n c : Int) (hT : Tree w v T) (hbx : w.cell? ⟨bx, 0, none⟩ = some v) (hpos : 0 < T.length) (hfew : T.length ≤ 400) :
    Calls Try.prog 35 #[.int .i64 n, .int .u8 c, .pointer (some ⟨bx, 0, none⟩)] w fun e w' => e = .returned (.int .i64 (Kid T n c)) ∧ w' = w := by
  obtain ⟨g, off, cp, e0, rfl, hcp, hg, _, _, _, _, _⟩ := hT.node hpos
  have HT := hide hT
  clear hT
  go_enter Try.func35, Try.ntmps35
  go_wp2
  go_loop [6] (fun x => ∃ m : Nat, x = .int .i64 m ∧ 1 ≤ m ∧ m ≤ T.length ∧ kid T m n c = 0) (fun x => T.length - (intOf x).toNat)
  case atStart => exact ⟨1, rfl, Nat.le_refl _, hpos, by simp [kid]⟩
  case round =>
    obtain ⟨m, rfl, hm1, hm2, hkid⟩ := hrel
    have HKID := hide hkid
    clear hkid
    by_cases hlt : m < T.length
    · obtain ⟨g2, off2, cp2, e2, he, _, hg2, m0, m1, _, _, _⟩ := (unhide HT).node hlt
      cases he
      obtain ⟨mc, hmc⟩ : ∃ mc, (nd T m).c = mc := ⟨_, rfl⟩
      obtain ⟨mu, hmu⟩ : ∃ mu, (nd T m).up = mu := ⟨_, rfl⟩
      rw [hmc] at m0
      rw [hmu] at m1
      have HMC := hide hmc
      have HMU := hide hmu
      clear hmc hmu
      by_cases hu : mu = n
      · have hub : (mu == n) = true := by simp; exact hu
        by_cases hc : mc = c
        · have hcb : (mc == c) = true := by simp; exact hc
          have HE := hide (kid_first hm1 hlt (unhide HKID) ⟨(unhide HMU).trans hu, (unhide HMC).trans hc⟩)
          clear hu hc
          go_wp2
          go_ret
          exact ⟨ret_i (by rw [unhide HE]), rfl⟩
        · have hcb : (mc == c) = false := by simp; exact hc
          have HK2 : Hid (kid T (m + 1) n c = 0) := hide (kid_next (unhide HKID) (.inr (fun h => hc ((unhide HMC).symm.trans h.2))))
          clear hu hc
          go_wp2
          exact ⟨⟨m + 1, by go_num, by omega, by omega, unhide HK2⟩, by simp [intOf]; omega⟩
      · have hub : (mu == n) = false := by simp; exact hu
        have HK2 : Hid (kid T (m + 1) n c = 0) := hide (kid_next (unhide HKID) (.inr (fun h => hu ((unhide HMU).symm.trans h.1))))
        clear hu
        go_wp2
        exact ⟨⟨m + 1, by go_num, by omega, by omega, unhide HK2⟩, by simp [intOf]; omega⟩
    · obtain rfl : m = T.length := by omega
      have HE : Hid (Kid T n c = 0) := hide (unhide HKID)
      go_wp2
      go_ret
      exact ⟨ret_i (by rw [unhide HE]; rfl), rfl⟩

theorem cellsH_length (l : List Ht) : (cellsH l).length = l.length * 2 := by
  induction l with
  | nil => rfl
  | cons a r ih =>
    have : (cellsH (a :: r)).length = (cellsH r).length + 2 := by simp [cellsH]
    rw [this, ih, List.length_cons]; omega
theorem cellsH_at {l : List Ht} {j : Nat} {h : Ht} (hj : l[j]? = some h) : (cellsH l)[j * 2]? = some (.int .i64 h.1) ∧ (cellsH l)[j * 2 + 1]? = some (.int .i64 h.2) := by
  induction l generalizing j with
  | nil => simp at hj
  | cons a r ih =>
    have e : cellsH (a :: r) = .int .i64 a.1 :: .int .i64 a.2 :: cellsH r := by simp [cellsH]
    rw [e]
    cases j with
    | zero => simp at hj; subst hj; simp
    | succ j =>
      have := ih (j := j) (by simpa using hj)
      rw [show (j + 1) * 2 = j * 2 + 1 + 1 by omega]
      simpa using this
theorem own_hit {w : World} {B : Nat} {v : Value} {l : List Ht} (h : w.ownsRow B 38 2 v l.length (cellsH l)) {j : Nat} {x : Ht} (hj : l[j]? = some x) :
    ∃ g c, v = .slice (some ⟨g, 0, none⟩) l.length c ∧ w.cell? ⟨g, j * 2, none⟩ = some (.int .i64 x.1) ∧ w.cell? ⟨g, j * 2 + 1, none⟩ = some (.int .i64 x.2) := by
  have hjl : j < l.length := (List.getElem?_eq_some_iff.1 hj).1
  obtain ⟨k0, k1⟩ := cellsH_at hj
  rcases h.2 with ⟨_, h0⟩ | ⟨g, cap, cur, rfl, _, hg, hc1, hc2, hc3, hc4⟩
  · omega
  · have cl : ∀ q y, q < l.length * 2 → (cellsH l)[q]? = some y → w.cell? ⟨g, q, none⟩ = some y := by
      intro q y hq hy
      rw [← hc4, List.getElem?_take, if_pos hq] at hy
      simp only [World.cell?, hg]
      simpa using hy
    exact ⟨g, cap, rfl, cl _ _ (by omega) k0, cl _ _ (by omega) k1⟩

set_option maxHeartbeats 8000000 in
theorem equal_hits (w : World) (B C : Nat) (v u : Value) (l : List Ht) (h1 : w.ownsRow B 38 2 v l.length (cellsH l)) (h2 : w.ownsRow C 38 2 u l.length (cellsH l)) (hl : l.length ≤ 8796093022208) :
    Calls Try.prog 15 #[v, u] w fun e w' => e = .returned (.bool true) ∧ Below w.heap.size w w' := by
  obtain ⟨o1, c1, rfl, _⟩ := own_forms h1
  obtain ⟨o2, c2, rfl, _⟩ := own_forms h2
  have H1 := hide h1
  have H2 := hide h2
  clear h1 h2
  go_enter Try.func15, Try.ntmps15
  go_wp2_with fail
  go_loopw [13] (fun x wr => ∃ j : Nat, x = .int .i64 j ∧ j ≤ l.length ∧ Below w.heap.size w wr) (fun x _ => l.length - (intOf x).toNat)
  case atStart => exact ⟨0, rfl, Nat.zero_le _, Below.refl _ _⟩
  case round =>
    obtain ⟨j, rfl, hj, hb⟩ := hrel
    have HB := hide hb
    clear hb
    by_cases hlt : j < l.length
    · obtain ⟨x, hx⟩ : ∃ x, l[j]? = some x := ⟨l[j], List.getElem?_eq_getElem hlt⟩
      obtain ⟨g1, cc1, he1, a0, a1⟩ := own_hit (own_below (unhide H1) (unhide HB)) hx
      obtain ⟨g2, cc2, he2, b0, b1⟩ := own_hit (own_below (unhide H2) (unhide HB)) hx
      cases he1
      cases he2
      have hI : (j : Int) < l.length := by omega
      clear hx
      go_wp2_with fail
      go_quiet (fail)
      go_wp2
      exact ⟨⟨j + 1, by go_num, by omega, Go.below_drewN (unhide HB) _⟩, by simp [intOf]; omega⟩
    · obtain rfl : j = l.length := by omega
      go_wp2
      go_ret
      exact ⟨rfl, unhide HB⟩
end Go.Proofs.Ytmmjcbfffcnfiaa
