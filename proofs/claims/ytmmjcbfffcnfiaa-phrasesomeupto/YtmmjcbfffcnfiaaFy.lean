/- The tree of words: checkWords and Make. -/
import Derived.Test.YtmmjcbfffcnfiaaFx
namespace Go.Proofs.Ytmmjcbfffcnfiaa
open Go.RowKit Kb Ph
set_option linter.unusedVariables false
set_option maxRecDepth 20000

/-- what is wrong with words -/
def cw (ws : List ByteArray) : Int := if 30 < ws.length then 2 else if ∃ x ∈ ws, 40 < x.size then 2 else if ws.length = 0 ∨ ∃ x ∈ ws, x.size = 0 then 1 else 0
theorem cw_many {ws : List ByteArray} (h : 30 < ws.length) : cw ws = 2 := by unfold cw; rw [if_pos h]
theorem cw_long {ws : List ByteArray} {x : ByteArray} (hx : x ∈ ws) (h : 40 < x.size) : cw ws = 2 := by
  unfold cw
  by_cases h0 : 30 < ws.length
  · rw [if_pos h0]
  · rw [if_neg h0, if_pos ⟨x, hx, h⟩]
theorem cw_arg {ws : List ByteArray} (h0 : ¬ 30 < ws.length) (h1 : ∀ x ∈ ws, ¬ 40 < x.size) (h2 : ws.length = 0 ∨ ∃ x ∈ ws, x.size = 0) : cw ws = 1 := by
  unfold cw
  rw [if_neg h0, if_neg (fun ⟨x, hx, h⟩ => h1 x hx h), if_pos h2]
theorem cw_ok {ws : List ByteArray} (h0 : ¬ 30 < ws.length) (h1 : ∀ x ∈ ws, ¬ 40 < x.size) (h2 : ¬ (ws.length = 0 ∨ ∃ x ∈ ws, x.size = 0)) : cw ws = 0 := by
  unfold cw
  rw [if_neg h0, if_neg (fun ⟨x, hx, h⟩ => h1 x hx h), if_neg h2]
theorem cw_right {ws : List ByteArray} (h : cw ws = 0) : ws.length ≤ 30 ∧ ws.length ≠ 0 ∧ (∀ x ∈ ws, x.size ≤ 40) ∧ ∀ x ∈ ws, x.size ≠ 0 := by
  unfold cw at h
  by_cases h0 : 30 < ws.length
  · rw [if_pos h0] at h; cases h
  rw [if_neg h0] at h
  by_cases h1 : ∃ x ∈ ws, 40 < x.size
  · rw [if_pos h1] at h; cases h
  rw [if_neg h1] at h
  by_cases h2 : ws.length = 0 ∨ ∃ x ∈ ws, x.size = 0
  · rw [if_pos h2] at h; cases h
  exact ⟨by omega, fun e => h2 (.inl e), fun x hx => Nat.le_of_not_lt fun g => h1 ⟨x, hx, g⟩, fun x hx g => h2 (.inr ⟨x, hx, g⟩)⟩
def shr (ws : List ByteArray) : Nat → Nat
  | 0 => 40
  | k + 1 => min (shr ws k) (ws.getD k ByteArray.empty).size
theorem shr_le (ws : List ByteArray) (k : Nat) : shr ws k ≤ 40 := by
  induction k with
  | zero => exact Nat.le_refl _
  | succ k ih => rw [shr]; omega
theorem shr_zero (ws : List ByteArray) (k : Nat) : shr ws k = 0 ↔ ∃ i, i < k ∧ (ws.getD i ByteArray.empty).size = 0 := by
  induction k with
  | zero => simp [shr]
  | succ k ih =>
    rw [shr]
    constructor
    · intro h
      by_cases g : shr ws k = 0
      · obtain ⟨i, hi, he⟩ := ih.1 g; exact ⟨i, by omega, he⟩
      · exact ⟨k, by omega, by omega⟩
    · rintro ⟨i, hi, he⟩
      by_cases hik : i = k
      · subst hik; omega
      · have := ih.2 ⟨i, by omega, he⟩; omega
theorem shr_all (ws : List ByteArray) : shr ws ws.length = 0 ↔ ∃ x ∈ ws, x.size = 0 := by
  rw [shr_zero]
  constructor
  · rintro ⟨i, hi, he⟩
    exact ⟨_, by simp [List.getD, List.getElem?_eq_getElem hi], he⟩
  · rintro ⟨x, hx, he⟩
    obtain ⟨i, hi⟩ := List.mem_iff_getElem?.1 hx
    exact ⟨i, (List.getElem?_eq_some_iff.1 hi).1, by rw [List.getD, hi]; exact he⟩
set_option maxHeartbeats 4000000 in
theorem checkWords_any (w : World) (v : Value) (ws : List ByteArray) (hv : Strs w v ws) :
    Calls Try.prog 21 #[v] w fun e w' => e = .returned (.int .i64 (cw ws)) ∧ w' = w := by
  obtain ⟨o, c, rfl, hc⟩ := hv.form
  have hroom := hv.room
  have HV := hide hv
  clear hv
  go_enter Try.func21, Try.ntmps21
  by_cases h30 : 30 < ws.length
  · have hI : (ws.length : Int) > 30 := by omega
    have HC := hide (cw_many h30)
    go_wp2_with fail
    go_ret
    exact ⟨by rw [unhide HC]; rfl, rfl⟩
  have hI : ¬ ((ws.length : Int) > 30) := by omega
  go_wp2_with fail
  go_loopw [11, 3] (fun x y wr => ∃ k : Nat, x = .int .i64 k ∧ k ≤ ws.length ∧ wr = w ∧ y = .int .i64 (shr ws k) ∧ ∀ i, i < k → ¬ 40 < (ws.getD i ByteArray.empty).size) (fun x _ _ => ws.length - (intOf x).toNat)
  case atStart => exact ⟨0, rfl, Nat.zero_le _, rfl, rfl, fun i hi => by omega⟩
  case round =>
    obtain ⟨k, rfl, hk, hw, rfl, hall⟩ := hrel
    have hw := hw.symm
    subst hw
    have HALL := hide hall
    clear hall
    by_cases hlt : k < ws.length
    · obtain ⟨x, hx⟩ : ∃ x, ws[k]? = some x := ⟨ws[k], List.getElem?_eq_getElem hlt⟩
      obtain ⟨g, off, c', he, hg, hcell⟩ := (unhide HV).at_ (by intro e; rw [e] at hlt; cases hlt)
      have hload := hcell k x hx
      have hxd : ws.getD k ByteArray.empty = x := by rw [List.getD, hx]; rfl
      have hkI : (k : Int) < ws.length := by omega
      cases he
      clear hcell
      by_cases h40 : 40 < x.size
      · have HC := hide (cw_long (List.mem_of_getElem? hx) h40)
        have hxI : (x.size : Int) > 40 := by omega
        clear hx hxd
        go_wp2_with fail
        go_ret
        exact ⟨by rw [unhide HC]; rfl, rfl⟩
      · have hxI : ¬ ((x.size : Int) > 40) := by omega
        have hsl := shr_le ws k
        have HS : Hid (shr ws (k + 1) = min (shr ws k) x.size) := hide (by rw [shr, hxd])
        have HX := hide hxd
        obtain ⟨m, hm⟩ : ∃ m, shr ws k = m := ⟨_, rfl⟩
        rw [hm] at hsl HS ⊢
        clear hx hxd hm
        go_wp2_with fail
        refine ⟨⟨k + 1, by go_num, by omega, ?_⟩, by simp [intOf]; omega⟩
        refine ⟨trivial, by rw [unhide HS]; congr 1; omega, ?_⟩
        intro i hi
        by_cases hik : i = k
        · subst hik; rw [unhide HX]; exact h40
        · exact (unhide HALL) i (by omega)
    · obtain rfl : k = ws.length := by omega
      have h1 : ∀ x ∈ ws, ¬ 40 < x.size := by
        intro x hx
        obtain ⟨i, hi⟩ := List.mem_iff_getElem?.1 hx
        have := (unhide HALL) i (List.getElem?_eq_some_iff.1 hi).1
        rw [List.getD, hi] at this; exact this
      have hsa := shr_all ws
      by_cases h0 : ws.length = 0
      · have HC := hide (cw_arg h30 h1 (.inl h0))
        have hbI : ((ws.length : Int) == 0) = true := by rw [h0]; rfl
        go_wp2_with fail
        go_ret
        exact ⟨by rw [unhide HC]; rfl, rfl⟩
      · have hbI : ((ws.length : Int) == 0) = false := by rw [beq_eq_false_iff_ne]; omega
        by_cases h2 : shr ws ws.length = 0
        · have HC := hide (cw_arg h30 h1 (.inr (hsa.1 h2)))
          have hbS : ((shr ws ws.length : Int) == 0) = true := by rw [h2]; rfl
          clear hsa h2
          go_wp2_with fail
          go_ret
          exact ⟨by rw [unhide HC]; rfl, rfl⟩
        · have HC := hide (cw_ok h30 h1 (fun h => h.elim h0 (fun g => h2 (hsa.2 g))))
          have hbS : ((shr ws ws.length : Int) == 0) = false := by rw [beq_eq_false_iff_ne]; omega
          clear hsa
          go_wp2_with fail
          go_ret
          exact ⟨by rw [unhide HC]; rfl, rfl⟩

theorem fe_start {ws : List ByteArray} {T : List Nd} {at_ : List Nat} {eV : Nat → Value} (E : Nat → List Int) (h0 : nd T 0 = ⟨0, 0, 0, []⟩) (h : ∀ j, 1 ≤ j → j < T.length → (nd T j).fail = 0 ∧ (nd T j).ends = []) : memOf T eV = memOf (withFE T (ff T 0) E) eV := by
  refine mem_ext (by simp [memOf_len, withFE_len]) fun i hi => ?_
  rw [memOf_len] at hi
  rw [memOf_at hi, memFE_at hi]
  have : (nd T i).fail = 0 := by
    by_cases hi0 : i = 0
    · subst hi0; rw [h0]
    · exact (h i (by omega) hi).1
  rw [this]; rfl
theorem Wt.aw {ws : List ByteArray} {T : List Nd} {at_ : List Nat} {X : List (List UInt8)} (h : Wt ws T at_ X) (hn : ws.length ≤ 30) : Aw T.length (ff T T.length) (fun j => idx at_ j ws.length) (fun j => En ws (xt X j)) := by
  refine ⟨?_, ?_, fun i _ => le_of_lt (En_sorted _ _), fun i _ => by have := idx_len at_ i ws.length; omega, fun i _ => by have := En_len ws (xt X i); omega, ?_, ?_⟩
  · intro i hi
    by_cases h0 : i = 0
    · subst h0; rw [h.tx.ff_zero]; exact Nat.le_refl _
    · exact Nat.le_of_lt ((h.tx.fails T.length (Nat.le_refl _) i hi h0).lt h.tx)
  · intro i hi
    by_cases h0 : i = 0
    · subst h0
      unfold Ec
      rw [h.tx.ff_zero, if_neg (by omega), h.tx.x0, h.none]; dsimp only; rw [h.idx0]; exact List.Perm.refl _
    · have hf := h.tx.fails T.length (Nat.le_refl _) i hi h0
      unfold Ec
      rw [if_pos (hf.lt h.tx)]
      exact h.perm hi hf
  · intro i hi z hz
    obtain ⟨k, hk, _, rfl⟩ := idx_mem.1 hz
    omega
  · intro i hi z hz
    have := En_bounds hz
    omega
/-- what Make answers -/
def Mkd (w w' : World) (ws : List ByteArray) (e : Ending) : Prop :=
  (cw ws ≠ 0 ∧ e = .returned (.tuple #[.slice none 0 0, .int .i64 (cw ws)])) ∨
  (cw ws = 0 ∧ ∃ T at_ X lev, GI ws 40 T at_ X lev ∧ Wt ws T at_ X ∧ T.length ≤ 1201 ∧
    ((400 < T.length ∧ e = .returned (.tuple #[.slice none 0 0, .int .i64 2])) ∨ (T.length ≤ 400 ∧ ∃ x, e = .returned (.tuple #[x, .int .i64 0]) ∧ Tree w' x (made ws T X))))
set_option maxHeartbeats 4000000 in
theorem make_any (w : World) (v : Value) (ws : List ByteArray) (hv : Strs w v ws) :
    Calls Try.prog 7 #[v] w fun e w' => Below w.heap.size w w' ∧ Mkd w w' ws e := by
  have HCW := hide (checkWords_any w v ws hv)
  have HV := hide hv
  obtain ⟨o, c, rfl, hc⟩ := hv.form
  clear hv
  go_enter Try.func7, Try.ntmps7
  go_wp2_with fail
  refine (unhide HCW).mono ?_; rintro e w1 ⟨rfl, hw⟩; rw [hw]; clear hw w1
  by_cases h0 : cw ws = 0
  · obtain ⟨a1, a2, a3, a4⟩ := cw_right h0
    have HG := hide (grown_any w _ ws (unhide HV) a1 a3)
    have H0 := hide h0
    rw [h0]
    clear h0
    go_wp2_with fail
    refine (unhide HG).mono ?_; rintro e w1 ⟨x, K, rfl, T, at_, eV, hgr⟩
    obtain ⟨X, lev, hgi, hwt, hr0, hz⟩ := gi_wt hgr.gr a3 a4
    have HGI := hide hgi
    have HWT := hide hwt
    have hfew := hgr.few
    have BEL := hide hgr.bel
    by_cases h400 : 400 < T.length
    · have hI : (T.length : Int) > 400 := by omega
      obtain ⟨ox, cx, rfl⟩ := own_forms hgr.row
      clear hgr hgi hwt hz hr0
      go_wp2_with fail
      go_ret2
      exact ⟨unhide BEL, .inr ⟨unhide H0, T, at_, X, lev, unhide HGI, unhide HWT, hfew, .inl ⟨h400, rfl⟩⟩⟩
    · have hI : ¬ ((T.length : Int) > 400) := by omega
      have hpos : 0 < T.length := hwt.tx.pos
      obtain ⟨g, cap, rfl, _⟩ := own_form hgr.row hpos
      have hwf := hwt.tx.wf hfew
      have HWF := hide hwf
      have haw := hwt.aw a1
      have HSF := hide (setFails_any w1 w.heap.size K g cap T (fun j => idx at_ j ws.length) eV hwf (by rw [← fe_start (ws := ws) (at_ := at_) (fun j => idx at_ j ws.length) hr0 hz]; exact hgr.row) hgr.kids hgr.ends
        (fun j hj => ⟨by have := haw.len j hj; omega, haw.bd j hj⟩) hgr.bel.size)
      have hs1 := hgr.bel.size
      clear hgr hgi hwt hz hr0
      go_wp2_with fail
      refine (unhide HSF).mono ?_; rintro e w2 ⟨rfl, b2, row2, ends2⟩
      have hs2 : w.heap.size ≤ w2.heap.size := Nat.le_trans hs1 b2.size
      have HAE := hide (addEnds_any w2 w.heap.size g cap T (ff T T.length) (fun j => idx at_ j ws.length) (fun j => En ws (xt X j)) eV hwf haw row2 ends2 hs2)
      have BEL2 := hide ((unhide BEL).trans b2)
      clear HSF row2 ends2 b2
      go_wp2_with fail
      refine (unhide HAE).mono ?_; rintro e w3 ⟨rfl, b3, eV', row3, ends3⟩
      have BEL3 := hide ((unhide BEL2).trans b3)
      have HTR := hide (tree_of_row hwf (fun j => ff_lt2 hwf (Nat.le_refl _) j) row3 ends3 (fun j hj => ⟨by have := haw.len' j hj; omega, haw.bd' j hj⟩))
      clear HAE row3 ends3 b3 haw hwf
      go_wp2_with fail
      go_ret2
      exact ⟨unhide BEL3, .inr ⟨unhide H0, T, at_, X, lev, unhide HGI, unhide HWT, hfew, .inr ⟨by omega, _, rfl, unhide HTR⟩⟩⟩
  · have hb : (cw ws != 0) = true := by simp; exact h0
    go_wp2_with fail
    go_ret2
    exact ⟨Below.refl _ _, .inl ⟨h0, rfl⟩⟩
end Go.Proofs.Ytmmjcbfffcnfiaa
