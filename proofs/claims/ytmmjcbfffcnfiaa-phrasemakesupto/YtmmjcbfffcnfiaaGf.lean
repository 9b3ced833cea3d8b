/- The document's Phrases, ends, and At from the first byte on. -/
import Derived.Test.YtmmjcbfffcnfiaaGd
namespace Go.Proofs.Ytmmjcbfffcnfiaa
open Go.RowKit Kb Ph
set_option linter.unusedVariables false
set_option maxRecDepth 20000

theorem suf_all {s x : ByteArray} {a : Nat} (h : a + x.size = s.size) : x.data.toList <:+ s.data.toList ↔ ((s.extract a s.size).toList == x.toList) = true := by
  have := suf_take (s := s) (x := x) (a := a) (by omega)
  rw [h, Kb.take_all s s.size (Nat.le_refl _)] at this
  exact this
set_option maxHeartbeats 1000000 in
theorem ends_any (s x : ByteArray) (w : World) (hs : s.size ≤ 1048576) (hx : x.size ≤ 1048576) :
    Calls Try.prog 27 #[.string s, .string x] w fun e w' => e = .returned (.bool (decide (x.data.toList <:+ s.data.toList))) ∧ w' = w := by
  by_cases h : x.size ≤ s.size
  · obtain ⟨a, ha⟩ : ∃ a, a + x.size = s.size := ⟨s.size - x.size, by omega⟩
    have hiff := suf_all ha
    have hsub : (s.size : Int) - x.size = a := by omega
    have hI : (x.size : Int) ≤ s.size := by omega
    have haI : (a : Int) ≤ s.size := by omega
    clear ha
    by_cases hm : ((s.extract a s.size).toList == x.toList) = true
    · have HR := hide (hiff.2 hm)
      clear hiff
      go_enter Try.func27, Try.ntmps27
      go_wp2
      go_ret
      exact ⟨by rw [decide_eq_true (unhide HR)]; rfl, rfl⟩
    · have HR := hide (fun h => hm (hiff.1 h))
      have hm := Bool.eq_false_iff.2 hm
      clear hiff
      go_enter Try.func27, Try.ntmps27
      go_wp2
      go_ret
      exact ⟨by rw [decide_eq_false (unhide HR)]; rfl, rfl⟩
  · have HR : Hid (¬ x.data.toList <:+ s.data.toList) := hide (fun g => by have := g.length_le; simp at this; omega)
    have hI : ¬ ((x.size : Int) ≤ s.size) := by omega
    go_enter Try.func27, Try.ntmps27
    go_wp2
    go_ret
    exact ⟨by rw [decide_eq_false (unhide HR)]; rfl, rfl⟩
/-- is a text the beginning of another one? -/
def pfx (t s : List UInt8) : Bool := t.isPrefixOf s
theorem pre_all {s x : ByteArray} : pfx x.data.toList s.data.toList = true ↔ ((s.extract 0 x.size).toList == x.toList) = true := by
  unfold pfx
  rw [List.isPrefixOf_iff_prefix, beq_iff_eq, Lib.extract_toList, ByteArray.toList_eq, List.drop_zero, Nat.sub_zero, List.prefix_iff_eq_take]
  have : x.data.toList.length = x.size := by simp
  rw [this]
  exact ⟨fun h => h.symm, fun h => h.symm⟩
set_option maxHeartbeats 1000000 in
theorem at0_any (s x : ByteArray) (w : World) (hs : s.size ≤ 1048576) (hx : x.size ≤ 1048576) :
    Calls Try.prog 25 #[.string s, .int .i64 0, .string x] w fun e w' => e = .returned (.bool (pfx x.data.toList s.data.toList)) ∧ w' = w := by
  have hiff := pre_all (s := s) (x := x)
  by_cases h : x.size ≤ s.size
  · have hI : (x.size : Int) ≤ s.size := by omega
    by_cases hm : ((s.extract 0 x.size).toList == x.toList) = true
    · have HR := hide (hiff.2 hm)
      clear hiff
      go_enter Try.func25, Try.ntmps25
      go_wp2
      go_ret
      exact ⟨by rw [unhide HR]; rfl, rfl⟩
    · have HR := hide (Bool.eq_false_iff.2 fun h => hm (hiff.1 h))
      have hm := Bool.eq_false_iff.2 hm
      clear hiff
      go_enter Try.func25, Try.ntmps25
      go_wp2
      go_ret
      exact ⟨by rw [unhide HR]; rfl, rfl⟩
  · have HR : Hid (pfx x.data.toList s.data.toList = false) := hide (Bool.eq_false_iff.2 fun g => by have := (List.isPrefixOf_iff_prefix.1 g).length_le; simp at this; omega)
    have hI : ¬ ((x.size : Int) ≤ s.size) := by omega
    clear hiff
    go_enter Try.func25, Try.ntmps25
    go_wp2
    go_ret
    exact ⟨by rw [unhide HR]; rfl, rfl⟩
set_option maxHeartbeats 4000000 in
theorem phrases_any (w : World) (v : Value) (ws : List ByteArray) (hv : Strs w v ws) :
    Calls Try.prog 8 #[v] w fun e w' => e = .returned (.int .i64 (cw ws)) ∧ w' = w := by
  obtain ⟨o, c, rfl, hc⟩ := hv.form
  have hroom := hv.room
  have HV := hide hv
  clear hv
  go_enter Try.func8, Try.ntmps8
  by_cases h30 : 30 < ws.length
  · have hI : (ws.length : Int) > 30 := by omega
    have HC := hide (cw_many h30)
    go_wp2_with fail
    go_ret
    exact ⟨by rw [unhide HC]; rfl, rfl⟩
  have hI : ¬ ((ws.length : Int) > 30) := by omega
  go_wp2_with fail
  go_loopw [3] (fun x wr => ∃ k : Nat, x = .int .i64 k ∧ k ≤ ws.length ∧ wr = w ∧ ∀ i, i < k → ¬ 40 < (ws.getD i ByteArray.empty).size) (fun x _ => ws.length - (intOf x).toNat)
  case atStart => exact ⟨0, rfl, Nat.zero_le _, rfl, fun i hi => by omega⟩
  case round =>
    obtain ⟨k, rfl, hk, hw, hall⟩ := hrel
    have hw := hw.symm
    subst hw
    have HALL := hide hall
    clear hall
    by_cases hlt : k < ws.length
    · obtain ⟨x, hx⟩ : ∃ x, ws[k]? = some x := ⟨ws[k], List.getElem?_eq_getElem hlt⟩
      obtain ⟨g, off, c', he, hg, hcell⟩ := (unhide HV).at_ (by intro e; rw [e] at hlt; cases hlt)
      have hload := hcell k x hx
      have hxd : ws.getD k ByteArray.empty = x := by rw [List.getD, hx]; rfl
      have hkI : (k : Int) < ws.length := by omega
      cases he
      clear hcell
      by_cases h40 : 40 < x.size
      · have HC := hide (cw_long (List.mem_of_getElem? hx) h40)
        have hxI : (x.size : Int) > 40 := by omega
        clear hx hxd
        go_wp2_with fail
        go_ret
        exact ⟨by rw [unhide HC]; rfl, rfl⟩
      · have hxI : ¬ ((x.size : Int) > 40) := by omega
        have HX := hide hxd
        clear hx hxd
        go_wp2_with fail
        refine ⟨⟨k + 1, by go_num, by omega, ?_⟩, by simp [intOf]; omega⟩
        refine ⟨trivial, ?_⟩
        intro i hi
        by_cases hik : i = k
        · subst hik; rw [unhide HX]; exact h40
        · exact (unhide HALL) i (by omega)
    · obtain rfl : k = ws.length := by omega
      have h1 : ∀ x ∈ ws, ¬ 40 < x.size := by
        intro x hx
        obtain ⟨i, hi⟩ := List.mem_iff_getElem?.1 hx
        have := (unhide HALL) i (List.getElem?_eq_some_iff.1 hi).1
        rw [List.getD, hi] at this; exact this
      have H1 := hide h1
      clear h1 HALL
      go_wp2_with fail
      go_loopw [4] (fun x wr => ∃ k : Nat, x = .int .i64 k ∧ k ≤ ws.length ∧ wr = w ∧ ∀ i, i < k → (ws.getD i ByteArray.empty).size ≠ 0) (fun x _ => ws.length - (intOf x).toNat)
      case atStart => exact ⟨0, rfl, Nat.zero_le _, rfl, fun i hi => by omega⟩
      case round =>
        obtain ⟨k, rfl, hk, hw, hall⟩ := hrel
        have hw := hw.symm
        subst hw
        have HALL := hide hall
        clear hall
        by_cases hlt : k < ws.length
        · obtain ⟨x, hx⟩ : ∃ x, ws[k]? = some x := ⟨ws[k], List.getElem?_eq_getElem hlt⟩
          obtain ⟨g, off, c', he, hg, hcell⟩ := (unhide HV).at_ (by intro e; rw [e] at hlt; cases hlt)
          have hload := hcell k x hx
          have hxd : ws.getD k ByteArray.empty = x := by rw [List.getD, hx]; rfl
          have hkI : (k : Int) < ws.length := by omega
          cases he
          clear hcell
          by_cases h0 : x.size = 0
          · have HC := hide (cw_arg h30 (unhide H1) (.inr ⟨x, List.mem_of_getElem? hx, h0⟩))
            have hxe : x = ⟨#[]⟩ := eq_of_lists (List.length_eq_zero_iff.1 (by simpa using h0))
            subst hxe
            clear hx hxd h0
            go_wp2_with fail
            go_ret
            exact ⟨by rw [unhide HC]; rfl, rfl⟩
          · have hbe : (x.toList == []) = false := str_fl (l := []) (by intro e; rw [e] at h0; exact h0 rfl)
            have hie : x.toList.isEmpty = false := by
              rcases hl : x.toList with _ | ⟨_, _⟩
              · rw [hl] at hbe; cases hbe
              · rfl
            have HX := hide hxd
            have H0 := hide h0
            clear hx hxd h0
            go_wp2_with fail
            refine ⟨⟨k + 1, by go_num, by omega, ?_⟩, by simp [intOf]; omega⟩
            refine ⟨trivial, ?_⟩
            intro i hi
            by_cases hik : i = k
            · subst hik; rw [unhide HX]; exact unhide H0
            · exact (unhide HALL) i (by omega)
        · obtain rfl : k = ws.length := by omega
          have h2 : ¬ ∃ x ∈ ws, x.size = 0 := by
            rintro ⟨x, hx, h0⟩
            obtain ⟨i, hi⟩ := List.mem_iff_getElem?.1 hx
            have := (unhide HALL) i (List.getElem?_eq_some_iff.1 hi).1
            rw [List.getD, hi] at this; exact this h0
          by_cases h0 : ws.length = 0
          · have HC := hide (cw_arg h30 (unhide H1) (.inl h0))
            have hbI : ((ws.length : Int) == 0) = true := by rw [h0]; rfl
            go_wp2_with fail
            go_ret
            exact ⟨by rw [unhide HC]; rfl, rfl⟩
          · have HC := hide (cw_ok h30 (unhide H1) (fun h => h.elim h0 h2))
            have hbI : ((ws.length : Int) == 0) = false := by rw [beq_eq_false_iff_ne]; omega
            go_wp2_with fail
            go_ret
            exact ⟨by rw [unhide HC]; rfl, rfl⟩
end Go.Proofs.Ytmmjcbfffcnfiaa
