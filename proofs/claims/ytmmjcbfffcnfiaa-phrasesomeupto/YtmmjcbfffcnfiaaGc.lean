/- Whether some word stands in a text: by search; and by the tree's hits. -/
import Derived.Test.YtmmjcbfffcnfiaaGb
import Derived.Test.YtmmjcbfffcnfiaaWf
namespace Go.Proofs.Ytmmjcbfffcnfiaa
open Go.RowKit Kb Ph
set_option linter.unusedVariables false
set_option maxRecDepth 20000

/-- whether a text stands in another one -/
def inT (s t : List UInt8) : Prop := 0 ≤ Fnd.find s t 0
instance (s t : List UInt8) : Decidable (inT s t) := by unfold inT; infer_instance
theorem inT_iff {s t : List UInt8} (ht : t ≠ []) : inT s t ↔ ∃ k, k < s.length ∧ t <:+ s.take (k + 1) := by
  unfold inT
  constructor
  · intro h
    rcases Fnd.find_spec s t 0 with ⟨g, _⟩ | ⟨j, g1, g2, g3, g4, g5⟩
    · omega
    · unfold Lib.occAt at g4
      obtain ⟨u, hu⟩ := List.isPrefixOf_iff_prefix.1 g4
      have hl := congrArg List.length hu
      rw [List.length_append, List.length_drop] at hl
      have htl := List.length_pos_iff.2 ht
      refine ⟨j + t.length - 1, by omega, ⟨s.take j, ?_⟩⟩
      rw [show j + t.length - 1 + 1 = j + t.length by omega, List.take_add, ← hu, List.take_left]
  · rintro ⟨k, hk, u, hu⟩
    rcases Fnd.find_spec s t 0 with ⟨g, h⟩ | ⟨j, g1, _⟩
    · exfalso
      have hul : u.length ≤ s.length := by
        have := congrArg List.length hu
        rw [List.length_append, List.length_take] at this; omega
      have := h u.length (by omega) hul
      have e : s = u ++ (t ++ s.drop (k + 1)) := by rw [← List.append_assoc, hu, List.take_append_drop]
      unfold Lib.occAt at this
      rw [Bool.eq_false_iff] at this
      apply this
      rw [List.isPrefixOf_iff_prefix]
      refine ⟨s.drop (k + 1), ?_⟩
      conv => rhs; rw [e]
      rw [List.drop_left]
    · omega
theorem stands_pos {ws : List ByteArray} {s : List UInt8} (k : Nat) : 0 < (stands ws s k).length ↔ ∃ j, j < k ∧ ∃ i, i < ws.length ∧ wd ws i <:+ s.take (j + 1) := by
  induction k with
  | zero => simp [stands]
  | succ k ih =>
    rw [stands, List.length_append, List.length_map]
    constructor
    · intro h
      by_cases g : 0 < (stands ws s k).length
      · obtain ⟨j, hj, r⟩ := ih.1 g; exact ⟨j, by omega, r⟩
      · have : 0 < (En ws (s.take (k + 1))).length := by omega
        obtain ⟨z, hz⟩ := List.exists_mem_of_length_pos this
        obtain ⟨i, hi, hs, _⟩ := En_mem.1 hz
        exact ⟨k, by omega, i, hi, hs⟩
    · rintro ⟨j, hj, i, hi, hs⟩
      by_cases hjk : j = k
      · subst hjk
        have := List.length_pos_of_mem (En_mem.2 ⟨i, hi, hs, rfl⟩)
        omega
      · have := ih.2 ⟨j, by omega, i, hi, hs⟩; omega
theorem any_stands {ws : List ByteArray} {s : List UInt8} (hne : ∀ x ∈ ws, x.size ≠ 0) : (ws.any fun t => decide (inT s t.data.toList)) = decide (0 < (stands ws s s.length).length) := by
  rw [Bool.eq_iff_iff, List.any_eq_true, decide_eq_true_iff, stands_pos]
  constructor
  · rintro ⟨x, hx, hd⟩
    obtain ⟨i, hi⟩ := List.mem_iff_getElem?.1 hx
    have hwd : wd ws i = x.data.toList := by rw [wd, List.getD, hi]; rfl
    obtain ⟨k, hk, hs⟩ := (inT_iff (fun e => hne x hx (by rw [← len_data, e]; rfl))).1 (of_decide_eq_true hd)
    exact ⟨k, hk, i, (List.getElem?_eq_some_iff.1 hi).1, by rw [hwd]; exact hs⟩
  · rintro ⟨k, hk, i, hi, hs⟩
    have hm : ws.getD i ByteArray.empty ∈ ws := by simp [List.getD, List.getElem?_eq_getElem hi]
    refine ⟨_, hm, decide_eq_true ((inT_iff (fun e => hne _ hm (by rw [← len_data, e]; rfl))).2 ⟨k, hk, hs⟩)⟩
theorem stands_more (ws : List ByteArray) (s m : List UInt8) (k : Nat) (hk : k ≤ s.length) : stands ws (s ++ m) k = stands ws s k := by
  induction k with
  | zero => rfl
  | succ k ih => rw [stands, stands, ih (by omega), List.take_append_of_le_length hk]
theorem stands_pre (ws : List ByteArray) (s : List UInt8) (k j : Nat) : ∃ r, stands ws s (k + j) = stands ws s k ++ r := by
  induction j with
  | zero => exact ⟨[], by simp⟩
  | succ j ih =>
    obtain ⟨r, hr⟩ := ih
    exact ⟨_, by rw [← Nat.add_assoc, stands, hr, List.append_assoc]⟩
theorem stands_app (ws : List ByteArray) (s m : List UInt8) : ∃ r, stands ws (s ++ m) (s ++ m).length = stands ws s s.length ++ r := by
  obtain ⟨r, hr⟩ := stands_pre ws (s ++ m) s.length m.length
  exact ⟨r, by rw [List.length_append, hr, stands_more ws s m _ (Nat.le_refl _)]⟩
theorem some1_any (s t : ByteArray) (m : Int) (bx : Nat) (w : World) (hs : s.size < 4294967281) (hm : w.cell? ⟨0, 0, none⟩ = some (.int .i64 m)) (hbx : w.cell? ⟨bx, 0, none⟩ = some (.string s)) :
    Calls Try.prog 19 #[.string t, .pointer (some ⟨bx, 0, none⟩)] w fun e w' => e = .returned (.bool (decide (inT s.data.toList t.data.toList))) ∧ w' = w := by
  have HF := hide (find_any s t 0 m w hs (by omega) (by omega) hm)
  unfold inT
  go_enter Try.func19, Try.ntmps19
  go_wp2_with fail
  refine (unhide HF).mono ?_; rintro e w1 ⟨rfl, hw⟩; rw [hw]; clear hw w1
  go_wp2_with fail
  go_ret
  exact ⟨rfl, rfl⟩
set_option maxHeartbeats 2000000 in
theorem indexF_any (s : ByteArray) (m : Int) (bx : Nat) (w : World) (v : Value) (ws : List ByteArray) (hs : s.size < 4294967281) (hm : w.cell? ⟨0, 0, none⟩ = some (.int .i64 m)) (hbx : w.cell? ⟨bx, 0, none⟩ = some (.string s)) (hv : Strs w v ws) :
    Calls Try.prog 36 #[v, .func (.func 19) #[] #[.pointer (some ⟨bx, 0, none⟩)]] w fun e w' => ∃ z : Int, e = .returned (.int .i64 z) ∧ w' = w ∧ decide (0 ≤ z) = (ws.any fun t => decide (inT s.data.toList t.data.toList)) := by
  obtain ⟨o, c, rfl, hc⟩ := hv.form
  have hroom := hv.room
  have HV := hide hv
  have HC := hide (fun t => some1_any s t m bx w hs hm hbx)
  clear hv hm hbx
  go_enter Try.func36, Try.ntmps36
  go_wp2_with fail
  go_loopw [8] (fun x wr => ∃ k : Nat, x = .int .i64 k ∧ k ≤ ws.length ∧ wr = w ∧ ∀ i x, i < k → ws[i]? = some x → ¬ inT s.data.toList x.data.toList) (fun x _ => ws.length - (intOf x).toNat)
  case atStart => exact ⟨0, rfl, Nat.zero_le _, rfl, fun i x hi => by omega⟩
  case round =>
    obtain ⟨k, rfl, hk, hw, hall⟩ := hrel
    have hw := hw.symm
    subst hw
    have HALL := hide hall
    clear hall
    by_cases hlt : k < ws.length
    · obtain ⟨x, hx⟩ : ∃ x, ws[k]? = some x := ⟨ws[k], List.getElem?_eq_getElem hlt⟩
      obtain ⟨g, off, c', he, hg, hcell⟩ := (unhide HV).at_ (by intro e; rw [e] at hlt; cases hlt)
      have hload := hcell k x hx
      have hkI : (k : Int) < ws.length := by omega
      have HX := hide hx
      cases he
      clear hcell hx
      go_wp2_with fail
      refine ((unhide HC) x).mono ?_; rintro e w1 ⟨rfl, hw⟩; rw [hw]; clear hw w1
      by_cases hin : inT s.data.toList x.data.toList
      · rw [decide_eq_true hin]
        have HA : Hid ((ws.any fun t => decide (inT s.data.toList t.data.toList)) = true) := hide (List.any_eq_true.2 ⟨x, List.mem_of_getElem? (unhide HX), decide_eq_true hin⟩)
        go_wp2_with fail
        go_ret
        exact ⟨k, rfl, rfl, by rw [unhide HA]; simp⟩
      · rw [decide_eq_false hin]
        go_wp2_with fail
        refine ⟨⟨k + 1, by go_num, by omega, ?_⟩, by simp [intOf]; omega⟩
        refine ⟨trivial, ?_⟩
        intro i y hi hy
        by_cases hik : i = k
        · subst hik; rw [unhide HX] at hy; cases hy; exact hin
        · exact (unhide HALL) i y (by omega) hy
    · obtain rfl : k = ws.length := by omega
      have HA : Hid ((ws.any fun t => decide (inT s.data.toList t.data.toList)) = false) := hide (by
        rw [Bool.eq_false_iff]; intro h
        obtain ⟨x, hx, hd⟩ := List.any_eq_true.1 h
        obtain ⟨i, hi⟩ := List.mem_iff_getElem?.1 hx
        exact (unhide HALL) i x (List.getElem?_eq_some_iff.1 hi).1 hi (of_decide_eq_true hd))
      go_wp2_with fail
      go_ret
      exact ⟨-1, rfl, rfl, by rw [unhide HA]; simp⟩
theorem containsF_any (s : ByteArray) (m : Int) (bx : Nat) (w : World) (v : Value) (ws : List ByteArray) (hs : s.size < 4294967281) (hm : w.cell? ⟨0, 0, none⟩ = some (.int .i64 m)) (hbx : w.cell? ⟨bx, 0, none⟩ = some (.string s)) (hv : Strs w v ws) :
    Calls Try.prog 18 #[v, .func (.func 19) #[] #[.pointer (some ⟨bx, 0, none⟩)]] w fun e w' => e = .returned (.bool (ws.any fun t => decide (inT s.data.toList t.data.toList))) ∧ w' = w := by
  have HI := hide (indexF_any s m bx w v ws hs hm hbx hv)
  obtain ⟨o, c, rfl, hc⟩ := hv.form
  clear hv hm hbx
  go_enter Try.func18, Try.ntmps18
  go_wp2_with fail
  refine (unhide HI).mono ?_; rintro e w1 ⟨z, rfl, hw, hz⟩; rw [hw]; clear hw w1
  have HZ := hide hz
  clear hz HI
  go_wp2_with fail
  go_ret
  exact ⟨by rw [← unhide HZ]; rfl, rfl⟩
end Go.Proofs.Ytmmjcbfffcnfiaa
