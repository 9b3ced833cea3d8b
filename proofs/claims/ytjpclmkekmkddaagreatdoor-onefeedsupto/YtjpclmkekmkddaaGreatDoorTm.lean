/- Walks: chunks read, the document's: newline, Chunks. -/
import Derived.Test.YtjpclmkekmkddaaGreatDoorTe
import Derived.Test.YtjpclmkekmkddaaGreatDoorWn
import Derived.Deep.QuietTactic
import Derived.BigQuiet
namespace Go.Proofs.YtjpclmkekmkddaaGreatDoor
open Go.RowKit Kb
set_option linter.unusedVariables false
set_option maxRecDepth 20000

namespace Cu
theorem nl_end {l : L8} {k : Nat} (h : l.length ≤ k) : nl (l.drop k) = 7 := by rw [List.drop_eq_nil_iff.2 h]; rfl
theorem drop_one {l : L8} {k : Nat} (h : k < l.length) : ∃ c, l[k]? = some c ∧ l.drop k = c :: l.drop (k + 1) := ⟨l[k], List.getElem?_eq_getElem h, List.drop_eq_getElem_cons h⟩
theorem c_zero {room : Int} {l : L8} (h : digs l = 0) (hl : l ≠ []) : chunk room l = .error 4 := by unfold chunk; rw [if_pos ⟨h, hl⟩]
theorem c_line {room z : Int} {l : L8} (h : ¬ (digs l = 0 ∧ l ≠ [])) (hz : nl (l.drop (digs l)) = z) (h0 : z ≠ 0) : chunk room l = .error z := by
  unfold chunk; rw [if_neg h, hz, if_pos h0]
theorem c_over {room : Int} {l : L8} (h : ¬ (digs l = 0 ∧ l ≠ [])) (hz : nl (l.drop (digs l)) = 0) (h2 : room < val l) : chunk room l = .error 6 := by
  unfold chunk; rw [if_neg h, hz, if_neg (by decide), if_pos h2]
theorem c_more {room : Int} {l : L8} (h : ¬ (digs l = 0 ∧ l ≠ [])) (hz : nl (l.drop (digs l)) = 0) (h2 : ¬ room < val l) (h3 : ((l.drop (digs l + 2)).length : Int) < val l) : chunk room l = .error 7 := by
  unfold chunk; rw [if_neg h, hz, if_neg (by decide), if_neg h2, if_pos h3]
theorem c_end {room z : Int} {l : L8} (h : ¬ (digs l = 0 ∧ l ≠ [])) (hz : nl (l.drop (digs l)) = 0) (h2 : ¬ room < val l) (h3 : ¬ ((l.drop (digs l + 2)).length : Int) < val l) (h4 : nl ((l.drop (digs l + 2)).drop (val l).toNat) = z) (h0 : z ≠ 0) : chunk room l = .error z := by
  unfold chunk; rw [if_neg h, hz, if_neg (by decide), if_neg h2, if_neg h3, h4, if_pos h0]
theorem c_ok {room : Int} {l : L8} (h : ¬ (digs l = 0 ∧ l ≠ [])) (hz : nl (l.drop (digs l)) = 0) (h2 : ¬ room < val l) (h3 : ¬ ((l.drop (digs l + 2)).length : Int) < val l) (h4 : nl ((l.drop (digs l + 2)).drop (val l).toNat) = 0) : chunk room l = .ok ((l.drop (digs l + 2)).take (val l).toNat, digs l + 2 + (val l).toNat + 2) := by
  unfold chunk; rw [if_neg h, hz, if_neg (by decide), if_neg h2, if_neg h3, h4, if_neg (by decide)]
/-- the three ways in which digits end -/
theorem digs_cases (l : L8) : digs l = 7 ∨ (digs l < 7 ∧ digs l = l.length) ∨ ∃ c, digs l < 7 ∧ digs l < l.length ∧ l[digs l]? = some c ∧ isX c = false := by
  have h := digs_le l
  by_cases h7 : digs l = 7
  · exact .inl h7
  by_cases hl : digs l = l.length
  · exact .inr (.inl ⟨by omega, hl⟩)
  · have hlt : digs l < l.length := by omega
    have hc : l[digs l]? = some l[digs l] := List.getElem?_eq_getElem hlt
    exact .inr (.inr ⟨l[digs l], by omega, hlt, hc, digs_next l (by omega) _ hc⟩)
theorem digs_in (l : L8) (j : Nat) (h : j < digs l) : ∃ c, l[j]? = some c ∧ isX c = true := by
  have hd := digs_le l
  have hl : j < l.length := by omega
  refine ⟨l[j], List.getElem?_eq_getElem hl, digs_all l _ ?_⟩
  have : (l.take (digs l))[j]? = some l[j] := by rw [List.getElem?_take, if_pos h]; exact List.getElem?_eq_getElem hl
  exact List.mem_of_getElem? this
theorem ans_digs (l : L8) (h : digs l ≠ 0) : Num.ans 16 7 (l.take (digs l)) = (val l, 0) := by
  have hd := digs_le l
  unfold Num.ans
  rw [if_neg (by rw [List.length_take]; omega), val_num]
def At1 (l : L8) (k : Nat) : Prop := ∃ r, l.drop k = 13 :: r
def At2 (l : L8) (k : Nat) : Prop := ∃ r, l.drop k = 13 :: 10 :: r
end Cu
theorem byte_at (s : ByteArray) (k j : Nat) (c : UInt8) (h : (s.data.toList.drop k)[j]? = some c) : k + j < s.size ∧ ∀ hb : ((k : Int) + (j : Int)).toNat < s.size, s[((k : Int) + (j : Int)).toNat] = c := by
  rw [List.getElem?_drop] at h
  have hlt : k + j < s.size := by have := (List.getElem?_eq_some_iff.1 h).1; rwa [len_data] at this
  refine ⟨hlt, fun hb => ?_⟩
  rw [Kb.at_int s k j hlt hb]
  have := Kb.at_list s _ rfl (k + j) hlt
  rw [h] at this
  exact Option.some.inj this
theorem ret_e {a b : Int} (h : a = b) : Ending.returned (.int .i64 a) = .returned (.int .i64 b) := by rw [h]
set_option maxHeartbeats 4000000 in
theorem rnewline_any (s : ByteArray) (k : Nat) (y : Int) (hy : y = k) (w : World) (hk : k ≤ s.size) (hs : s.size ≤ 1099511627776) (z : Int) (hz : Cu.nl (s.data.toList.drop k) = z) :
    Calls Tryz.prog 45 #[.string s, .int .i64 y] w fun e w' => e = .returned (.int .i64 z) ∧ Below w.heap.size w w' := by
  subst hy
  have HZ := hide hz
  clear hz
  have hl0 : ((({ data := #[13, 10] } : ByteArray)[0]'(by decide)).toNat : Int) = 13 := rfl
  have hl1 : ((({ data := #[13, 10] } : ByteArray)[1]'(by decide)).toNat : Int) = 10 := rfl
  go_enter Tryz.func45, Tryz.ntmps45
  go_wp2_with fail
  go_loopw [5] (fun i wr => (i = .int .i64 0 ∨ (i = .int .i64 1 ∧ Cu.At1 s.data.toList k) ∨ (i = .int .i64 2 ∧ Cu.At2 s.data.toList k)) ∧ Below w.heap.size w wr) (fun i _ => 2 - (intOf i).toNat)
  case atStart => exact ⟨.inl rfl, Below.refl _ _⟩
  case round =>
    obtain ⟨hc, hbel⟩ := hrel
    have HB := hide hbel
    clear hbel
    rcases hc with rfl | ⟨rfl, r, hr⟩ | ⟨rfl, r, hr⟩
    · by_cases hlt : k < s.size
      · obtain ⟨c, hc, hd⟩ := Cu.drop_one (l := s.data.toList) (k := k) (by rw [len_data]; exact hlt)
        obtain ⟨_, hx⟩ := byte_at s k 0 c (by rw [List.getElem?_drop]; exact hc)
        have hx2 : ∀ hb : k < s.size, s[k] = c := fun hb => by
          have := Kb.at_list s _ rfl k hb
          rw [hc] at this; exact Option.some.inj this
        have hlt' : (k : Int) < s.size := by omega
        by_cases h13 : c = 13
        · have hb : ((c.toNat : Int) == 13) = true := by rw [h13]; decide
          have HN : Hid (s.data.toList.drop k = 13 :: s.data.toList.drop (k + 1)) := hide (by rw [hd, h13])
          clear hc hd h13
          go_wp2_with fail
          go_quiet (fail)
          go_wp2_with fail
          exact ⟨⟨.inr (.inl ⟨by go_num, _, unhide HN⟩), Go.below_drewN (unhide HB) _⟩, by simp [intOf]⟩
        · have hb : ((c.toNat : Int) == 13) = false := by
            rw [beq_eq_false_iff_ne]; intro e; exact h13 (UInt8.toNat_inj.1 (by have : ((13 : UInt8).toNat : Int) = 13 := rfl; omega))
          have HN : Hid (z = 4) := hide (by
            rw [← unhide HZ, hd]
            cases s.data.toList.drop (k + 1) with
            | nil => simp only [Cu.nl]; rw [if_neg h13]
            | cons e r => simp only [Cu.nl]; rw [if_neg (fun h => h13 h.1)])
          clear hc hd h13
          go_wp2_with fail
          go_quiet (fail)
          go_wp2_with fail
          go_ret
          exact ⟨ret_e (unhide HN).symm, Go.below_drewN (unhide HB) _⟩
      · have HN : Hid (z = 7) := hide (by rw [← unhide HZ, Cu.nl_end (by rw [len_data]; omega)])
        have hlt' : ¬ (k : Int) < s.size := by omega
        go_wp2_with fail
        go_ret
        exact ⟨ret_e (unhide HN).symm, unhide HB⟩
    · by_cases hlt : k + 1 < s.size
      · obtain ⟨c, hc, hd⟩ := Cu.drop_one (l := s.data.toList) (k := k + 1) (by rw [len_data]; exact hlt)
        obtain ⟨_, hx⟩ := byte_at s k 1 c (by rw [List.getElem?_drop]; exact hc)
        have hlt' : (k : Int) + 1 < s.size := by omega
        have hw1 : IntKind.i64.wrap ((k : Int) + 1) = (k : Int) + 1 := Kb.wr64 _ (by omega) (by omega)
        have htn : ((k : Int) + 1).toNat = k + 1 := by omega
        have hx3 : ∀ hb : k + 1 < s.size, s[k + 1] = c := fun hb => by
          have := Kb.at_list s _ rfl (k + 1) hb
          rw [hc] at this; exact Option.some.inj this
        have hr2 : r = c :: s.data.toList.drop (k + 2) := by
          rw [← hd, ← List.drop_drop, hr]; rfl
        by_cases h13 : c = 10
        · have hb : ((c.toNat : Int) == 10) = true := by rw [h13]; decide
          have HN : Hid (s.data.toList.drop k = 13 :: 10 :: s.data.toList.drop (k + 2)) := hide (by rw [hr, hr2, h13])
          clear hc hd h13 hr hr2
          go_wp2_with fail
          go_quiet (fail)
          go_wp2_with fail
          exact ⟨⟨.inr (.inr ⟨by go_num, _, unhide HN⟩), Go.below_drewN (unhide HB) _⟩, by simp [intOf]⟩
        · have hb : ((c.toNat : Int) == 10) = false := by
            rw [beq_eq_false_iff_ne]; intro e; exact h13 (UInt8.toNat_inj.1 (by have : ((10 : UInt8).toNat : Int) = 10 := rfl; omega))
          have HN : Hid (z = 4) := hide (by
            rw [← unhide HZ, hr, hr2]; simp only [Cu.nl]; rw [if_neg (fun h => h13 h.2)])
          clear hc hd h13 hr hr2
          go_wp2_with fail
          go_quiet (fail)
          go_wp2_with fail
          go_ret
          exact ⟨ret_e (unhide HN).symm, Go.below_drewN (unhide HB) _⟩
      · have HN : Hid (z = 7) := hide (by
          have hl : r.length = s.size - k - 1 := by
            have := congrArg List.length hr
            rw [List.length_drop, len_data, List.length_cons] at this; omega
          have h0 : r = [] := List.length_eq_zero_iff.1 (by omega)
          rw [← unhide HZ, hr, h0]; rfl)
        have hlt' : ¬ (k : Int) + 1 < s.size := by omega
        clear hr
        go_wp2_with fail
        go_ret
        exact ⟨ret_e (unhide HN).symm, unhide HB⟩
    · have HN : Hid (z = 0) := hide (by rw [← unhide HZ, hr]; rfl)
      clear hr
      go_wp2_with fail
      go_ret
      exact ⟨ret_e (unhide HN).symm, unhide HB⟩
end Go.Proofs.YtjpclmkekmkddaaGreatDoor
