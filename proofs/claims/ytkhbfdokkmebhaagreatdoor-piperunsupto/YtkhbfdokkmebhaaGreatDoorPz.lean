/- The document's Piped. -/
import Derived.Test.YtkhbfdokkmebhaaGreatDoorPv
import Derived.Test.YtkhbfdokkmebhaaGreatDoorRu
import Derived.Test.YtkhbfdokkmebhaaGreatDoorRs
import Derived.Test.YtkhbfdokkmebhaaGreatDoorRm
import Derived.Test.YtkhbfdokkmebhaaGreatDoorYc
namespace Go.Proofs.YtkhbfdokkmebhaaGreatDoor
open Go.RowKit Kb
set_option linter.unusedVariables false
set_option maxRecDepth 20000

theorem rtrim_at (s q : ByteArray) (hq : q.data.toList = trim s.data.toList) (hs : s.size ≤ 68719476736) (w : World) :
    Calls Tryz.prog 18 #[.string s] w fun e w' => e = .returned (.string q) ∧ Below w.heap.size w w' := by
  refine (Ru.rtrim_any s w (by omega)).mono ?_
  rintro e w' ⟨rfl, rfl⟩
  rw [back_list q _ hq]
  exact ⟨rfl, Below.refl _ _⟩
theorem rhd_at (s q : ByteArray) (hq : Cd.hexDec s.data.toList = some q.data.toList) (hs : s.size ≤ 68719476736) (w : World) :
    Calls Tryz.prog 12 #[.string s] w fun e w' => e = .returned (.tuple #[.string q, .int .i64 0]) ∧ Below w.heap.size w w' := by
  have := rhexDecode_any s w hs
  rw [show hdV s.data.toList = q.data.toList from by unfold hdV; rw [hq]; rfl, show hdE s.data.toList = 0 from by unfold hdE; rw [hq]; rfl, back_list q _ rfl] at this
  exact this
theorem rhd_bad (s : ByteArray) (hq : Cd.hexDec s.data.toList = none) (hs : s.size ≤ 68719476736) (w : World) :
    Calls Tryz.prog 12 #[.string s] w fun e w' => e = .returned (.tuple #[.string ⟨#[]⟩, .int .i64 4]) ∧ Below w.heap.size w w' := by
  have := rhexDecode_any s w hs
  rw [show hdV s.data.toList = [] from by unfold hdV; rw [hq]; rfl, show hdE s.data.toList = 4 from by unfold hdE; rw [hq]; rfl] at this
  exact this
theorem rbd_at (s q : ByteArray) (hq : C6.dec64 s.data.toList = some q.data.toList) (hs : s.size ≤ 8589934592) (w : World) :
    Calls Tryz.prog 13 #[.string s] w fun e w' => e = .returned (.tuple #[.string q, .int .i64 0]) ∧ Below w.heap.size w w' := by
  have := rb64dec_any s w hs
  rw [show bdV s.data.toList = q.data.toList from by unfold bdV; rw [hq]; rfl, show bdE s.data.toList = 0 from by unfold bdE; rw [hq]; rfl, back_list q _ rfl] at this
  exact this
theorem rbd_bad (s : ByteArray) (hq : C6.dec64 s.data.toList = none) (hs : s.size ≤ 8589934592) (w : World) :
    Calls Tryz.prog 13 #[.string s] w fun e w' => e = .returned (.tuple #[.string ⟨#[]⟩, .int .i64 4]) ∧ Below w.heap.size w w' := by
  have := rb64dec_any s w hs
  rw [show bdV s.data.toList = [] from by unfold bdV; rw [hq]; rfl, show bdE s.data.toList = 4 from by unfold bdE; rw [hq]; rfl] at this
  exact this

set_option maxHeartbeats 8000000 in
theorem rpiped_any (v : Value) (zs : List Int) (s : ByteArray) (w : World) (hv : Ints w v zs) (hck : Pw.check zs = 0) (hs : s.size ≤ 1048576)
    (ht : Lib.TabIs Tryz.prog w "internal/strconv.uint64pow10" .u64 Lib.pow10Tab) :
    Calls Tryz.prog 7 #[v, .string s] w fun e w' => e = .returned (.string (mk (Pt.piped zs s.data.toList))) ∧ Below w.heap.size w w' := by
  obtain ⟨h8, hall⟩ := Pw.check_ok hck
  obtain ⟨o, c, rfl, hc⟩ := hv.form
  have HI := hide hv
  have HA := hide hall
  have HT := hide ht
  have hl := hv.room
  clear hck hv ht hall
  go_enter Tryz.func7, Tryz.ntmps7
  go_wp2
  go_loopw [1, 5] (fun t i wr => ∃ (k : Nat) (x : ByteArray), k ≤ zs.length ∧ i = .int .i64 k ∧ t = .string x ∧ x.data.toList = Pt.piped (zs.take k) s.data.toList ∧ Below w.heap.size w wr) (fun _ i _ => zs.length - (intOf i).toNat)
  case atStart => exact ⟨0, s, Nat.zero_le _, rfl, rfl, rfl, Below.refl _ _⟩
  case round =>
    obtain ⟨k, x, hk, rfl, rfl, hx, hbel⟩ := hrel
    have hB := hbel.size
    have HB := hide hbel
    have HX := hide hx
    clear hbel hx
    by_cases hlt : k < zs.length
    · obtain ⟨z, hzk⟩ : ∃ z, zs[k]? = some z := ⟨zs[k], List.getElem?_eq_getElem hlt⟩
      obtain ⟨g, off, c', he, hg, hcell⟩ := (unhide HI).at_ (by intro e; rw [e] at hlt; cases hlt)
      have hload := cell_below (hcell k z hzk) hg (unhide HB)
      have hin := List.all_eq_true.1 (unhide HA) z (List.mem_of_getElem? hzk)
      have hpl := Pt.piped_len s.data.toList (by rw [len_data]; omega) (zs.take k) (by rw [List.length_take]; omega)
      rw [← unhide HX, len_data, len_data, List.length_take] at hpl
      have hxs : x.size ≤ 1100000 := by omega
      obtain ⟨n, hn, rfl⟩ := (Pw.inn_iff z).1 hin
      obtain ⟨q, hq⟩ := ex_list (Pt.tr n x.data.toList)
      have HTB := hide (tab_below (unhide HT) (unhide HB))
      have HQ : Hid (q.data.toList = Pt.piped (zs.take (k + 1)) s.data.toList) := hide (by rw [Pt.piped_snoc zs k _ _ hzk, Pt.trans_nat, ← unhide HX, hq])
      cases he
      clear hcell hzk hin hpl
      match n, hn with
      | 0, _ =>
        have HC := hide (rlow_at x q hq (by omega) wr)
        clear hq
        go_wp2_with fail
        refine (unhide HC).mono ?_; rintro e w2 ⟨rfl, b2⟩
        have B2 := hide (bel_trans (unhide HB) b2)
        clear b2 HC HB
        go_wp2
        exact ⟨⟨k + 1, q, by omega, by go_num, rfl, unhide HQ, unhide B2⟩, by simp [intOf]; omega⟩
      | 1, _ =>
        have HC := hide (rurlDecode_any x q wr hq (by omega))
        clear hq
        go_wp2_with fail
        refine (unhide HC).mono ?_; rintro e w2 ⟨rfl, b2⟩
        have B2 := hide (bel_trans (unhide HB) b2)
        clear b2 HC HB
        go_wp2
        exact ⟨⟨k + 1, q, by omega, by go_num, rfl, unhide HQ, unhide B2⟩, by simp [intOf]; omega⟩
      | 2, _ =>
        cases hd : Cd.hexDec x.data.toList with
        | none =>
          have HC := hide (rhd_bad x hd (by omega) wr)
          obtain rfl : q = x := eq_of_lists (hq.trans (show (Cd.hexDec x.data.toList).getD x.data.toList = _ by rw [hd]; rfl))
          clear hq hd
          go_wp2_with fail
          refine (unhide HC).mono ?_; rintro e w2 ⟨rfl, b2⟩
          have B2 := hide (bel_trans (unhide HB) b2)
          clear b2 HC HB
          go_wp2
          exact ⟨⟨k + 1, _, by omega, by go_num, rfl, unhide HQ, unhide B2⟩, by simp [intOf]; omega⟩
        | some y =>
          have HC := hide (rhd_at x q (by rw [hd, hq]; exact congrArg some (show y = (Cd.hexDec x.data.toList).getD x.data.toList by rw [hd]; rfl)) (by omega) wr)
          clear hq hd
          go_wp2_with fail
          refine (unhide HC).mono ?_; rintro e w2 ⟨rfl, b2⟩
          have B2 := hide (bel_trans (unhide HB) b2)
          clear b2 HC HB
          go_wp2
          exact ⟨⟨k + 1, q, by omega, by go_num, rfl, unhide HQ, unhide B2⟩, by simp [intOf]; omega⟩
      | 3, _ =>
        cases hd : C6.dec64 x.data.toList with
        | none =>
          have HC := hide (rbd_bad x hd (by omega) wr)
          obtain rfl : q = x := eq_of_lists (hq.trans (show (C6.dec64 x.data.toList).getD x.data.toList = _ by rw [hd]; rfl))
          clear hq hd
          go_wp2_with fail
          refine (unhide HC).mono ?_; rintro e w2 ⟨rfl, b2⟩
          have B2 := hide (bel_trans (unhide HB) b2)
          clear b2 HC HB
          go_wp2
          exact ⟨⟨k + 1, _, by omega, by go_num, rfl, unhide HQ, unhide B2⟩, by simp [intOf]; omega⟩
        | some y =>
          have HC := hide (rbd_at x q (by rw [hd, hq]; exact congrArg some (show y = (C6.dec64 x.data.toList).getD x.data.toList by rw [hd]; rfl)) (by omega) wr)
          clear hq hd
          go_wp2_with fail
          refine (unhide HC).mono ?_; rintro e w2 ⟨rfl, b2⟩
          have B2 := hide (bel_trans (unhide HB) b2)
          clear b2 HC HB
          go_wp2
          exact ⟨⟨k + 1, q, by omega, by go_num, rfl, unhide HQ, unhide B2⟩, by simp [intOf]; omega⟩
      | 4, _ =>
        have HC := hide (rhtmlDecode_any x q wr hq (by omega))
        clear hq
        go_wp2_with fail
        refine (unhide HC).mono ?_; rintro e w2 ⟨rfl, b2⟩
        have B2 := hide (bel_trans (unhide HB) b2)
        clear b2 HC HB
        go_wp2
        exact ⟨⟨k + 1, q, by omega, by go_num, rfl, unhide HQ, unhide B2⟩, by simp [intOf]; omega⟩
      | 5, _ =>
        have HC := hide (rpath_at x q hq (by omega) wr)
        clear hq
        go_wp2_with fail
        refine (unhide HC).mono ?_; rintro e w2 ⟨rfl, b2⟩
        have B2 := hide (bel_trans (unhide HB) b2)
        clear b2 HC HB
        go_wp2
        exact ⟨⟨k + 1, q, by omega, by go_num, rfl, unhide HQ, unhide B2⟩, by simp [intOf]; omega⟩
      | 6, _ =>
        have HC := hide (rsq_at x q hq (by omega) wr)
        clear hq
        go_wp2_with fail
        refine (unhide HC).mono ?_; rintro e w2 ⟨rfl, b2⟩
        have B2 := hide (bel_trans (unhide HB) b2)
        clear b2 HC HB
        go_wp2
        exact ⟨⟨k + 1, q, by omega, by go_num, rfl, unhide HQ, unhide B2⟩, by simp [intOf]; omega⟩
      | 7, _ =>
        have HC := hide (rwo_at x ⟨#[0]⟩ q hq (by omega) (by unfold maxLen; decide) wr)
        clear hq
        go_wp2_with fail
        refine (unhide HC).mono ?_; rintro e w2 ⟨rfl, b2⟩
        have B2 := hide (bel_trans (unhide HB) b2)
        clear b2 HC HB
        go_wp2
        exact ⟨⟨k + 1, q, by omega, by go_num, rfl, unhide HQ, unhide B2⟩, by simp [intOf]; omega⟩
      | 8, _ =>
        have HC := hide (rtrim_at x q hq (by omega) wr)
        clear hq
        go_wp2_with fail
        refine (unhide HC).mono ?_; rintro e w2 ⟨rfl, b2⟩
        have B2 := hide (bel_trans (unhide HB) b2)
        clear b2 HC HB
        go_wp2
        exact ⟨⟨k + 1, q, by omega, by go_num, rfl, unhide HQ, unhide B2⟩, by simp [intOf]; omega⟩
      | 9, _ =>
        have HC := hide (len_at x q hq (by omega) wr (unhide HTB))
        clear hq
        go_wp2_with fail
        refine (unhide HC).mono ?_; rintro e w2 ⟨rfl, b2⟩
        have B2 := hide (bel_trans (unhide HB) b2)
        clear b2 HC HB
        go_wp2
        exact ⟨⟨k + 1, q, by omega, by go_num, rfl, unhide HQ, unhide B2⟩, by simp [intOf]; omega⟩
      | 10, _ =>
        have HC := hide (rcmd_at x q hq (by omega) wr)
        clear hq
        go_wp2_with fail
        refine (unhide HC).mono ?_; rintro e w2 ⟨rfl, b2⟩
        have B2 := hide (bel_trans (unhide HB) b2)
        clear b2 HC HB
        go_wp2
        exact ⟨⟨k + 1, q, by omega, by go_num, rfl, unhide HQ, unhide B2⟩, by simp [intOf]; omega⟩
    · obtain rfl : k = zs.length := by omega
      go_wp2
      go_ret
      refine ⟨ret_str ?_, unhide HB⟩
      have := unhide HX
      rw [List.take_length] at this
      rw [← this, mk_data]
end Go.Proofs.YtkhbfdokkmebhaaGreatDoor
