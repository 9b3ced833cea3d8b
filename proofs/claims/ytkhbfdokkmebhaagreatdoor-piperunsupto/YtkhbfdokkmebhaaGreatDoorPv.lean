/- The program's Run. -/
import Derived.Test.YtkhbfdokkmebhaaGreatDoorPu
namespace Go.Proofs.YtkhbfdokkmebhaaGreatDoor
open Go.RowKit Kb
set_option linter.unusedVariables false
set_option maxRecDepth 20000

set_option maxHeartbeats 4000000 in
theorem run_any (v : Value) (zs : List Int) (s : ByteArray) (m : Int) (w : World) (hv : Ints w v zs) (hs : s.size ≤ 1048576) (hm : w.cell? ⟨1, 0, none⟩ = some (.int .i64 m))
    (ht : Lib.TabIs Tryz.prog w "internal/strconv.uint64pow10" .u64 Lib.pow10Tab) :
    Calls Tryz.prog 5 #[v, .string s] w fun e w' => e = .returned (.tuple #[.string (mk (Pt.runV zs s.data.toList)), .int .i64 (Pt.runE zs s.data.toList)]) ∧ Below w.heap.size w w' := by
  have H1 := hide (check_any v zs w hv)
  by_cases hck : Pw.check zs = 0
  · obtain ⟨h8, hall⟩ := Pw.check_ok hck
    rw [hck] at H1
    by_cases hbig : 8192 < s.size
    · have HV : Hid (Pt.runV zs s.data.toList = []) := hide (by unfold Pt.runV; rw [if_neg]; rintro ⟨_, h⟩; rw [len_data] at h; omega)
      have HE : Hid (Pt.runE zs s.data.toList = 2) := hide (by unfold Pt.runE; rw [if_pos hck, if_pos (by rw [len_data]; exact hbig)])
      clear hck hv hm ht hall
      go_enter Tryz.func5, Tryz.ntmps5
      go_wp2_with fail
      refine (unhide H1).mono ?_; rintro e wx ⟨rfl, hwx⟩; rw [hwx]; clear hwx wx
      go_wp2
      go_ret2
      exact ⟨ret_str_int (by rw [unhide HV]; rfl) (unhide HE).symm, Below.refl _ _⟩
    · have HV : Hid (Pt.runV zs s.data.toList = Pt.piped zs s.data.toList) := hide (by unfold Pt.runV; rw [if_pos ⟨hck, by rw [len_data]; omega⟩])
      have HE : Hid (Pt.runE zs s.data.toList = 0) := hide (by unfold Pt.runE; rw [if_pos hck, if_neg (by rw [len_data]; exact hbig)])
      have H2 := hide (clone_any s w (by omega))
      obtain ⟨o, c, rfl, hc⟩ := hv.form
      have HI := hide hv
      have HA := hide hall
      have HM := hide hm
      have HT := hide ht
      have hl := hv.room
      clear hck hv hm ht hall
      go_enter Tryz.func5, Tryz.ntmps5
      go_wp2_with fail
      refine (unhide H1).mono ?_; rintro e wx ⟨rfl, hwx⟩; rw [hwx]; clear hwx wx
      go_wp2_with fail
      refine (unhide H2).mono ?_; rintro e w1 ⟨rfl, b1⟩
      have B1 := hide b1
      clear b1 H1 H2
      go_wp2
      go_loopw [7, 22] (fun t i wr => ∃ (k : Nat) (x : ByteArray), k ≤ zs.length ∧ i = .int .i64 k ∧ t = .string x ∧ x.data.toList = Pt.piped (zs.take k) s.data.toList ∧ Below w.heap.size w wr) (fun _ i _ => zs.length - (intOf i).toNat)
      case atStart => exact ⟨0, s, Nat.zero_le _, rfl, rfl, rfl, unhide B1⟩
      case round =>
        obtain ⟨k, x, hk, rfl, rfl, hx, hbel⟩ := hrel
        have hB := hbel.size
        have HB := hide hbel
        have HX := hide hx
        clear hbel hx
        by_cases hlt : k < zs.length
        · obtain ⟨z, hzk⟩ : ∃ z, zs[k]? = some z := ⟨zs[k], List.getElem?_eq_getElem hlt⟩
          obtain ⟨g, off, c', he, hg, hcell⟩ := (unhide HI).at_ (by intro e; rw [e] at hlt; cases hlt)
          have hload := cell_below (hcell k z hzk) hg (unhide HB)
          have hin := List.all_eq_true.1 (unhide HA) z (List.mem_of_getElem? hzk)
          have hpl := Pt.piped_len s.data.toList (by rw [len_data]; omega) (zs.take k) (by rw [List.length_take]; omega)
          rw [← unhide HX, len_data, len_data, List.length_take] at hpl
          have hxs : x.size ≤ 1100000 := by omega
          obtain ⟨n, hn, rfl⟩ := (Pw.inn_iff z).1 hin
          obtain ⟨q, hq⟩ := ex_list (Pt.tr n x.data.toList)
          have H3 := hide (trans_goal n hn x q hq hxs m wr (max_below (unhide HM) (unhide HB)) (tab_below (unhide HT) (unhide HB)))
          have HQ : Hid (q.data.toList = Pt.piped (zs.take (k + 1)) s.data.toList) := hide (by rw [Pt.piped_snoc zs k _ _ hzk, Pt.trans_nat, ← unhide HX, hq])
          cases he
          clear hcell hzk hin hpl hq
          go_wp2_with fail
          refine (unhide H3).mono ?_; rintro e w2 ⟨rfl, b2⟩
          have B2 := hide (bel_trans (unhide HB) b2)
          clear b2 H3 HB
          go_wp2
          exact ⟨⟨k + 1, q, by omega, by go_num, rfl, unhide HQ, unhide B2⟩, by simp [intOf]; omega⟩
        · obtain rfl : k = zs.length := by omega
          go_wp2
          go_ret2
          refine ⟨ret_str_int ?_ (unhide HE).symm, unhide HB⟩
          rw [unhide HV]
          have := unhide HX
          rw [List.take_length] at this
          rw [← this, mk_data]
  · have HV : Hid (Pt.runV zs s.data.toList = []) := hide (by unfold Pt.runV; rw [if_neg]; rintro ⟨h, _⟩; exact hck h)
    have HE : Hid (Pt.runE zs s.data.toList = Pw.check zs) := hide (by unfold Pt.runE; rw [if_neg hck])
    obtain ⟨n, hn⟩ : ∃ n, Pw.check zs = n := ⟨_, rfl⟩
    rw [hn] at H1 hck HE
    have hne : (n != 0) = true := by simpa using hck
    clear hn hck hv hm ht
    go_enter Tryz.func5, Tryz.ntmps5
    go_wp2_with fail
    refine (unhide H1).mono ?_; rintro e wx ⟨rfl, hwx⟩; rw [hwx]; clear hwx wx
    go_wp2
    go_ret2
    exact ⟨ret_str_int (by rw [unhide HV]; rfl) (unhide HE).symm, Below.refl _ _⟩
end Go.Proofs.YtkhbfdokkmebhaaGreatDoor
