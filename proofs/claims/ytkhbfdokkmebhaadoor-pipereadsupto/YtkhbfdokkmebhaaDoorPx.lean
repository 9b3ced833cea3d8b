/- The document's place, PipeText, ReadPipe. -/
import Derived.Test.YtkhbfdokkmebhaaDoorPq
namespace Go.Proofs.YtkhbfdokkmebhaaDoor
open Go.RowKit Kb
set_option linter.unusedVariables false

theorem tab_next {ws : List (List UInt8)} {a : List UInt8} {n : Nat} {p : List UInt8} (h : ws[n]? = some p) : (a :: ws)[n + 1]? = some p := by simpa using h

set_option maxHeartbeats 4000000 in
theorem place_any (p : ByteArray) (w : World) (hw : TabS 0 ([] :: Pw.words) w) :
    Calls Tryd.prog 21 #[.string p, .slice (some ⟨0, 0, none⟩) 12 12] w fun e w' => e = .returned (.int .i64 (kdV p)) ∧ w' = w := by
  have HW := hide hw
  clear hw
  go_enter Tryd.func21, Tryd.ntmps21
  go_wp2
  go_loop [5] (fun i => ∃ k : Nat, k ≤ 11 ∧ i = .int .i64 ((k : Int) + 1) ∧ Pw.kind p.data.toList = Pw.kindFrom p.data.toList k (Pw.words.drop k)) (fun i => 12 - (intOf i).toNat)
  case atStart => exact ⟨0, by decide, rfl, rfl⟩
  case round =>
    obtain ⟨k, hk, rfl, hkd⟩ := hrel
    have HK := hide hkd
    clear hkd
    by_cases h11 : k = 11
    · subst h11
      have hB : Hid (Pw.kind p.data.toList = none) := hide (unhide HK)
      go_wp2
      go_ret
      exact ⟨ret_i (by unfold kdV; rw [unhide hB]; rfl), rfl⟩
    · have hk' : k < 11 := by omega
      clear hk h11
      have hload := (unhide HW).cell (k + 1) _ (tab_next (Pw.word_of k hk'))
      obtain ⟨x, hx⟩ : ∃ x, mk (Pw.word ((k : Int) + 1)) = x := ⟨_, rfl⟩
      rw [hx] at hload
      have HX := hide hx
      clear hx
      have hl2 : w.cell? ⟨0, ((k : Int) + 1).toNat, none⟩ = some (.string x) := by rw [show ((k : Int) + 1).toNat = k + 1 by omega]; exact hload
      by_cases he : p = x
      · have HB : Hid (Pw.kind p.data.toList = some ((k : Int) + 1)) := hide (by rw [he, ← unhide HX]; exact kindS k hk')
        have hq := strT he
        clear he
        go_wp2
        go_ret
        exact ⟨ret_i (by unfold kdV; rw [unhide HB]; rfl), rfl⟩
      · have HB : Hid (Pw.kind p.data.toList = Pw.kindFrom p.data.toList (k + 1) (Pw.words.drop (k + 1))) := hide (by
          rw [unhide HK, drop_word k hk', Pw.kindFrom, if_neg]
          intro e; exact he (by rw [← unhide HX, e, mk_data]))
        have hq := strF he
        clear he
        go_wp2
        exact ⟨⟨k + 1, by omega, by go_num, unhide HB⟩, by simp [intOf]; omega⟩

set_option maxHeartbeats 4000000 in
theorem rtext_any (v : Value) (zs : List Int) (w : World) (hv : Ints w v zs) (hw : TabS 0 ([] :: Pw.words) w) (hck : Pw.check zs = 0) :
    Calls Tryd.prog 7 #[v] w fun e w' => e = .returned (.string (mk (Pw.print zs))) ∧ Below w.heap.size w w' := by
  obtain ⟨h8, hall⟩ := Pw.check_ok hck
  obtain ⟨o, c, rfl, hc⟩ := hv.form
  by_cases h0 : zs = []
  · have hz : ((zs.length : Int) == 0) = true := by rw [h0]; rfl
    have HP : Hid (Pw.print zs = [45]) := hide (by rw [h0]; rfl)
    clear hck hv hw hall h0
    go_enter Tryd.func7, Tryd.ntmps7
    go_wp2
    go_ret
    exact ⟨ret_str (by rw [unhide HP]; rfl), Below.refl _ _⟩
  · have hpos : 0 < zs.length := List.length_pos_iff.2 h0
    have hz : ((zs.length : Int) == 0) = false := by rw [beq_eq_false_iff_ne]; omega
    have HP : Hid (Pw.print zs = Lib.join (Wd zs zs.length) [44]) := hide (by unfold Pw.print Wd; rw [if_neg h0, List.take_length])
    have HWT := hide (Wd_wt hck)
    obtain ⟨g, off, c', he, hg, hcell⟩ := hv.at_ h0
    cases he
    have HA := hide hall
    have HCE := hide hcell
    have HW := hide hw
    clear hck hv hw hall h0 hcell
    obtain ⟨i0, hi, hz0, hz1, hz2⟩ := info_parts infoS
    go_enter Tryd.func7, Tryd.ntmps7
    go_wp2
    go_loopw [3, 4] (fun v i wr => ∃ k : Nat, k ≤ zs.length ∧ i = .int .i64 k ∧ wr.ownsRow w.heap.size 9 1 v k (cellsS (Wd zs k)) ∧ Below w.heap.size w wr) (fun _ i _ => zs.length - (intOf i).toNat)
    case atStart => exact ⟨0, Nat.zero_le _, rfl, World.ownsRow_nil _ _ _ _, Below.refl _ _⟩
    case round =>
      obtain ⟨k, hk, rfl, hown, hbel⟩ := hrel
      have hB := hbel.size
      have OWN := hide hown
      have HB := hide hbel
      clear hown hbel
      by_cases hlt : k < zs.length
      · obtain ⟨z, hzk⟩ : ∃ z, zs[k]? = some z := ⟨zs[k], List.getElem?_eq_getElem hlt⟩
        have hload := cell_below ((unhide HCE) k z hzk) hg (unhide HB)
        have HS := hide (Wd_succ zs k z hzk)
        have hin := List.all_eq_true.1 (unhide HA) z (List.mem_of_getElem? hzk)
        obtain ⟨n, hn, rfl⟩ := (Pw.inn_iff z).1 hin
        have hword := ((unhide HW).below (unhide HB)).cell (n + 1) _ (tab_next (Pw.word_of n hn))
        obtain ⟨x, hx⟩ : ∃ x, mk (Pw.word ((n : Int) + 1)) = x := ⟨_, rfl⟩
        rw [hx] at hword
        have hl2 : wr.cell? ⟨0, ((n : Int) + 1).toNat, none⟩ = some (.string x) := by rw [show ((n : Int) + 1).toNat = n + 1 by omega]; exact hword
        have HX := hide hx
        clear hx hin hzk
        have b3 : k + 1 ≤ maxLen := by unfold maxLen; omega
        have b4 : (k + 1) * 16 ≤ 140737488355328 := by omega
        go_wp2_with (at_builtin; refine wpList_append_own _ rfl _ _ 35 rfl w.heap.size 9 i0 (.string ByteArray.empty) 1 16 Tryd.underlying35 hi hz0 hz1 hz2 rfl (by decide) _ k (cellsS (Wd zs k)) rfl ((unhide OWN).alloc _) _ 1 1 _ rfl rfl (cell_one_new _ _ _) (by simp [Value.oneCell']) b3 b4 (by simp; omega) ?_; intro v1 w2 own1 grow1 _)
        refine ⟨⟨k + 1, by omega, by go_num, ?_, ((unhide HB).alloc hB _).grown grow1 (by simp; omega) (own_lt (unhide OWN))⟩, by simp [intOf]; omega⟩
        rw [unhide HS, cellsS_append]
        show World.ownsRow _ _ _ _ _ _ (cellsS (Wd zs k) ++ [Value.string (mk (Pw.word ((n : Int) + 1)))])
        rw [unhide HX]; exact own1
      · obtain rfl : k = zs.length := by omega
        have HJ := hide (rjoined_row_c 44 (Wd zs zs.length) _ w.heap.size wr (own_eq (Wd_len zs _ (Nat.le_refl _)).symm (unhide OWN)) (by have := unhide HWT; omega))
        go_wp2_with fail
        refine (unhide HJ).mono ?_; rintro e w1 ⟨rfl, hwx⟩; rw [hwx]; clear hwx w1
        go_wp2
        go_ret
        exact ⟨ret_str (by rw [unhide HP]), unhide HB⟩

set_option maxRecDepth 20000 in
set_option maxHeartbeats 4000000 in
theorem rread_any (s : ByteArray) (w : World) (hs : s.size ≤ 4294960000) (hw : TabS 0 ([] :: Pw.words) w) :
    Calls Tryd.prog 10 #[.string s] w fun e w' => ∃ v, e = .returned (.tuple #[v, .int .i64 (Pw.parse s.data.toList).2]) ∧ Ints w' v (Pw.parse s.data.toList).1 ∧ Below w.heap.size w w' := by
  have H1 := hide (rpieces_any_c 44 s w hs)
  obtain ⟨cs, hcs⟩ : ∃ cs, Cs.cut 44 s.data.toList = cs := ⟨_, rfl⟩
  have hpos : 0 < cs.length := by rw [← hcs]; exact List.length_pos_iff.2 (Cs.cut_ne 44 _)
  have HCS := hide hcs
  have hb : cs.length ≤ s.size + 1 := by
    have := Cp.len_wt (Cs.cut 44 s.data.toList); rw [Cs.wt_cut, hcs, len_data] at this; exact this
  rw [hcs] at H1
  clear hcs
  by_cases h1 : s = ⟨#[45]⟩
  · have HP : Hid (Pw.parse s.data.toList = ([], 0)) := hide (by rw [h1]; decide)
    have hq : (s.toList == [45]) = true := by rw [h1, Lib.toList_data]; rfl
    clear hw h1
    go_enter Tryd.func10, Tryd.ntmps10
    go_wp2
    go_ret2
    refine ⟨_, ret_vi (by rw [unhide HP]), ?_, Below.refl _ _⟩
    rw [unhide HP]; exact Ints.nil _
  · have hq : (s.toList == [45]) = false := str_fl h1
    have HN : Hid (¬ s.data.toList = [45]) := hide (fun e => h1 (by rw [← mk_data s, e]; rfl))
    have HW := hide hw
    clear hw h1
    by_cases h8 : 8 < cs.length
    · have HP : Hid (Pw.parse s.data.toList = ([], 2)) := hide (by unfold Pw.parse; rw [unhide HCS, if_pos h8])
      go_enter Tryd.func10, Tryd.ntmps10
      go_wp2_with fail
      refine (unhide H1).mono ?_; rintro e w1 ⟨v, rfl, hown, b1⟩
      obtain ⟨o, c, rfl⟩ := own_forms hown
      have B1 := hide b1
      clear hown b1
      go_wp2
      go_ret2
      refine ⟨_, ret_vi (by rw [unhide HP]), ?_, unhide B1⟩
      rw [unhide HP]; exact Ints.nil _
    · have H8 : Hid (¬ 8 < (Cs.cut 44 s.data.toList).length) := hide (by rw [unhide HCS]; exact h8)
      obtain ⟨i0, hi, hz0, hz1, hz2⟩ := info_parts infoI64
      go_enter Tryd.func10, Tryd.ntmps10
      go_wp2_with fail
      refine (unhide H1).mono ?_; rintro e w1 ⟨v, rfl, hown, b1⟩
      obtain ⟨g, c, rfl, hc⟩ := own_form hown hpos
      have hg1 : g < w1.heap.size := (hown.lt g rfl).2
      have HB1 := hide b1
      have HC1 : Hid (∀ j p, cs[j]? = some p → w1.cell? ⟨g, j, none⟩ = some (.string (mk p))) := hide (by
        intro j p hp
        have hj2 : j < cs.length := (List.getElem?_eq_some_iff.1 hp).1
        rw [hown.cellAt j (by omega), cellsS, List.getElem?_map, hp]; rfl)
      have HW1 := hide ((unhide HW).below b1)
      clear hown b1 H1 HW
      go_wp2
      go_loopw [5, 6] (fun v i wr => ∃ (k : Nat) (done : List Int), k ≤ cs.length ∧ i = .int .i64 k ∧ done.length = k ∧ (∀ z ∈ done, -9223372036854775808 ≤ z ∧ z ≤ 9223372036854775807) ∧ Pw.kinds cs = (Pw.kinds (cs.drop k)).map (done ++ ·) ∧ wr.ownsRow w1.heap.size 3 1 v k (cellsZ done) ∧ Below w1.heap.size w1 wr) (fun _ i _ => cs.length - (intOf i).toNat)
      case atStart => exact ⟨0, [], Nat.zero_le _, rfl, rfl, by simp, by simp, World.ownsRow_nil _ _ _ _, Below.refl _ _⟩
      case round =>
        obtain ⟨k, done, hk, rfl, hdl, hfit, hkin, hown, hbel⟩ := hrel
        have hB := hbel.size
        have OWN := hide hown
        have HB := hide hbel
        have HF := hide hfit
        have HK := hide hkin
        have HDL := hide hdl
        clear hown hbel hfit hkin hdl
        by_cases hlt : k < cs.length
        · obtain ⟨p, hp⟩ : ∃ p, cs[k]? = some p := ⟨cs[k], List.getElem?_eq_getElem hlt⟩
          have hload := cell_below ((unhide HC1) k p hp) hg1 (unhide HB)
          have HK2 := hide (fun W (h : Below wr.heap.size wr W) => place_any (mk p) W (((unhide HW1).below (unhide HB)).below h))
          rw [kdV, mk_list] at HK2
          obtain ⟨x, hx⟩ : ∃ x, mk p = x := ⟨_, rfl⟩
          rw [hx] at hload HK2
          have HP := hide hp
          clear hp hx
          cases hz : Pw.kind p with
          | none =>
            have HR := hide (parse_of_none (unhide H8) (unhide HN) (by rw [unhide HCS]; exact kinds_stop (unhide HP) hz (unhide HK)))
            rw [hz] at HK2
            have HK3 : Hid (∀ W, Below wr.heap.size wr W → Calls Tryd.prog 21 #[.string x, .slice (some ⟨0, 0, none⟩) 12 12] W fun e w' => e = .returned (.int .i64 0) ∧ w' = W) := HK2
            clear hz HK2
            go_wp2_with fail
            go_region_with (go_at_call_of 21 (x); refine ((unhide HK3) _ (by first | exact Below.refl _ _ | exact (Below.refl _ _).drew)).mono ?_; rintro e wx ⟨rfl, rfl⟩)
            all_goals
              go_wp2
              go_ret2
              refine ⟨_, ret_vi (by rw [unhide HR]), ?_, (unhide HB1).trans ((unhide HB).drew.mono (unhide HB1).size)⟩
              rw [unhide HR]; exact Ints.nil _
          | some z =>
            have HS := hide (kinds_step (unhide HP) hz (unhide HK))
            have HFZ := hide (kind_fits hz)
            obtain ⟨n, hn, hnz⟩ := (Pw.inn_iff z).1 (Pw.word_kind hz).1
            have hz' : (z == 0) = false := by rw [beq_eq_false_iff_ne]; omega
            rw [hz] at HK2
            have HK3 : Hid (∀ W, Below wr.heap.size wr W → Calls Tryd.prog 21 #[.string x, .slice (some ⟨0, 0, none⟩) 12 12] W fun e w' => e = .returned (.int .i64 z) ∧ w' = W) := HK2
            clear hz HK2 hn hnz
            have b3 : k + 1 ≤ maxLen := by unfold maxLen; omega
            have b4 : (k + 1) * 8 ≤ 140737488355328 := by omega
            go_wp2_with fail
            go_region_with (go_at_call_of 21 (x); refine ((unhide HK3) _ (by first | exact Below.refl _ _ | exact (Below.refl _ _).drew)).mono ?_; rintro e wx ⟨rfl, rfl⟩)
            all_goals
              have OWD := hide (unhide OWN).drew
              have HBD := hide (unhide HB).drew
              go_wp2_with (at_builtin; refine wpList_append_own _ rfl _ _ 22 rfl w1.heap.size 3 i0 (.int .i64 0) 1 8 Tryd.underlying22 hi hz0 hz1 hz2 rfl (by decide) _ k (cellsZ done) rfl ((unhide OWD).alloc _) _ 1 1 _ rfl rfl (cell_one_new _ _ _) (by simp [Value.oneCell']) b3 b4 (by simp; omega) ?_; intro v1 w2 own1 grow1 _)
              refine ⟨⟨k + 1, done ++ [z], by omega, by go_num, by rw [List.length_append, unhide HDL]; rfl, ?_, unhide HS, ?_, ((unhide HBD).alloc (unhide HBD).size _).grown grow1 (by simp; omega) (own_lt (unhide OWD))⟩, by simp [intOf]; omega⟩
              · intro y hy
                rcases List.mem_append.1 hy with hy | hy
                · exact (unhide HF) y hy
                · rw [List.mem_singleton.1 hy]; exact unhide HFZ
              · rw [cellsZ_append]; exact own1
        · obtain rfl : k = cs.length := by omega
          have HR := hide (parse_of_some (unhide H8) (unhide HN) (by rw [unhide HCS]; exact kinds_end (unhide HK)))
          go_wp2
          go_ret2
          refine ⟨_, ret_vi (by rw [unhide HR]), ?_, (unhide HB1).trans ((unhide HB).mono (unhide HB1).size)⟩
          rw [unhide HR]
          exact Ints.own (own_eq (unhide HDL).symm (unhide OWN)) (by show done.length ≤ _; rw [unhide HDL]; omega) (unhide HF)
end Go.Proofs.YtkhbfdokkmebhaaDoor
