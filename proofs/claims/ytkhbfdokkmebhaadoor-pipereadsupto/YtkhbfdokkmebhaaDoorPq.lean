/- The program's Parse. -/
import Derived.Test.YtkhbfdokkmebhaaDoorPp
namespace Go.Proofs.YtkhbfdokkmebhaaDoor
open Go.RowKit Kb
set_option linter.unusedVariables false

theorem mk_list (l : List UInt8) : (mk l).data.toList = l := by simp [mk]
theorem kinds_step {done : List Int} {cs : List (List UInt8)} {k : Nat} {p : List UInt8} {z : Int} (hp : cs[k]? = some p) (hz : Pw.kind p = some z)
    (h : Pw.kinds cs = (Pw.kinds (cs.drop k)).map (done ++ ·)) : Pw.kinds cs = (Pw.kinds (cs.drop (k + 1))).map ((done ++ [z]) ++ ·) := by
  obtain ⟨hk, rfl⟩ := List.getElem?_eq_some_iff.1 hp
  rw [h, List.drop_eq_getElem_cons hk, Pw.kinds, hz, Option.map_map]
  congr 1
  funext r
  simp
theorem kinds_stop {done : List Int} {cs : List (List UInt8)} {k : Nat} {p : List UInt8} (hp : cs[k]? = some p) (hz : Pw.kind p = none)
    (h : Pw.kinds cs = (Pw.kinds (cs.drop k)).map (done ++ ·)) : Pw.kinds cs = none := by
  obtain ⟨hk, rfl⟩ := List.getElem?_eq_some_iff.1 hp
  rw [h, List.drop_eq_getElem_cons hk, Pw.kinds, hz]; rfl
theorem kinds_end {done : List Int} {cs : List (List UInt8)} (h : Pw.kinds cs = (Pw.kinds (cs.drop cs.length)).map (done ++ ·)) : Pw.kinds cs = some done := by
  rw [h, List.drop_length, Pw.kinds]; simp
theorem kind_fits {p : List UInt8} {z : Int} (h : Pw.kind p = some z) : -9223372036854775808 ≤ z ∧ z ≤ 9223372036854775807 := by
  obtain ⟨n, h1, h2⟩ := (Pw.inn_iff z).1 (Pw.word_kind h).1
  omega
theorem ret_vi {v : Value} {k : IntKind} {c d : Int} (g : c = d) : Ending.returned (.tuple #[v, .int k c]) = .returned (.tuple #[v, .int k d]) := by rw [g]
theorem parse_of_none {s : List UInt8} (h8 : ¬ 8 < (Cs.cut 44 s).length) (h1 : ¬ s = [45]) (h : Pw.kinds (Cs.cut 44 s) = none) : Pw.parse s = ([], 3) := by
  unfold Pw.parse; rw [if_neg h8, if_neg h1, h]
theorem parse_of_some {s : List UInt8} {l : List Int} (h8 : ¬ 8 < (Cs.cut 44 s).length) (h1 : ¬ s = [45]) (h : Pw.kinds (Cs.cut 44 s) = some l) : Pw.parse s = (l, 0) := by
  unfold Pw.parse; rw [if_neg h8, if_neg h1, h]

set_option maxRecDepth 20000 in
set_option maxHeartbeats 4000000 in
theorem parse_any (s : ByteArray) (m : Int) (w : World) (hs : s.size ≤ 4294960000) (hm : w.cell? ⟨2, 0, none⟩ = some (.int .i64 m)) (hw : TabS 1 Pw.words w) :
    Calls Tryd.prog 9 #[.string s] w fun e w' => ∃ v, e = .returned (.tuple #[v, .int .i64 (Pw.parse s.data.toList).2]) ∧ Ints w' v (Pw.parse s.data.toList).1 ∧ Below w.heap.size w w' := by
  have H1 := hide (count_c 44 s w)
  obtain ⟨cs, hcs⟩ : ∃ cs, Cs.cut 44 s.data.toList = cs := ⟨_, rfl⟩
  have hpos : 0 < cs.length := by rw [← hcs]; exact List.length_pos_iff.2 (Cs.cut_ne 44 _)
  have HCS := hide hcs
  have hb : cs.length ≤ s.size + 1 := by
    have := Cp.len_wt (Cs.cut 44 s.data.toList); rw [Cs.wt_cut, hcs, len_data] at this; exact this
  rw [hcs] at H1
  clear hcs
  by_cases h8 : 8 < cs.length
  · have HP : Hid (Pw.parse s.data.toList = ([], 2)) := hide (by unfold Pw.parse; rw [unhide HCS, if_pos h8])
    clear hw hm
    go_enter Tryd.func9, Tryd.ntmps9
    go_wp2_with fail
    refine (unhide H1).mono ?_; rintro e wx ⟨rfl, hwx⟩; rw [hwx]; clear hwx wx
    go_wp2
    go_ret2
    refine ⟨_, ret_vi (by rw [unhide HP]), ?_, Below.refl _ _⟩
    rw [unhide HP]; exact Ints.nil _
  · by_cases h1 : s = ⟨#[45]⟩
    · have HP : Hid (Pw.parse s.data.toList = ([], 0)) := hide (by rw [h1]; decide)
      have hq : (s.toList == [45]) = true := by rw [h1, Lib.toList_data]; rfl
      clear hw hm h1
      go_enter Tryd.func9, Tryd.ntmps9
      go_wp2_with fail
      refine (unhide H1).mono ?_; rintro e wx ⟨rfl, hwx⟩; rw [hwx]; clear hwx wx
      go_wp2
      go_ret2
      refine ⟨_, ret_vi (by rw [unhide HP]), ?_, Below.refl _ _⟩
      rw [unhide HP]; exact Ints.nil _
    · have hq : (s.toList == [45]) = false := str_fl h1
      have HN : Hid (¬ s.data.toList = [45]) := hide (fun e => h1 (by rw [← mk_data s, e]; rfl))
      have H8 : Hid (¬ 8 < (Cs.cut 44 s.data.toList).length) := hide (by rw [unhide HCS]; exact h8)
      have H2 := hide (split_at_c 44 s m w hs hm)
      rw [unhide HCS] at H2
      have HW := hide hw
      clear hw hm h1
      obtain ⟨i0, hi, hz0, hz1, hz2⟩ := info_parts infoI64
      go_enter Tryd.func9, Tryd.ntmps9
      go_wp2_with fail
      refine (unhide H1).mono ?_; rintro e wx ⟨rfl, hwx⟩; rw [hwx]; clear hwx wx
      go_wp2_with fail
      refine (unhide H2).mono ?_; rintro e w1 ⟨rfl, hw1⟩
      have HB1 : Hid (Below w.heap.size w w1) := hide (by rw [hw1]; exact (Below.refl _ _).alloc (Nat.le_refl _) _)
      have HC1 : Hid (∀ j p, cs[j]? = some p → w1.cell? ⟨w.heap.size, j, none⟩ = some (.string (mk p))) := hide (by
        intro j p hp
        rw [hw1, World.cell?_alloc_new w _ _ j]; simp [cellsS, hp])
      have hg1 : w.heap.size < w1.heap.size := by rw [hw1]; simp
      have HW1 := hide ((unhide HW).below (unhide HB1))
      clear hw1 H1 H2 HW
      go_wp2
      go_loopw [4, 17] (fun v i wr => ∃ (k : Nat) (done : List Int), k ≤ cs.length ∧ i = .int .i64 k ∧ done.length = k ∧ (∀ z ∈ done, -9223372036854775808 ≤ z ∧ z ≤ 9223372036854775807) ∧ Pw.kinds cs = (Pw.kinds (cs.drop k)).map (done ++ ·) ∧ wr.ownsRow w1.heap.size 3 1 v k (cellsZ done) ∧ Below w1.heap.size w1 wr) (fun _ i _ => cs.length - (intOf i).toNat)
      case atStart => exact ⟨0, [], Nat.zero_le _, rfl, rfl, by simp, by simp, World.ownsRow_nil _ _ _ _, Below.refl _ _⟩
      case round =>
        obtain ⟨k, done, hk, rfl, hdl, hfit, hkin, hown, hbel⟩ := hrel
        have hB := hbel.size
        have OWN := hide hown
        have HB := hide hbel
        have HF := hide hfit
        have HK := hide hkin
        have HDL := hide hdl
        clear hown hbel hfit hkin hdl
        by_cases hlt : k < cs.length
        · obtain ⟨p, hp⟩ : ∃ p, cs[k]? = some p := ⟨cs[k], List.getElem?_eq_getElem hlt⟩
          have hload := cell_below ((unhide HC1) k p hp) hg1 (unhide HB)
          have HK2 := hide (kindOf_any (mk p) wr ((unhide HW1).below (unhide HB)))
          rw [kdV, kdB, mk_list] at HK2
          obtain ⟨x, hx⟩ : ∃ x, mk p = x := ⟨_, rfl⟩
          rw [hx] at hload HK2
          have HP := hide hp
          clear hp hx
          cases hz : Pw.kind p with
          | none =>
            have HR := hide (parse_of_none (unhide H8) (unhide HN) (by rw [unhide HCS]; exact kinds_stop (unhide HP) hz (unhide HK)))
            rw [hz] at HK2
            clear hz
            go_wp2_with fail
            refine (unhide HK2).mono ?_; rintro e wx ⟨rfl, hwx⟩; rw [hwx]; clear hwx wx
            go_wp2
            go_ret2
            refine ⟨_, ret_vi (by rw [unhide HR]), ?_, (unhide HB1).trans ((unhide HB).mono (unhide HB1).size)⟩
            rw [unhide HR]; exact Ints.nil _
          | some z =>
            have HS := hide (kinds_step (unhide HP) hz (unhide HK))
            have HFZ := hide (kind_fits hz)
            rw [hz] at HK2
            have HK3 : Hid (Calls Tryd.prog 19 #[.string x] wr fun e w' => e = .returned (.tuple #[.int .i64 z, .bool true]) ∧ w' = wr) := HK2
            clear hz HK2
            have b3 : k + 1 ≤ maxLen := by unfold maxLen; omega
            have b4 : (k + 1) * 8 ≤ 140737488355328 := by omega
            go_wp2_with fail
            refine (unhide HK3).mono ?_; rintro e wx ⟨rfl, hwx⟩; rw [hwx]; clear hwx wx
            go_wp2_with (at_builtin; refine wpList_append_own _ rfl _ _ 22 rfl w1.heap.size 3 i0 (.int .i64 0) 1 8 Tryd.underlying22 hi hz0 hz1 hz2 rfl (by decide) _ k (cellsZ done) rfl ((unhide OWN).alloc _) _ 1 1 _ rfl rfl (cell_one_new _ _ _) (by simp [Value.oneCell']) b3 b4 (by simp; omega) ?_; intro v1 w2 own1 grow1 _)
            refine ⟨⟨k + 1, done ++ [z], by omega, by go_num, by rw [List.length_append, unhide HDL]; rfl, ?_, unhide HS, ?_, ((unhide HB).alloc hB _).grown grow1 (by simp; omega) (own_lt (unhide OWN))⟩, by simp [intOf]; omega⟩
            · intro y hy
              rcases List.mem_append.1 hy with hy | hy
              · exact (unhide HF) y hy
              · rw [List.mem_singleton.1 hy]; exact unhide HFZ
            · rw [cellsZ_append]; exact own1
        · obtain rfl : k = cs.length := by omega
          have HR := hide (parse_of_some (unhide H8) (unhide HN) (by rw [unhide HCS]; exact kinds_end (unhide HK)))
          go_wp2
          go_ret2
          refine ⟨_, ret_vi (by rw [unhide HR]), ?_, (unhide HB1).trans ((unhide HB).mono (unhide HB1).size)⟩
          rw [unhide HR]
          exact Ints.own (own_eq (unhide HDL).symm (unhide OWN)) (by show done.length ≤ _; rw [unhide HDL]; omega) (unhide HF)
end Go.Proofs.YtkhbfdokkmebhaaDoor
