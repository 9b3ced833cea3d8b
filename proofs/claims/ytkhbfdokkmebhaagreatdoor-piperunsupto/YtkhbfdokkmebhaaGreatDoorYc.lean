/- The walk of the document's Path. -/
import Derived.Test.YtkhbfdokkmebhaaGreatDoorYa
import Derived.Test.YtkhbfdokkmebhaaGreatDoorYb
namespace Go.Proofs.YtkhbfdokkmebhaaGreatDoor
open Go.RowKit Kb
set_option linter.unusedVariables false
set_option maxRecDepth 20000

theorem at_root (s : ByteArray) (w : World) (hs : s.size ≤ 68719476736) :
    Calls Tryz.prog 39 #[.string s, .int .i64 0, .string ⟨#[47]⟩] w fun e w' => e = .returned (.bool (Cp.rooted s.data.toList)) ∧ w' = w := by
  have h := at_drop s ⟨#[47]⟩ 0 _ w (by omega) (by decide) (by decide) (by omega) rfl
  rw [show (⟨#[47]⟩ : ByteArray).data.toList = [47] from rfl, List.drop_zero, at_one] at h
  have e : (s.data.toList.head?.map (· == 47)).getD false = Cp.rooted s.data.toList := by
    unfold Cp.rooted
    cases s.data.toList with
    | nil => rfl
    | cons b l => rfl
  rw [e] at h; exact h

set_option maxRecDepth 100000 in
set_option maxHeartbeats 16000000 in
theorem rpath_at (s q : ByteArray) (hq : q.data.toList = Cp.path s.data.toList) (hs : s.size ≤ 4294960000) (w : World) :
    Calls Tryz.prog 15 #[.string s] w fun e w' => e = .returned (.string q) ∧ Below w.heap.size w w' := by
  obtain ⟨i0, hi, hz0, hz1, hz2⟩ := info_parts infoS
  have H1 := hide (rpieces_any s w hs)
  have H2 := hide (fun W => at_root s W (by omega))
  obtain ⟨ps, hps⟩ : ∃ ps, Cp.cut s.data.toList = ps := ⟨_, rfl⟩
  obtain ⟨r, hr⟩ : ∃ r, Cp.rooted s.data.toList = r := ⟨_, rfl⟩
  have hne : ps ≠ [] := by rw [← hps]; exact Cp.cut_ne _
  have hwt := Cp.wt_stack r ps
  rw [← hps, Cp.wt_cut, len_data, hps] at hwt
  have hwl : Cp.wt (Cp.left r ps) ≤ s.size + 1 := by rw [Cp.left, Cp.wt_rev]; exact hwt
  have hpl := Cp.len_wt ps
  rw [← hps, Cp.wt_cut, len_data, hps] at hpl
  have HQ : Hid (q.data.toList = (if r then [47] else []) ++ Lib.join (Cp.left r ps) [47] ++ (if Cp.left r ps ≠ [] ∧ Cp.ends ps = true then [47] else [])) := hide (by
    rw [hq, Cp.path, hps, hr])
  rw [hps] at H1
  rw [hr] at H2
  clear hps hr hq hwt
  go_enter Tryz.func15, Tryz.ntmps15
  go_wp2_with fail
  refine (unhide H1).mono ?_; rintro e w1 ⟨pv, rfl, hpown, b1⟩
  have B1 := hide b1
  obtain ⟨pb, pc, hv, hpc⟩ := own_form hpown (List.length_pos_iff.2 hne)
  subst hv
  have hpb : pb < w1.heap.size := (hpown.lt pb rfl).2
  have HC : Hid (∀ j p, ps[j]? = some p → w1.cell? ⟨pb, j, none⟩ = some (.string (mk p))) := hide (by
    intro j p hp
    have hj2 : j < ps.length := (List.getElem?_eq_some_iff.1 hp).1
    rw [hpown.cellAt j (by omega), cellsS, List.getElem?_map, hp]; rfl)
  clear b1 hpown H1 hpc
  go_wp2_with fail
  refine ((unhide H2) _).mono ?_; rintro e wx ⟨rfl, hwx⟩; rw [hwx]; clear hwx wx
  go_wp2_with fail
  go_loopw [5, 6] (fun v i wr => ∃ k : Nat, k ≤ ps.length ∧ i = .int .i64 k ∧ wr.ownsRow w1.heap.size 9 1 v (Cp.left r (ps.take k)).length (cellsS (Cp.left r (ps.take k))) ∧ Below w1.heap.size w1 wr) (fun _ i _ => ps.length - (intOf i).toNat)
  case atStart => exact ⟨0, Nat.zero_le _, rfl, World.ownsRow_nil _ _ _ _, Below.refl _ _⟩
  case round =>
    obtain ⟨k, hk, rfl, hown, hbel⟩ := hrel
    have hB := hbel.size
    have OWN := hide hown
    have HB := hide hbel
    clear hown hbel H2
    by_cases hlt : k < ps.length
    · obtain ⟨p, hp⟩ : ∃ p, ps[k]? = some p := ⟨ps[k], List.getElem?_eq_getElem hlt⟩
      have hload := cell_below ((unhide HC) k p hp) hpb (unhide HB)
      have HS := hide (left_succ r ps k p hp)
      have hq : (Cp.left r (ps.take k)).length ≤ k := by
        have := left_len r (ps.take k); rw [List.length_take] at this; omega
      obtain ⟨st, hst⟩ : ∃ st, Cp.stack r (ps.take k) = st := ⟨_, rfl⟩
      obtain ⟨n, hn2⟩ : ∃ n, (Cp.left r (ps.take k)).length = n := ⟨_, rfl⟩
      have hnst : n = st.length := by rw [← hn2, Cp.left, List.length_reverse, hst]
      have OWN2 : Hid (wr.ownsRow w1.heap.size 9 1 u5 n (cellsS st.reverse)) := hide (by have := unhide OWN; rw [hn2, Cp.left, hst] at this; exact this)
      rw [hst] at HS
      rw [hn2] at hq
      have HL : Hid (Cp.left r (ps.take (k + 1)) = (Cp.put r st p).reverse) := hide (by rw [Cp.left, unhide HS])
      have HNST := hide hnst
      clear OWN HS hn2 hp hnst HQ hwl
      have b3 : n + 1 ≤ maxLen := by unfold maxLen; omega
      have b4 : (n + 1) * 16 ≤ 140737488355328 := by omega
      obtain ⟨x, hx⟩ : ∃ x, mk p = x := ⟨_, rfl⟩
      rw [hx] at hload
      by_cases ha : p = [] ∨ p = [46]
      · rw [Cp.put_skip r st ha] at HL
        obtain ⟨o, cp, hv⟩ := own_forms (unhide OWN2)
        subst hv
        by_cases hd : p = []
        · have hx1 : x = ⟨#[]⟩ := by rw [← hx, hd]; rfl
          subst hx1
          clear hx ha
          go_wp2
          refine ⟨⟨k + 1, by omega, by go_num, ?_, unhide HB⟩, by simp [intOf]; omega⟩
          rw [unhide HL, List.length_reverse, ← unhide HNST]; exact unhide OWN2
        · have hx1 : x = ⟨#[46]⟩ := by rw [← hx, ha.resolve_left hd]; rfl
          subst hx1
          clear hx ha
          go_wp2
          refine ⟨⟨k + 1, by omega, by go_num, ?_, unhide HB⟩, by simp [intOf]; omega⟩
          rw [unhide HL, List.length_reverse, ← unhide HNST]; exact unhide OWN2
      · have hx1 : x ≠ ⟨#[]⟩ := by intro e; rw [← hx] at e; exact ha (.inl (mk_inj (b := []) e))
        have hx2 : x ≠ ⟨#[46]⟩ := by intro e; rw [← hx] at e; exact ha (.inr (mk_inj (b := [46]) e))
        have ex1 : (x.toList == []) = false := str_fl hx1
        have ex0 : x.toList.isEmpty = false := by cases h : x.toList with | nil => rw [h] at ex1; cases ex1 | cons a b => rfl
        have ex2 : (x.toList == [46]) = false := str_fl hx2
        by_cases hb : p = Cp.dd
        · subst hb
          have hx3 : x = ⟨#[46, 46]⟩ := hx.symm
          subst hx3
          clear ha ex0 ex1 ex2 hx1 hx2 hx
          rcases st with _ | ⟨q, t⟩
          · have h0 : n = 0 := unhide HNST
            subst h0
            obtain ⟨o, cp, hv⟩ := own_forms (unhide OWN2)
            subst hv
            rw [Cp.put_dd r [] (.inl rfl)] at HL
            rcases r with _ | _
            · go_wp2_with (at_builtin; refine wpList_append_own _ rfl _ _ 41 rfl w1.heap.size 9 i0 (.string ByteArray.empty) 1 16 Tryz.underlying41 hi hz0 hz1 hz2 rfl (by decide) _ 0 (cellsS [].reverse) rfl ((unhide OWN2).alloc _) _ 1 1 _ rfl rfl (cell_one_new _ _ _) (by simp [Value.oneCell']) b3 b4 (by simp; omega) ?_; intro v1 w2 own1 grow1 _)
              refine ⟨⟨k + 1, by omega, by go_num, ?_, ((unhide HB).alloc hB _).grown grow1 (by simp; omega) (own_lt (unhide OWN2))⟩, by simp [intOf]; omega⟩
              rw [unhide HL]; exact own1
            · go_wp2
              refine ⟨⟨k + 1, by omega, by go_num, ?_, unhide HB⟩, by simp [intOf]; omega⟩
              rw [unhide HL]; exact unhide OWN2
          · obtain ⟨m, hm⟩ : ∃ m, n = m + 1 := ⟨t.length, unhide HNST⟩
            subst hm
            have hmt : Hid (m = t.length) := hide (by have := unhide HNST; simp at this; omega)
            obtain ⟨g, cp, hv, hcp⟩ := own_form (unhide OWN2) (by omega)
            subst hv
            obtain ⟨y, hy⟩ : ∃ y, mk q = y := ⟨_, rfl⟩
            have hcl : wr.cell? ⟨g, m, none⟩ = some (.string y) := by
              rw [(unhide OWN2).cellAt m (by omega), List.reverse_cons, cellsS_append, List.getElem?_append_right (by rw [cellsS_length, List.length_reverse, unhide hmt]; omega), cellsS_length, List.length_reverse, unhide hmt, Nat.sub_self, ← hy]
              rfl
            by_cases hq2 : q = Cp.dd
            · have hy2 : y = ⟨#[46, 46]⟩ := by rw [← hy, hq2]; rfl
              subst hy2
              rw [Cp.put_dd r (q :: t) (.inr ⟨t, by rw [hq2]⟩)] at HL
              rcases r with _ | _
              · go_wp2_with (at_builtin; refine wpList_append_own _ rfl _ _ 41 rfl w1.heap.size 9 i0 (.string ByteArray.empty) 1 16 Tryz.underlying41 hi hz0 hz1 hz2 rfl (by decide) _ (m + 1) (cellsS (q :: t).reverse) rfl ((unhide OWN2).alloc _) _ 1 1 _ rfl rfl (cell_one_new _ _ _) (by simp [Value.oneCell']) b3 b4 (by simp; omega) ?_; intro v1 w2 own1 grow1 _)
                refine ⟨⟨k + 1, by omega, by go_num, ?_, ((unhide HB).alloc hB _).grown grow1 (by simp; omega) (own_lt (unhide OWN2))⟩, by simp [intOf]; omega⟩
                rw [unhide HL, if_neg (by decide), List.reverse_cons, cellsS_append, List.length_append, List.length_reverse, ← unhide HNST]; exact own1
              · go_wp2
                refine ⟨⟨k + 1, by omega, by go_num, ?_, unhide HB⟩, by simp [intOf]; omega⟩
                rw [unhide HL, if_pos rfl, List.length_reverse, ← unhide HNST]; exact unhide OWN2
            · have hy2 : y ≠ ⟨#[46, 46]⟩ := by intro e; rw [← hy] at e; exact hq2 (mk_inj (b := [46, 46]) e)
              have ey : (y.toList == [46, 46]) = false := str_fl hy2
              rw [Cp.put_pop r t hq2] at HL
              have HNEW : Hid (∀ j u, (cellsS t.reverse)[j]? = some u → wr.cell? ((⟨g, 0, none⟩ : Addr).add j) = some u) := hide (by
                intro j u hj
                refine (unhide OWN2).cells rfl j u ?_
                have hjl : j < (cellsS t.reverse).length := (List.getElem?_eq_some_iff.1 hj).1
                rw [List.reverse_cons, cellsS_append, List.getElem?_append_left hjl]; exact hj)
              have hl1 : (cellsS t.reverse).length = m * 1 := by rw [cellsS_length, List.length_reverse, unhide hmt]; omega
              have h1c : ∀ u ∈ cellsS t.reverse, u.oneCell' = true := by
                intro u hu; simp only [cellsS, List.mem_map] at hu; obtain ⟨b, _, rfl⟩ := hu; rfl
              have HL1 := hide hl1
              have H1C := hide h1c
              have c3 : 0 + m ≤ maxLen := by unfold maxLen; omega
              have c4 : (0 + m) * 16 ≤ 140737488355328 := by omega
              clear hq2 hl1 h1c
              go_wp2_with (at_builtin; refine wpList_append_own _ rfl _ _ 41 rfl w1.heap.size 9 i0 (.string ByteArray.empty) 1 16 Tryz.underlying41 hi hz0 hz1 hz2 rfl (by decide) _ 0 [] rfl (World.ownsRow_nil _ _ _ _) ⟨g, 0, none⟩ m cp (cellsS t.reverse) rfl (unhide HL1) (unhide HNEW) (unhide H1C) c3 c4 hB ?_; intro v1 w2 own1 grow1 _)
              refine ⟨⟨k + 1, by omega, by go_num, ?_, (unhide HB).grown grow1 hB (by intro k h; cases h)⟩, by simp [intOf]; omega⟩
              rw [unhide HL, List.length_reverse, ← unhide hmt]
              rw [Nat.zero_add, List.nil_append] at own1
              exact own1
        · have hx3 : x ≠ ⟨#[46, 46]⟩ := by intro e; rw [← hx] at e; exact hb (mk_inj (b := [46, 46]) e)
          have ex3 : (x.toList == [46, 46]) = false := str_fl hx3
          rw [Cp.put_plain r st ha hb] at HL
          have HX := hide hx
          obtain ⟨o, cp, hv⟩ := own_forms (unhide OWN2)
          subst hv
          clear ha hb hx
          go_wp2_with (at_builtin; refine wpList_append_own _ rfl _ _ 41 rfl w1.heap.size 9 i0 (.string ByteArray.empty) 1 16 Tryz.underlying41 hi hz0 hz1 hz2 rfl (by decide) _ n (cellsS st.reverse) rfl ((unhide OWN2).alloc _) _ 1 1 _ rfl rfl (cell_one_new _ _ _) (by simp [Value.oneCell']) b3 b4 (by simp; omega) ?_; intro v1 w2 own1 grow1 _)
          refine ⟨⟨k + 1, by omega, by go_num, ?_, ((unhide HB).alloc hB _).grown grow1 (by simp; omega) (own_lt (unhide OWN2))⟩, by simp [intOf]; omega⟩
          rw [unhide HL, List.reverse_cons, cellsS_append, List.length_append, List.length_reverse, ← unhide HNST]
          show World.ownsRow _ _ _ _ _ _ (cellsS st.reverse ++ [Value.string (mk p)])
          rw [unhide HX]; exact own1
    · obtain rfl : k = ps.length := by omega
      rw [List.take_length] at OWN
      have BW := hide (bel_trans (unhide B1) (unhide HB))
      obtain ⟨L, hL⟩ : ∃ L, Cp.left r ps = L := ⟨_, rfl⟩
      rw [hL] at OWN HQ hwl
      obtain ⟨p0, hp0⟩ := Cp.snoc_of hne
      obtain ⟨m, hm⟩ : ∃ m, ps.length = m + 1 := ⟨ps.length - 1, by have := List.length_pos_iff.2 hne; omega⟩
      obtain ⟨p, hp⟩ : ∃ p, Cp.lastOf ps = p := ⟨_, rfl⟩
      rw [hp] at hp0
      have hpm : ps[m]? = some p := by
        have : p0.length = m := by have := congrArg List.length hp0; rw [hm] at this; simp at this; omega
        rw [hp0, List.getElem?_append_right (by omega), this, Nat.sub_self]; rfl
      have hload := cell_below ((unhide HC) m p hpm) hpb (unhide HB)
      have HE : Hid (Cp.ends ps = (decide (1 < m + 1) && Cp.dots p)) := hide (by unfold Cp.ends; rw [hp, hm])
      rw [unhide HE] at HQ
      have H4 := hide (rjoined_row L u5 _ wr (unhide OWN) (by omega))
      obtain ⟨j, hj⟩ : ∃ j, mk (Lib.join L [47]) = j := ⟨_, rfl⟩
      have HJ : Hid (j.data.toList = Lib.join L [47]) := hide (by rw [← hj]; simp [mk])
      have hjs : j.size ≤ 4294970000 := by have := Cp.join_len L; rw [← unhide HJ, len_data] at this; omega
      have hsz : L.length ≤ 4294970000 := by have := Cp.len_wt L; omega
      rw [hj] at H4
      obtain ⟨o, c, hv⟩ := own_forms (unhide OWN)
      subst hv
      rw [hm] at hpl
      have HMM := hide hm
      clear hj hL hp0 hp hpm HE hne HC OWN HB B1 hB hk hlt hwl
      generalize ps.length = pn at *
      obtain rfl : pn = m + 1 := unhide HMM
      clear HMM
      obtain ⟨x, hx⟩ : ∃ x, mk p = x := ⟨_, rfl⟩
      rw [hx] at hload
      go_wp2_with fail
      refine (unhide H4).mono ?_; rintro e w2 ⟨rfl, hwx⟩; rw [hwx]; clear hwx w2 H4
      rcases L with _ | ⟨x0, t0⟩
      · rcases r with _ | _
        · obtain rfl : q = j := by apply eq_of_lists; rw [unhide HQ]; simp [unhide HJ, Cp.dots, Cp.dd]
          clear HQ
          go_wp2
          go_ret
          exact ⟨rfl, unhide BW⟩
        · obtain rfl : q = (⟨#[47]⟩ : ByteArray) ++ j := by apply eq_of_lists; rw [unhide HQ]; simp [unhide HJ, Cp.dots, Cp.dd]
          clear HQ
          go_wp2
          go_ret
          exact ⟨rfl, unhide BW⟩
      · rcases m with _ | m
        · rcases r with _ | _
          · obtain rfl : q = j := by apply eq_of_lists; rw [unhide HQ]; simp [unhide HJ, Cp.dots, Cp.dd]
            clear HQ
            go_wp2
            go_ret
            exact ⟨rfl, unhide BW⟩
          · obtain rfl : q = (⟨#[47]⟩ : ByteArray) ++ j := by apply eq_of_lists; rw [unhide HQ]; simp [unhide HJ, Cp.dots, Cp.dd]
            clear HQ
            go_wp2
            go_ret
            exact ⟨rfl, unhide BW⟩
        · by_cases h1 : p = []
          · subst h1
            have hx3 : x = ⟨#[]⟩ := hx.symm
            subst hx3
            clear hx
            rcases r with _ | _
            · obtain rfl : q = j ++ (⟨#[47]⟩ : ByteArray) := by apply eq_of_lists; rw [unhide HQ]; simp [unhide HJ, Cp.dots, Cp.dd]
              clear HQ
              go_wp2
              go_ret
              exact ⟨rfl, unhide BW⟩
            · obtain rfl : q = (⟨#[47]⟩ : ByteArray) ++ (j ++ (⟨#[47]⟩ : ByteArray)) := by apply eq_of_lists; rw [unhide HQ]; simp [unhide HJ, Cp.dots, Cp.dd]
              clear HQ
              have hz : (j ++ (⟨#[47]⟩ : ByteArray)).size ≤ 4294970001 := by rw [ByteArray.size_append]; show j.size + 1 ≤ _; omega
              go_wp2
              go_ret
              exact ⟨rfl, unhide BW⟩
          have hx1 : x ≠ ⟨#[]⟩ := by intro e; rw [← hx] at e; exact h1 (mk_inj (b := []) e)
          have ex1 : (x.toList == []) = false := str_fl hx1
          have ex0 : x.toList.isEmpty = false := by cases h : x.toList with | nil => rw [h] at ex1; cases ex1 | cons a b => rfl
          by_cases h2 : p = [46]
          · subst h2
            have hx3 : x = ⟨#[46]⟩ := hx.symm
            subst hx3
            clear hx
            clear ex0 ex1 hx1 h1
            rcases r with _ | _
            · obtain rfl : q = j ++ (⟨#[47]⟩ : ByteArray) := by apply eq_of_lists; rw [unhide HQ]; simp [unhide HJ, Cp.dots, Cp.dd]
              clear HQ
              go_wp2
              go_ret
              exact ⟨rfl, unhide BW⟩
            · obtain rfl : q = (⟨#[47]⟩ : ByteArray) ++ (j ++ (⟨#[47]⟩ : ByteArray)) := by apply eq_of_lists; rw [unhide HQ]; simp [unhide HJ, Cp.dots, Cp.dd]
              clear HQ
              have hz : (j ++ (⟨#[47]⟩ : ByteArray)).size ≤ 4294970001 := by rw [ByteArray.size_append]; show j.size + 1 ≤ _; omega
              go_wp2
              go_ret
              exact ⟨rfl, unhide BW⟩
          have hx2 : x ≠ ⟨#[46]⟩ := by intro e; rw [← hx] at e; exact h2 (mk_inj (b := [46]) e)
          have ex2 : (x.toList == [46]) = false := str_fl hx2
          by_cases h3 : p = Cp.dd
          · subst h3
            have hx3 : x = ⟨#[46, 46]⟩ := hx.symm
            subst hx3
            clear hx
            clear ex0 ex1 hx1 h1 ex2 hx2 h2
            rcases r with _ | _
            · obtain rfl : q = j ++ (⟨#[47]⟩ : ByteArray) := by apply eq_of_lists; rw [unhide HQ]; simp [unhide HJ, Cp.dots, Cp.dd]
              clear HQ
              go_wp2
              go_ret
              exact ⟨rfl, unhide BW⟩
            · obtain rfl : q = (⟨#[47]⟩ : ByteArray) ++ (j ++ (⟨#[47]⟩ : ByteArray)) := by apply eq_of_lists; rw [unhide HQ]; simp [unhide HJ, Cp.dots, Cp.dd]
              clear HQ
              have hz : (j ++ (⟨#[47]⟩ : ByteArray)).size ≤ 4294970001 := by rw [ByteArray.size_append]; show j.size + 1 ≤ _; omega
              go_wp2
              go_ret
              exact ⟨rfl, unhide BW⟩
          have hx4 : x ≠ ⟨#[46, 46]⟩ := by intro e; rw [← hx] at e; exact h3 (mk_inj (b := [46, 46]) e)
          have ex3 : (x.toList == [46, 46]) = false := str_fl hx4
          have hdt : Cp.dots p = false := by simp [Cp.dots, h1, h2, h3]
          rw [hdt, Bool.and_false] at HQ
          clear h1 h2 h3 hx hx1 hx2 hx4 hdt
          rcases r with _ | _
          · obtain rfl : q = j := by apply eq_of_lists; rw [unhide HQ]; simp [unhide HJ]
            clear HQ
            go_wp2
            go_ret
            exact ⟨rfl, unhide BW⟩
          · obtain rfl : q = (⟨#[47]⟩ : ByteArray) ++ j := by apply eq_of_lists; rw [unhide HQ]; simp [unhide HJ]
            clear HQ
            go_wp2
            go_ret
            exact ⟨rfl, unhide BW⟩
end Go.Proofs.YtkhbfdokkmebhaaGreatDoor
