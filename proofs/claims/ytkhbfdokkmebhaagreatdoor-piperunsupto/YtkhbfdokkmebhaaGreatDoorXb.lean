/- Walks of the program's leftOf, endsInside, Path. -/
import Derived.Test.YtkhbfdokkmebhaaGreatDoorKd
import Derived.Test.YtkhbfdokkmebhaaGreatDoorXa
import Derived.Laws.OwnMore
import Derived.Lib.SmallJoins
namespace Go.Proofs.YtkhbfdokkmebhaaGreatDoor
open Go.RowKit Kb
set_option linter.unusedVariables false
set_option maxRecDepth 20000

theorem put_len (r : Bool) (st : List (List UInt8)) (p : List UInt8) : (Cp.put r st p).length ≤ st.length + 1 := by
  unfold Cp.put
  split
  · omega
  · split
    · simp
    · split
      · split
        · simp; omega
        · split <;> simp
      · split <;> simp
theorem take_len_le (r : Bool) : ∀ (ps st : List (List UInt8)), (ps.foldl (Cp.put r) st).length ≤ st.length + ps.length
  | [], st => by simp
  | p :: ps, st => by
    have h := take_len_le r ps (Cp.put r st p)
    have h2 := put_len r st p
    simp only [List.foldl_cons, List.length_cons]; omega
theorem left_len (r : Bool) (ps : List (List UInt8)) : (Cp.left r ps).length ≤ ps.length := by
  have := take_len_le r ps []
  rw [Cp.left, List.length_reverse]; simpa [Cp.stack] using this
theorem left_succ (r : Bool) (ps : List (List UInt8)) (k : Nat) (p : List UInt8) (h : ps[k]? = some p) : Cp.stack r (ps.take (k + 1)) = Cp.put r (Cp.stack r (ps.take k)) p := by
  rw [List.take_add_one, h]; exact Cp.stack_snoc _ _ _
set_option maxHeartbeats 4000000 in
theorem leftOf_any (r : Bool) (ps : List (List UInt8)) (pb cap : Nat) (w : World) (hpb : pb < w.heap.size) (hn : ps.length ≤ 1099511627776)
    (hcell : ∀ j p, ps[j]? = some p → w.cell? ⟨pb, j, none⟩ = some (.string (mk p))) :
    Calls Tryz.prog 52 #[.slice (some ⟨pb, 0, none⟩) ps.length cap, .bool r] w fun e w' =>
      ∃ v, e = .returned v ∧ w'.ownsRow w.heap.size 9 1 v (Cp.left r ps).length (cellsS (Cp.left r ps)) ∧ Below w.heap.size w w' := by
  obtain ⟨i0, hi, hz0, hz1, hz2⟩ := info_parts infoS
  have HC := hide hcell
  clear hcell
  go_enter Tryz.func52, Tryz.ntmps52
  go_wp2
  go_loopw [5, 11] (fun v i wr => ∃ k : Nat, k ≤ ps.length ∧ i = .int .i64 k ∧ wr.ownsRow w.heap.size 9 1 v (Cp.left r (ps.take k)).length (cellsS (Cp.left r (ps.take k))) ∧ Below w.heap.size w wr) (fun _ i _ => ps.length - (intOf i).toNat)
  case atStart => exact ⟨0, Nat.zero_le _, rfl, World.ownsRow_nil _ _ _ _, Below.refl _ _⟩
  case round =>
    obtain ⟨k, hk, rfl, hown, hbel⟩ := hrel
    have hB := hbel.size
    have OWN := hide hown
    have HB := hide hbel
    clear hown hbel
    by_cases hlt : k < ps.length
    · obtain ⟨p, hp⟩ : ∃ p, ps[k]? = some p := ⟨ps[k], List.getElem?_eq_getElem hlt⟩
      have hload := cell_below ((unhide HC) k p hp) hpb (unhide HB)
      have HS := hide (left_succ r ps k p hp)
      have hq : (Cp.left r (ps.take k)).length ≤ k := by
        have := left_len r (ps.take k); rw [List.length_take] at this; omega
      obtain ⟨st, hst⟩ : ∃ st, Cp.stack r (ps.take k) = st := ⟨_, rfl⟩
      obtain ⟨n, hn2⟩ : ∃ n, (Cp.left r (ps.take k)).length = n := ⟨_, rfl⟩
      have hnst : n = st.length := by rw [← hn2, Cp.left, List.length_reverse, hst]
      have OWN2 : Hid (wr.ownsRow w.heap.size 9 1 u5 n (cellsS st.reverse)) := hide (by have := unhide OWN; rw [hn2, Cp.left, hst] at this; exact this)
      rw [hst] at HS
      rw [hn2] at hq
      have HL : Hid (Cp.left r (ps.take (k + 1)) = (Cp.put r st p).reverse) := hide (by rw [Cp.left, unhide HS])
      have HNST := hide hnst
      clear OWN HS hn2 hp hnst
      have b3 : n + 1 ≤ maxLen := by unfold maxLen; omega
      have b4 : (n + 1) * 16 ≤ 140737488355328 := by omega
      obtain ⟨x, hx⟩ : ∃ x, mk p = x := ⟨_, rfl⟩
      rw [hx] at hload
      by_cases ha : p = [] ∨ p = [46]
      · rw [Cp.put_skip r st ha] at HL
        obtain ⟨o, cp, hv⟩ := own_forms (unhide OWN2)
        subst hv
        by_cases hd : p = []
        · have hx1 : x = ⟨#[]⟩ := by rw [← hx, hd]; rfl
          subst hx1
          clear hx ha
          go_wp2
          refine ⟨⟨k + 1, by omega, by go_num, ?_, unhide HB⟩, by simp [intOf]; omega⟩
          rw [unhide HL, List.length_reverse, ← unhide HNST]; exact unhide OWN2
        · have hx1 : x = ⟨#[46]⟩ := by rw [← hx, ha.resolve_left hd]; rfl
          subst hx1
          clear hx ha
          go_wp2
          refine ⟨⟨k + 1, by omega, by go_num, ?_, unhide HB⟩, by simp [intOf]; omega⟩
          rw [unhide HL, List.length_reverse, ← unhide HNST]; exact unhide OWN2
      · have hx1 : x ≠ ⟨#[]⟩ := by intro e; rw [← hx] at e; exact ha (.inl (mk_inj (b := []) e))
        have hx2 : x ≠ ⟨#[46]⟩ := by intro e; rw [← hx] at e; exact ha (.inr (mk_inj (b := [46]) e))
        have ex1 : (x.toList == []) = false := str_fl hx1
        have ex0 : x.toList.isEmpty = false := by cases h : x.toList with | nil => rw [h] at ex1; cases ex1 | cons a b => rfl
        have ex2 : (x.toList == [46]) = false := str_fl hx2
        by_cases hb : p = Cp.dd
        · subst hb
          have hx3 : x = ⟨#[46, 46]⟩ := hx.symm
          subst hx3
          clear ha ex0 ex1 ex2 hx1 hx2 hx
          rcases st with _ | ⟨q, t⟩
          · have h0 : n = 0 := unhide HNST
            subst h0
            obtain ⟨o, cp, hv⟩ := own_forms (unhide OWN2)
            subst hv
            rw [Cp.put_dd r [] (.inl rfl)] at HL
            rcases r with _ | _
            · go_wp2_with (at_builtin; refine wpList_append_own _ rfl _ _ 41 rfl w.heap.size 9 i0 (.string ByteArray.empty) 1 16 Tryz.underlying41 hi hz0 hz1 hz2 rfl (by decide) _ 0 (cellsS [].reverse) rfl ((unhide OWN2).alloc _) _ 1 1 _ rfl rfl (cell_one_new _ _ _) (by simp [Value.oneCell']) b3 b4 (by simp; omega) ?_; intro v1 w1 own1 grow1 _)
              refine ⟨⟨k + 1, by omega, by go_num, ?_, ((unhide HB).alloc hB _).grown grow1 (by simp; omega) (own_lt (unhide OWN2))⟩, by simp [intOf]; omega⟩
              rw [unhide HL]; exact own1
            · go_wp2
              refine ⟨⟨k + 1, by omega, by go_num, ?_, unhide HB⟩, by simp [intOf]; omega⟩
              rw [unhide HL]; exact unhide OWN2
          · obtain ⟨m, hm⟩ : ∃ m, n = m + 1 := ⟨t.length, unhide HNST⟩
            subst hm
            have hmt : Hid (m = t.length) := hide (by have := unhide HNST; simp at this; omega)
            obtain ⟨g, cp, hv, hcp⟩ := own_form (unhide OWN2) (by omega)
            subst hv
            obtain ⟨y, hy⟩ : ∃ y, mk q = y := ⟨_, rfl⟩
            have hcl : wr.cell? ⟨g, m, none⟩ = some (.string y) := by
              rw [(unhide OWN2).cellAt m (by omega), List.reverse_cons, cellsS_append, List.getElem?_append_right (by rw [cellsS_length, List.length_reverse, unhide hmt]; omega), cellsS_length, List.length_reverse, unhide hmt, Nat.sub_self, ← hy]
              rfl
            by_cases hq2 : q = Cp.dd
            · have hy2 : y = ⟨#[46, 46]⟩ := by rw [← hy, hq2]; rfl
              subst hy2
              rw [Cp.put_dd r (q :: t) (.inr ⟨t, by rw [hq2]⟩)] at HL
              rcases r with _ | _
              · go_wp2_with (at_builtin; refine wpList_append_own _ rfl _ _ 41 rfl w.heap.size 9 i0 (.string ByteArray.empty) 1 16 Tryz.underlying41 hi hz0 hz1 hz2 rfl (by decide) _ (m + 1) (cellsS (q :: t).reverse) rfl ((unhide OWN2).alloc _) _ 1 1 _ rfl rfl (cell_one_new _ _ _) (by simp [Value.oneCell']) b3 b4 (by simp; omega) ?_; intro v1 w1 own1 grow1 _)
                refine ⟨⟨k + 1, by omega, by go_num, ?_, ((unhide HB).alloc hB _).grown grow1 (by simp; omega) (own_lt (unhide OWN2))⟩, by simp [intOf]; omega⟩
                rw [unhide HL, if_neg (by decide), List.reverse_cons, cellsS_append, List.length_append, List.length_reverse, ← unhide HNST]; exact own1
              · go_wp2
                refine ⟨⟨k + 1, by omega, by go_num, ?_, unhide HB⟩, by simp [intOf]; omega⟩
                rw [unhide HL, if_pos rfl, List.length_reverse, ← unhide HNST]; exact unhide OWN2
            · have hy2 : y ≠ ⟨#[46, 46]⟩ := by intro e; rw [← hy] at e; exact hq2 (mk_inj (b := [46, 46]) e)
              have ey : (y.toList == [46, 46]) = false := str_fl hy2
              rw [Cp.put_pop r t hq2] at HL
              have OWN3 : Hid (wr.ownsRow w.heap.size 9 1 (.slice (some ⟨g, 0, none⟩) m cp) m (cellsS t.reverse)) := hide (by
                have := unhide OWN2
                rw [List.reverse_cons, cellsS_append] at this
                exact ownsRow_pop (by rw [cellsS_length, List.length_reverse, unhide hmt]; omega) this)
              clear hq2
              go_wp2
              refine ⟨⟨k + 1, by omega, by go_num, ?_, unhide HB⟩, by simp [intOf]; omega⟩
              rw [unhide HL, List.length_reverse, ← unhide hmt]; exact unhide OWN3
        · have hx3 : x ≠ ⟨#[46, 46]⟩ := by intro e; rw [← hx] at e; exact hb (mk_inj (b := [46, 46]) e)
          have ex3 : (x.toList == [46, 46]) = false := str_fl hx3
          rw [Cp.put_plain r st ha hb] at HL
          have HX := hide hx
          obtain ⟨o, cp, hv⟩ := own_forms (unhide OWN2)
          subst hv
          clear ha hb hx
          go_wp2_with (at_builtin; refine wpList_append_own _ rfl _ _ 41 rfl w.heap.size 9 i0 (.string ByteArray.empty) 1 16 Tryz.underlying41 hi hz0 hz1 hz2 rfl (by decide) _ n (cellsS st.reverse) rfl ((unhide OWN2).alloc _) _ 1 1 _ rfl rfl (cell_one_new _ _ _) (by simp [Value.oneCell']) b3 b4 (by simp; omega) ?_; intro v1 w1 own1 grow1 _)
          refine ⟨⟨k + 1, by omega, by go_num, ?_, ((unhide HB).alloc hB _).grown grow1 (by simp; omega) (own_lt (unhide OWN2))⟩, by simp [intOf]; omega⟩
          rw [unhide HL, List.reverse_cons, cellsS_append, List.length_append, List.length_reverse, ← unhide HNST]
          show World.ownsRow _ _ _ _ _ _ (cellsS st.reverse ++ [Value.string (mk p)])
          rw [unhide HX]; exact own1
    · obtain rfl : k = ps.length := by omega
      go_wp2
      go_ret
      refine ⟨_, rfl, ?_, unhide HB⟩
      have := unhide OWN
      rwa [List.take_length] at this

set_option maxHeartbeats 2000000 in
theorem endsInside_any (ps : List (List UInt8)) (pb cap : Nat) (w : World) (hn : ps.length ≤ 1099511627776)
    (hcell : ∀ j p, ps[j]? = some p → w.cell? ⟨pb, j, none⟩ = some (.string (mk p))) :
    Calls Tryz.prog 54 #[.slice (some ⟨pb, 0, none⟩) ps.length cap] w fun e w' => e = .returned (.bool (Cp.ends ps)) ∧ w' = w := by
  by_cases h2 : ps.length < 2
  · have HE : Hid (Cp.ends ps = false) := hide (by unfold Cp.ends; rw [decide_eq_false (by omega)]; rfl)
    go_enter Tryz.func54, Tryz.ntmps54
    go_wp2
    go_ret
    exact ⟨Kb.ret_bool (unhide HE).symm, rfl⟩
  · obtain ⟨q, hq⟩ := Cp.snoc_of (show ps ≠ [] from fun e => by rw [e] at h2; simp at h2)
    obtain ⟨m, hm⟩ : ∃ m, ps.length = m + 1 := ⟨ps.length - 1, by omega⟩
    obtain ⟨p, hp⟩ : ∃ p, Cp.lastOf ps = p := ⟨_, rfl⟩
    rw [hp] at hq
    have hpm : ps[m]? = some p := by
      have : q.length = m := by have := congrArg List.length hq; rw [hm] at this; simp at this; omega
      rw [hq, List.getElem?_append_right (by omega), this, Nat.sub_self]; rfl
    have hload := hcell m p hpm
    have HE : Hid (Cp.ends ps = Cp.dots p) := hide (by unfold Cp.ends; rw [decide_eq_true (by omega), hp]; rfl)
    rw [hm] at h2 hn ⊢
    obtain ⟨x, hx⟩ : ∃ x, mk p = x := ⟨_, rfl⟩
    rw [hx] at hload
    clear hcell hq hp hpm
    by_cases h1 : p = []
    · subst h1
      have hx3 : x = ⟨#[]⟩ := hx.symm
      subst hx3
      clear hx
      go_enter Tryz.func54, Tryz.ntmps54
      go_wp2
      go_ret
      exact ⟨Kb.ret_bool (by rw [unhide HE]; rfl), rfl⟩
    · have hx1 : x ≠ ⟨#[]⟩ := by intro e; rw [← hx] at e; exact h1 (mk_inj (b := []) e)
      have ex1 : (x.toList == []) = false := str_fl hx1
      have ex0 : x.toList.isEmpty = false := by cases h : x.toList with | nil => rw [h] at ex1; cases ex1 | cons a b => rfl
      by_cases h3 : p = [46]
      · subst h3
        have hx3 : x = ⟨#[46]⟩ := hx.symm
        subst hx3
        clear hx ex0 ex1 hx1
        go_enter Tryz.func54, Tryz.ntmps54
        go_wp2
        go_ret
        exact ⟨Kb.ret_bool (by rw [unhide HE]; rfl), rfl⟩
      · have hx2 : x ≠ ⟨#[46]⟩ := by intro e; rw [← hx] at e; exact h3 (mk_inj (b := [46]) e)
        have ex2 : (x.toList == [46]) = false := str_fl hx2
        by_cases h4 : p = Cp.dd
        · subst h4
          have hx3 : x = ⟨#[46, 46]⟩ := hx.symm
          subst hx3
          clear hx ex0 ex1 hx1 ex2 hx2
          go_enter Tryz.func54, Tryz.ntmps54
          go_wp2
          go_ret
          exact ⟨Kb.ret_bool (by rw [unhide HE]; rfl), rfl⟩
        · have hx4 : x ≠ ⟨#[46, 46]⟩ := by intro e; rw [← hx] at e; exact h4 (mk_inj (b := [46, 46]) e)
          have ex3 : (x.toList == [46, 46]) = false := str_fl hx4
          have HD : Hid (Cp.dots p = false) := hide (by simp [Cp.dots, h1, h3, h4])
          clear h1 h3 h4 hx hx1 hx2 hx4
          go_enter Tryz.func54, Tryz.ntmps54
          go_wp2
          go_ret
          exact ⟨Kb.ret_bool (by rw [unhide HE, unhide HD]), rfl⟩

theorem split_at (s : ByteArray) (m : Int) (w : World) (hs : s.size ≤ 4294960000) (hm : w.cell? ⟨1, 0, none⟩ = some (.int .i64 m)) :
    Calls Tryz.prog 50 #[.string s, .string ⟨#[47]⟩] w fun e w' =>
      e = .returned (.slice (some ⟨w.heap.size, 0, none⟩) (Cp.cut s.data.toList).length (Cp.cut s.data.toList).length) ∧ w' = w.alloc (.cells (cellsS (Cp.cut s.data.toList)).toArray 9) := by
  have h := Tryz.strings_Split s ⟨#[47]⟩ m w (by omega) hm (by decide)
  have hc : Lib.countB s ⟨#[47]⟩ = Lib.count s.data.toList [47] := rfl
  have hd := Lib.splitB_data ⟨#[47]⟩ 0 (Lib.countB s ⟨#[47]⟩) s
  rw [hc, show (⟨#[47]⟩ : ByteArray).data.toList = [47] from rfl, Cq.split_cut _ _ (Nat.le_refl _)] at hd
  have hl := Lib.splitB_all ⟨#[47]⟩ (by decide) 0 _ s rfl
  rw [hc] at hl h
  have h1 : Lib.count s.data.toList [47] + 1 = (Cp.cut s.data.toList).length := by rw [← hl, ← hd, List.length_map]
  have h2 : (Lib.splitB ⟨#[47]⟩ 0 (Lib.count s.data.toList [47]) s).map Value.string = cellsS (Cp.cut s.data.toList) := by
    rw [← hd, cellsS, List.map_map]
    refine List.map_congr_left fun x _ => ?_
    show Value.string x = Value.string (mk x.data.toList)
    rw [mk_data]
  rw [h1, h2] at h
  exact h
theorem prefix_at (s : ByteArray) (w : World) : Calls Tryz.prog 51 #[.string s, .string ⟨#[47]⟩] w fun e w' => e = .returned (.bool (Cp.rooted s.data.toList)) ∧ w' = w := by
  have h := Tryz.strings_HasPrefix s ⟨#[47]⟩ w
  have e : Lib.hasPrefix s.data.toList (⟨#[47]⟩ : ByteArray).data.toList = Cp.rooted s.data.toList := by
    show ([47] : List UInt8).isPrefixOf s.data.toList = _
    cases s.data.toList with
    | nil => rfl
    | cons b l =>
      by_cases h : b = 47
      · subst h; simp [List.isPrefixOf, Cp.rooted]
      · simp only [List.isPrefixOf, Cp.rooted, List.head?_cons, Bool.and_true]
        rw [beq_false_of_ne (Ne.symm h), beq_false_of_ne (fun e => h (Option.some.inj e))]
  rw [e] at h; exact h
theorem join_row (L : List (List UInt8)) (v : Value) (B : Nat) (w : World) (hown : w.ownsRow B 9 1 v L.length (cellsS L)) (hL : Cp.wt L ≤ 1099511627776) :
    Calls Tryz.prog 53 #[v, .string ⟨#[47]⟩] w fun e w' => e = .returned (.string (mk (Lib.join L [47]))) ∧ Below w.heap.size w w' := by
  have hl := Cp.len_wt L
  have hj := Cp.join_len L
  by_cases hn : L = []
  · subst hn
    obtain ⟨o, c, rfl⟩ := own_forms hown
    refine (Tryz.strings_Join_none o c ⟨#[47]⟩ w).mono ?_
    rintro e w' ⟨rfl, rfl⟩
    exact ⟨rfl, Below.refl _ _⟩
  · have hpos : 0 < L.length := List.length_pos_iff.2 hn
    obtain ⟨g, c, rfl, hc⟩ := own_form hown hpos
    have hlt := (hown.lt g rfl).2
    have e : (L.map mk).map (·.data.toList) = L := by
      rw [List.map_map]
      refine (List.map_congr_left (g := id) fun x _ => ?_).trans (List.map_id _)
      simp [mk]
    have h := Tryz.strings_Join g 0 c (L.map mk) ⟨#[47]⟩ w (by
      intro j x hx
      rw [List.getElem?_map] at hx
      obtain ⟨p, hp, rfl⟩ := Option.map_eq_some_iff.1 hx
      have hj2 : j < L.length := (List.getElem?_eq_some_iff.1 hp).1
      rw [Nat.zero_add, hown.cellAt j (by omega), cellsS, List.getElem?_map, hp]; rfl) hlt (by rw [List.length_map]; omega) (by rw [List.length_map]; omega) (by rw [e]; exact Nat.le_trans hj (by omega))
    rw [e, List.length_map] at h
    exact h
set_option maxHeartbeats 4000000 in
theorem path_at (s q : ByteArray) (hq : q.data.toList = Cp.path s.data.toList) (hs : s.size ≤ 4294960000) (m : Int) (w : World) (hm : w.cell? ⟨1, 0, none⟩ = some (.int .i64 m)) :
    Calls Tryz.prog 28 #[.string s] w fun e w' => e = .returned (.string q) ∧ Below w.heap.size w w' := by
  have hql := Cp.path_len s.data.toList
  rw [← hq, len_data, len_data] at hql
  have H1 := hide (split_at s m w hs hm)
  have H2 := hide (prefix_at s)
  obtain ⟨ps, hps⟩ : ∃ ps, Cp.cut s.data.toList = ps := ⟨_, rfl⟩
  obtain ⟨r, hr⟩ : ∃ r, Cp.rooted s.data.toList = r := ⟨_, rfl⟩
  obtain ⟨L, hL⟩ : ∃ L, Cp.left r ps = L := ⟨_, rfl⟩
  have hwt := Cp.wt_stack r ps
  rw [← hps, Cp.wt_cut, len_data, hps] at hwt
  have hwl : Cp.wt L ≤ s.size + 1 := by rw [← hL, Cp.left, Cp.wt_rev]; exact hwt
  have hpl := Cp.len_wt ps
  rw [← hps, Cp.wt_cut, len_data, hps] at hpl
  have HQ : Hid (q.data.toList = (if r then [47] else []) ++ Lib.join L [47] ++ (if L ≠ [] ∧ Cp.ends ps = true then [47] else [])) := hide (by
    rw [hq, Cp.path, hps, hr, hL])
  obtain ⟨j, hj⟩ : ∃ j, mk (Lib.join L [47]) = j := ⟨_, rfl⟩
  have HJ : Hid (j.data.toList = Lib.join L [47]) := hide (by rw [← hj]; simp [mk])
  rw [hps] at H1
  rw [hr] at H2
  have hcell : ∀ i p, ps[i]? = some p → (w.alloc (.cells (cellsS ps).toArray 9)).cell? ⟨w.heap.size, i, none⟩ = some (.string (mk p)) := by
    intro i p hp
    rw [World.cell?_alloc_new w _ _ i]
    simp [cellsS, hp]
  have H3 := hide (leftOf_any r ps w.heap.size ps.length (w.alloc (.cells (cellsS ps).toArray 9)) (by simp) (by omega) hcell)
  rw [hL] at H3
  have HC := hide hcell
  have HB0 : Hid (Below w.heap.size w (w.alloc (.cells (cellsS ps).toArray 9))) := hide ((Below.refl _ _).alloc (Nat.le_refl _) _)
  have hlt : w.heap.size < (w.alloc (.cells (cellsS ps).toArray 9)).heap.size := by simp
  clear hcell hps hr hL hm hq hwt
  generalize w.alloc (.cells (cellsS ps).toArray 9) = wa at *
  go_enter Tryz.func28, Tryz.ntmps28
  go_wp2_with fail
  refine (unhide H1).mono ?_; rintro e w1 ⟨rfl, hwx⟩; rw [hwx]; clear hwx w1
  go_wp2_with fail
  refine ((unhide H2) _).mono ?_; rintro e w1 ⟨rfl, hwx⟩; rw [hwx]; clear hwx w1
  go_wp2_with fail
  refine (unhide H3).mono ?_; rintro e w2 ⟨v, rfl, hown, b2⟩
  have B2 := hide (bel_trans (unhide HB0) b2)
  have HC2 : Hid (∀ i p, ps[i]? = some p → w2.cell? ⟨w.heap.size, i, none⟩ = some (.string (mk p))) := hide fun i p hp => cell_below ((unhide HC) i p hp) hlt b2
  have hlt2 : w.heap.size < w2.heap.size := Nat.lt_of_lt_of_le hlt b2.size
  have H4 := hide (join_row L v _ w2 hown (by omega))
  rw [hj] at H4
  obtain ⟨o, c, hv⟩ := own_forms hown
  subst hv
  clear hown b2 HC HB0 H1 H2 H3 hlt
  go_wp2_with fail
  refine (unhide H4).mono ?_; rintro e w3 ⟨rfl, b3⟩
  have B3 := hide (bel_trans (unhide B2) b3)
  have HC3 : Hid (∀ i p, ps[i]? = some p → w3.cell? ⟨w.heap.size, i, none⟩ = some (.string (mk p))) := hide fun i p hp => cell_below ((unhide HC2) i p hp) hlt2 b3
  have H5 := hide (endsInside_any ps w.heap.size ps.length w3 (by omega) (unhide HC3))
  clear b3 B2 HC2 H4 hlt2 hj
  have H6 := hide (fun W => clone_any q W (by omega))
  have hsz : L.length ≤ 4294970000 := by have := Cp.len_wt L; omega
  have hjs : j.size ≤ 4294970000 := by have := Cp.join_len L; rw [← unhide HJ, len_data] at this; omega
  rcases L with _ | ⟨x, t⟩
  · rcases r with _ | _
    · obtain rfl : q = j := by apply eq_of_lists; rw [unhide HQ]; simp [unhide HJ]
      go_wp2_with fail
      refine ((unhide H6) _).mono ?_; rintro e w4 ⟨rfl, b4⟩
      have B4 := hide (bel_trans (unhide B3) b4)
      go_wp2_with fail
      go_ret
      exact ⟨rfl, unhide B4⟩
    · obtain rfl : q = (⟨#[47]⟩ : ByteArray) ++ j := by apply eq_of_lists; rw [unhide HQ]; simp [unhide HJ]
      go_wp2_with fail
      refine ((unhide H6) _).mono ?_; rintro e w4 ⟨rfl, b4⟩
      have B4 := hide (bel_trans (unhide B3) b4)
      go_wp2_with fail
      go_ret
      exact ⟨rfl, unhide B4⟩
  · rcases he : Cp.ends ps with _ | _
    · rcases r with _ | _
      · obtain rfl : q = j := by apply eq_of_lists; rw [unhide HQ]; simp [unhide HJ, he]
        rw [he] at H5
        go_wp2_with fail
        refine (unhide H5).mono ?_; rintro e w4 ⟨rfl, hwx⟩; rw [hwx]; clear hwx w4
        go_wp2_with fail
        refine ((unhide H6) _).mono ?_; rintro e w4 ⟨rfl, b4⟩
        have B4 := hide (bel_trans (unhide B3) b4)
        go_wp2_with fail
        go_ret
        exact ⟨rfl, unhide B4⟩
      · obtain rfl : q = (⟨#[47]⟩ : ByteArray) ++ j := by apply eq_of_lists; rw [unhide HQ]; simp [unhide HJ, he]
        rw [he] at H5
        go_wp2_with fail
        refine (unhide H5).mono ?_; rintro e w4 ⟨rfl, hwx⟩; rw [hwx]; clear hwx w4
        go_wp2_with fail
        refine ((unhide H6) _).mono ?_; rintro e w4 ⟨rfl, b4⟩
        have B4 := hide (bel_trans (unhide B3) b4)
        go_wp2_with fail
        go_ret
        exact ⟨rfl, unhide B4⟩
    · rcases r with _ | _
      · obtain rfl : q = (j) ++ (⟨#[47]⟩ : ByteArray) := by apply eq_of_lists; rw [unhide HQ]; simp [unhide HJ, he]
        rw [he] at H5
        go_wp2_with fail
        refine (unhide H5).mono ?_; rintro e w4 ⟨rfl, hwx⟩; rw [hwx]; clear hwx w4
        go_wp2_with fail
        refine ((unhide H6) _).mono ?_; rintro e w4 ⟨rfl, b4⟩
        have B4 := hide (bel_trans (unhide B3) b4)
        go_wp2_with fail
        go_ret
        exact ⟨rfl, unhide B4⟩
      · obtain rfl : q = ((⟨#[47]⟩ : ByteArray) ++ j) ++ (⟨#[47]⟩ : ByteArray) := by apply eq_of_lists; rw [unhide HQ]; simp [unhide HJ, he]
        rw [he] at H5
        go_wp2_with fail
        refine (unhide H5).mono ?_; rintro e w4 ⟨rfl, hwx⟩; rw [hwx]; clear hwx w4
        go_wp2_with fail
        refine ((unhide H6) _).mono ?_; rintro e w4 ⟨rfl, b4⟩
        have B4 := hide (bel_trans (unhide B3) b4)
        go_wp2_with fail
        go_ret
        exact ⟨rfl, unhide B4⟩
end Go.Proofs.YtkhbfdokkmebhaaGreatDoor
