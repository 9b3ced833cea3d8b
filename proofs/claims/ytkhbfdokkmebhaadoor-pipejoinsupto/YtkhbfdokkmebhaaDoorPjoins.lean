/- For every two lists a, b of numbers and every text s of bulk at most 1048576 together, with the tables of the library as the program's text lays them and whatever number the library's own variable MaxLen holds, the call of PipeJoins returns true and leaves what was there as it was. -/
import Derived.Test.YtkhbfdokkmebhaaDoorRows
import Derived.Test.YtkhbfdokkmebhaaDoorTie
import Derived.Test.YtkhbfdokkmebhaaDoorCards
import Derived.WalkKit
import Derived.ProofKit
import Derived.OpenShut
import Derived.ShutString
import Derived.JoinedCond
import Derived.Laws.AppendOwnNone
import Derived.Test.YtkhbfdokkmebhaaDoorPv
import Derived.Test.YtkhbfdokkmebhaaDoorPo
import Derived.Test.YtkhbfdokkmebhaaDoorLq
import Derived.Stop.LaidErr
namespace Go.Proofs.YtkhbfdokkmebhaaDoor.pipeJoins
open Go.ChangeShapes Go.WideShapes Go.ChangeAt Go.RowKit
open Go.ChangeMaps (open_string shut_string)
set_option linter.unusedVariables false
set_option maxRecDepth 20000

theorem run_ok {l : List Int} {s : List UInt8} (h : Pt.runE l s = 0) : Pt.runV l s = Pt.piped l s := by
  unfold Pt.runE at h
  split at h
  · rename_i h1
    split at h
    · cases h
    · rename_i h2; unfold Pt.runV; rw [if_pos ⟨h1, by omega⟩]
  · rename_i h1; exact absurd h h1
theorem run_bad {l : List Int} {s : List UInt8} (h : ¬ Pt.runE l s = 0) : Pt.runV l s = [] := by
  unfold Pt.runV
  rw [if_neg]
  rintro ⟨h1, h2⟩
  apply h
  unfold Pt.runE; rw [if_pos h1, if_neg (by omega)]
theorem run_len (l : List Int) (s : List UInt8) : (Pt.runV l s).length ≤ 8400 := by
  unfold Pt.runV
  split
  · rename_i h
    have h8 := (Pw.check_ok h.1).1
    have := Pt.piped_len s (by omega) l h8
    omega
  · exact Nat.zero_le _
theorem run_at (v : Value) (zs : List Int) (s q : ByteArray) (f m : Int) (w : World) (hv : Ints w v zs) (hs : s.size ≤ 1048576) (hm : w.cell? ⟨2, 0, none⟩ = some (.int .i64 m))
    (ht : Lib.TabIs Tryd.prog w "internal/strconv.uint64pow10" .u64 Lib.pow10Tab) (hq : q.data.toList = Pt.runV zs s.data.toList) (hf : Pt.runE zs s.data.toList = f) :
    Calls Tryd.prog 12 #[v, .string s] w fun e w' => e = .returned (.tuple #[.string q, .int .i64 f]) ∧ Below w.heap.size w w' := by
  have := run_any v zs s m w hv hs hm ht
  rw [← hq, mk_data, hf] at this
  exact this
/-- the first call: %41 decoded has the length 1 -/
theorem first (w : World) (t : TypeId) (m : Int) (hm : w.cell? ⟨2, 0, none⟩ = some (.int .i64 m)) (ht : Lib.TabIs Tryd.prog w "internal/strconv.uint64pow10" .u64 Lib.pow10Tab) (x : ByteArray) (hx : x = ⟨#[49]⟩) :
    Calls Tryd.prog 12 #[.slice (some ⟨w.heap.size, 0, none⟩) 2 2, .string ⟨#[37, 52, 49]⟩] (w.alloc (.cells #[.int .i64 2, .int .i64 10] t)) fun e w' => e = .returned (.tuple #[.string x, .int .i64 0]) ∧ Below w.heap.size w w' := by
  have hb : Below w.heap.size w (w.alloc (.cells #[.int .i64 2, .int .i64 10] t)) := (Below.refl _ _).alloc (Nat.le_refl _) _
  refine (run_at _ [2, 10] ⟨#[37, 52, 49]⟩ x 0 m _ (two_ints w 2 10 t (by decide) (by decide)) (by decide) (max_below hm hb) (tab_below ht hb) (by rw [hx]; decide +kernel) (by decide +kernel)).mono ?_
  rintro e w' ⟨rfl, b⟩
  exact ⟨rfl, bel_trans hb b⟩
theorem clone_ints (v : Value) (zs : List Int) (w : World) (hv : Ints w v zs) (hz : zs.length ≤ 1048576) :
    Calls Tryd.prog 13 #[v] w fun e w' => ∃ v', e = .returned v' ∧ w'.ownsRow w.heap.size 3 1 v' zs.length (cellsZ zs) ∧ Below w.heap.size w w' := by
  rcases hv.sort_ with rfl | ⟨a, c, rfl⟩
  · obtain ⟨o, c, he, _⟩ := hv.form
    have : zs = [] := List.length_eq_zero_iff.1 (Value.slice.inj he).2.1.symm
    subst this
    refine (Tryd.slices_Clone_int_nil 0 0 w).mono ?_
    rintro e w' ⟨rfl, rfl⟩
    exact ⟨_, rfl, World.ownsRow_nil _ _ _ _, Below.refl _ _⟩
  · by_cases hn : zs = []
    · subst hn
      refine (Tryd.slices_Clone_int_zero a c w).mono ?_
      rintro e w' ⟨v', rfl, h1, _, h2⟩
      exact ⟨_, rfl, h1, h2⟩
    · obtain ⟨g, off, c', he, hg, hc⟩ := hv.at_ hn
      cases he
      refine (Tryd.slices_Clone_int g off zs.length c zs w (Nat.le_refl _) (by omega) (fun j hj => hc j _ (by rw [List.getD, List.getElem?_eq_getElem hj]; rfl))).mono ?_
      rintro e w' ⟨v', rfl, h1, _, h2⟩
      rw [List.take_length] at h1
      exact ⟨_, rfl, h1, h2⟩
theorem own_ints {w : World} {B n : Nat} {v : Value} {a b : List Int} (h : w.ownsRow B 3 1 v (a.length + b.length) (cellsZ a ++ cellsZ b)) (hl : a.length + b.length ≤ 1048576)
    (ha : ∀ z ∈ a, -9223372036854775808 ≤ z ∧ z ≤ 9223372036854775807) (hb : ∀ z ∈ b, -9223372036854775808 ≤ z ∧ z ≤ 9223372036854775807) : Ints w v (a ++ b) := by
  refine Ints.own (B := B) ?_ (by rw [List.length_append]; omega) ?_
  · rw [List.length_append, cellsZ_append]; exact h
  · intro z hz
    rcases List.mem_append.1 hz with hz | hz
    · exact ha z hz
    · exact hb z hz
theorem one_cells (l : List Int) : ∀ u ∈ cellsZ l, u.oneCell' = true := by
  intro u hu; simp only [cellsZ, List.mem_map] at hu; obtain ⟨b, _, rfl⟩ := hu; rfl

set_option maxRecDepth 20000 in
set_option maxHeartbeats 8000000 in
theorem walk_m (va vb : Value) (a b : List Int) (s : ByteArray) (m : Int) (hb : a.length + b.length + s.size ≤ 1048576) (w : World) (hA : Ints w va a) (hB : Ints w vb b) (hm : w.cell? ⟨2, 0, none⟩ = some (.int .i64 m))
    (ht : Lib.TabIs Tryd.prog w "internal/strconv.uint64pow10" .u64 Lib.pow10Tab) :
    Calls Tryd.prog 5 #[va, vb, .string s] w fun e w' => e = .returned (.bool true) ∧ Below w.heap.size w w' := by
  obtain ⟨x, hx⟩ : ∃ x : ByteArray, x = ⟨#[49]⟩ := ⟨_, rfl⟩
  have hx1 : (x.toList == [49]) = true := by rw [hx, Lib.toList_data]; rfl
  have hx2 : (x.toList != [49]) = false := by rw [bne, hx1]; rfl
  have H0 := hide (fun t => first w t m hm ht x hx)
  obtain ⟨t, htq⟩ := ex_list (Pt.runV a s.data.toList)
  obtain ⟨f1, hf1⟩ : ∃ f, Pt.runE a s.data.toList = f := ⟨_, rfl⟩
  obtain ⟨u, hu⟩ := ex_list (Pt.runV b t.data.toList)
  obtain ⟨f2, hf2⟩ : ∃ f, Pt.runE b t.data.toList = f := ⟨_, rfl⟩
  obtain ⟨y, hy⟩ := ex_list (Pt.runV (a ++ b) s.data.toList)
  obtain ⟨f3, hf3⟩ : ∃ f, Pt.runE (a ++ b) s.data.toList = f := ⟨_, rfl⟩
  have hts : t.size ≤ 8400 := by rw [← len_data, htq]; exact run_len _ _
  have HE1 : Hid (¬ f1 = 0 → t = ⟨#[]⟩) := hide (fun h => by rw [← hf1] at h; rw [run_bad h] at htq; exact eq_of_lists htq)
  have HE3 : Hid (¬ f3 = 0 → y = ⟨#[]⟩) := hide (fun h => by rw [← hf3] at h; rw [run_bad h] at hy; exact eq_of_lists hy)
  have HE : Hid (f1 = 0 → f2 = 0 → f3 = 0 → u = y) := hide (fun h1 h2 h3 => by
    rw [← hf1] at h1; rw [← hf2] at h2; rw [← hf3] at h3
    rw [run_ok h1] at htq
    rw [run_ok h2, htq] at hu
    rw [run_ok h3, Pt.piped_append] at hy
    exact eq_of_lists (hu.trans hy.symm))
  have H1 : Hid (∀ w1, Below w.heap.size w w1 → Calls Tryd.prog 12 #[va, .string s] w1 fun e w' => e = .returned (.tuple #[.string t, .int .i64 f1]) ∧ Below w1.heap.size w1 w') := hide (fun w1 b1 =>
    run_at va a s t f1 m w1 (hA.below b1) (by omega) (max_below hm b1) (tab_below ht b1) htq hf1)
  have H2 : Hid (∀ w1, Below w.heap.size w w1 → Calls Tryd.prog 12 #[vb, .string t] w1 fun e w' => e = .returned (.tuple #[.string u, .int .i64 f2]) ∧ Below w1.heap.size w1 w') := hide (fun w1 b1 =>
    run_at vb b t u f2 m w1 (hB.below b1) (by omega) (max_below hm b1) (tab_below ht b1) hu hf2)
  have H3 : Hid (∀ w1, Below w.heap.size w w1 → Calls Tryd.prog 13 #[va] w1 fun e w' => ∃ v', e = .returned v' ∧ w'.ownsRow w1.heap.size 3 1 v' a.length (cellsZ a) ∧ Below w1.heap.size w1 w') := hide (fun w1 b1 =>
    clone_ints va a w1 (hA.below b1) (by omega))
  have H4 : Hid (∀ w1 v, Below w.heap.size w w1 → Ints w1 v (a ++ b) → Calls Tryd.prog 12 #[v, .string s] w1 fun e w' => e = .returned (.tuple #[.string y, .int .i64 f3]) ∧ Below w1.heap.size w1 w') := hide (fun w1 v b1 hv =>
    run_at v (a ++ b) s y f3 m w1 hv (by omega) (max_below hm b1) (tab_below ht b1) hy hf3)
  have HFA := hide hA.fits
  have HFB := hide hB.fits
  have hsort := hB.sort_
  have HBI := hide hB
  have hBl : vb = .slice none 0 0 → b = [] := fun e => by
    obtain ⟨o, c, he, _⟩ := hB.form
    rw [e] at he; exact List.length_eq_zero_iff.1 (Value.slice.inj he).2.1.symm
  clear hx htq hf1 hu hf2 hy hf3 hA hB hm ht
  obtain ⟨i0, hi, hz0, hz1, hz2⟩ := info_parts infoI64
  have b3 : a.length + b.length ≤ maxLen := by unfold maxLen; omega
  have b4 : (a.length + b.length) * 8 ≤ 140737488355328 := by omega
  go_enter Tryd.func5, Tryd.ntmps5
  go_wp2_with fail
  refine ((unhide H0) _).mono ?_; rintro e w1 ⟨rfl, b1⟩
  have B1 := hide b1; clear b1
  go_wp2_with fail
  refine ((unhide H1) _ (unhide B1)).mono ?_; rintro e w2 ⟨rfl, b2⟩
  have B2 := hide (bel_trans (unhide B1) b2); clear b2 B1
  go_wp2_with fail
  refine ((unhide H2) _ (unhide B2)).mono ?_; rintro e w3 ⟨rfl, b3'⟩
  have B3 := hide (bel_trans (unhide B2) b3'); clear b3' B2
  go_wp2_with fail
  refine ((unhide H3) _ (unhide B3)).mono ?_; rintro e w4 ⟨v4, rfl, own4, b4'⟩
  have B4 := hide (bel_trans (unhide B3) b4')
  have BB := hide b4'
  have OWN := hide own4
  clear own4 b4'
  have hsz4 := (unhide BB).size
  rcases hsort with rfl | ⟨ad, c, rfl⟩
  · obtain rfl := hBl rfl
    go_wp2_with (at_builtin; refine wpList_append_own_none rfl _ _ 22 rfl w3.heap.size 3 i0 1 Tryd.underlying22 hi _ a.length (cellsZ a) rfl (unhide OWN) rfl ?_)
    have B5 := B4
    have OWN5 := (show w4.ownsRow w3.heap.size 3 1 v4 (a.length + ([] : List Int).length) (cellsZ a ++ cellsZ []) by simpa [cellsZ] using unhide OWN)
    clear B4
    have I5 := hide (own_ints (n := 0) OWN5 (by omega) (unhide HFA) (unhide HFB))
    go_wp2_with fail
    refine ((unhide H4) _ _ (unhide B5) (unhide I5)).mono ?_; rintro e w6 ⟨rfl, b6⟩
    have B6 := hide (bel_trans (unhide B5) b6); clear b6 B5
    clear H0 H1 H2 H3 H4
    by_cases h1 : f1 = 0
    · subst h1
      by_cases h2 : f2 = 0
      · subst h2
        by_cases h3 : f3 = 0
        · subst h3
          have hyu := (unhide HE) rfl rfl rfl
          subst hyu
          go_wp2_with fail
          go_ret
          exact ⟨by simp, unhide B6⟩
        · have hy := (unhide HE3) h3
          subst hy
          have n3 : (f3 != 0) = true := by simpa using h3
          have m3 : (f3 == 0) = false := by simpa using h3
          go_wp2_with fail
          go_ret
          exact ⟨by simp, unhide B6⟩
      · have n2 : (f2 != 0) = true := by simpa using h2
        by_cases h3 : f3 = 0
        · subst h3
          go_wp2_with fail
          go_ret
          exact ⟨by simp, unhide B6⟩
        · have hy := (unhide HE3) h3
          subst hy
          have m3 : (f3 == 0) = false := by simpa using h3
          go_wp2_with fail
          go_ret
          exact ⟨by simp, unhide B6⟩
    · have hy1 := (unhide HE1) h1
      subst hy1
      have n1 : (f1 != 0) = true := by simpa using h1
      have m1 : (f1 == 0) = false := by simpa using h1
      by_cases h3 : f3 = 0
      · subst h3
        go_wp2_with fail
        go_ret
        exact ⟨by simp, unhide B6⟩
      · have hy := (unhide HE3) h3
        subst hy
        have m3 : (f3 == 0) = false := by simpa using h3
        go_wp2_with fail
        go_ret
        exact ⟨by simp, unhide B6⟩
  · have hnews : ∀ j u, (cellsZ b)[j]? = some u → w4.cell? (ad.add j) = some u := by
      intro j u hj
      have hjl : j < b.length := by
        have := (List.getElem?_eq_some_iff.1 hj).1; simpa [cellsZ] using this
      obtain ⟨g, off, c', he, hg, hcell⟩ := (unhide HBI).at_ (by intro e; rw [e] at hjl; cases hjl)
      cases he
      rw [cellsZ, List.getElem?_map, List.getElem?_eq_getElem hjl] at hj
      cases hj
      have hh := cell_below (hcell j _ (List.getElem?_eq_getElem hjl)) hg (unhide B4)
      have ea : (⟨g, off, none⟩ : Addr).add j = ⟨g, off + j, none⟩ := by
        simp only [Addr.add]
        split
        · rename_i h; rw [h]; rfl
        · rfl
      rw [ea]; exact hh
    have HNW := hide hnews
    clear hnews hBl
    go_wp2_with (at_builtin; refine wpList_append_own _ rfl _ _ 22 rfl w3.heap.size 3 i0 (.int .i64 0) 1 8 Tryd.underlying22 hi hz0 hz1 hz2 rfl (by decide) _ a.length (cellsZ a) rfl (unhide OWN) ad b.length c (cellsZ b) rfl (by simp [cellsZ]) (unhide HNW) (one_cells b) b3 b4 hsz4 ?_; intro v5 w5 own5 grow5 _)
    have B5 := hide (bel_trans (unhide B3) ((unhide BB).grown grow5 hsz4 (Kb.own_lt (unhide OWN))))
    have OWN5 := own5
    clear B4 own5 grow5
    have I5 := hide (own_ints (n := 0) OWN5 (by omega) (unhide HFA) (unhide HFB))
    go_wp2_with fail
    refine ((unhide H4) _ _ (unhide B5) (unhide I5)).mono ?_; rintro e w6 ⟨rfl, b6⟩
    have B6 := hide (bel_trans (unhide B5) b6); clear b6 B5
    clear H0 H1 H2 H3 H4
    by_cases h1 : f1 = 0
    · subst h1
      by_cases h2 : f2 = 0
      · subst h2
        by_cases h3 : f3 = 0
        · subst h3
          have hyu := (unhide HE) rfl rfl rfl
          subst hyu
          go_wp2_with fail
          go_ret
          exact ⟨by simp, unhide B6⟩
        · have hy := (unhide HE3) h3
          subst hy
          have n3 : (f3 != 0) = true := by simpa using h3
          have m3 : (f3 == 0) = false := by simpa using h3
          go_wp2_with fail
          go_ret
          exact ⟨by simp, unhide B6⟩
      · have n2 : (f2 != 0) = true := by simpa using h2
        by_cases h3 : f3 = 0
        · subst h3
          go_wp2_with fail
          go_ret
          exact ⟨by simp, unhide B6⟩
        · have hy := (unhide HE3) h3
          subst hy
          have m3 : (f3 == 0) = false := by simpa using h3
          go_wp2_with fail
          go_ret
          exact ⟨by simp, unhide B6⟩
    · have hy1 := (unhide HE1) h1
      subst hy1
      have n1 : (f1 != 0) = true := by simpa using h1
      have m1 : (f1 == 0) = false := by simpa using h1
      by_cases h3 : f3 = 0
      · subst h3
        go_wp2_with fail
        go_ret
        exact ⟨by simp, unhide B6⟩
      · have hy := (unhide HE3) h3
        subst hy
        have m3 : (f3 == 0) = false := by simpa using h3
        go_wp2_with fail
        go_ret
        exact ⟨by simp, unhide B6⟩

theorem walk (v0 : Value) (z0 : List Int) (v1 : Value) (z1 : List Int) (a2 : ByteArray) (hb : z0.length + z1.length + a2.size ≤ 1048576) (w : World) (hI0 : Ints w v0 z0) (hI1 : Ints w v1 z1) (hsh : w.ShapedOpen Tryd.prog) (hL : laidMetH Tryd.prog Rows.pipeJoinsUptoRow.laid w) :
    Calls Tryd.prog 5 #[v0, v1, .string a2] w fun e w' => e = .returned (.bool true) ∧ Below w.heap.size w w' := by
  obtain ⟨m, hm⟩ := Tryd.laysM155.s1_3 w hsh
  have h1 : laidMet Tryd.prog [("math/bits.deBruijn32tab", Rows.laid_math_bits_deBruijn32tab), ("math/bits.deBruijn64tab", Rows.laid_math_bits_deBruijn64tab), ("internal/strconv.uint64pow10", Rows.laid_internal_strconv_uint64pow10), ("unicode/utf8.acceptRanges", Rows.laid_unicode_utf8_acceptRanges), ("unicode/utf8.first", Rows.laid_unicode_utf8_first)] w := hL
  exact walk_m v0 v1 z0 z1 a2 m hb w hI0 hI1 hm (pow_tab h1.tail.tail)

theorem own : ownKnob Tryd.prog.godebug = none := by kernel_rfl

theorem small_of {H : Type} {a0 : DataW H} {a1 : DataW H} {a2 : ByteArray} (hk : Rows.uptoSmall H ([a0, a1, .lit (.string a2.data.toList)] ++ []) = true) : Rows.uptoBulk a0 + Rows.uptoBulk a1 + a2.size ≤ 1048576 := by
  have h := of_decide_eq_true hk
  simp only [Rows.uptoBulkAll, Rows.uptoBulk, List.append_nil, Array.length_toList, ByteArray.size_data] at h
  omega

set_option maxRecDepth 100000 in
theorem contract (H : Type) (enc : TypeId × Value → H) (W : World) (base : Nat) (args : Array Value) (ds gs : List (DataW H)) (before : List MemPlace) (hsh : W.ShapedOpen Tryd.prog)
    (hval0 : ∀ (j : Nat) t v, Tryd.f5.params[j]? = some t → args[j]? = some v → Value.okWide Tryd.prog W .any base t v)
    (hW : DataW.Whole enc Tryd.prog Tryd.f5.params.toList Rows.pipeJoinsSpec.vars false W args.toList ds gs before) (hk : Rows.uptoSmall H (ds ++ gs) = true) (hL : laidMetH Tryd.prog Rows.pipeJoinsUptoRow.laid W) :
    Calls Tryd.prog 5 args W fun e W' => ∃ v, e = .returned v ∧ Rows.pipeJoinsSpec.post enc Tryd.prog Tryd.f5 false true false false W args v W' := by
  have hval : ∀ (j : Nat) t v, Tryd.f5.params[j]? = some t → args[j]? = some v → Value.okWide Tryd.prog W .any base t v := hval0
  have hW' := hW
  obtain ⟨p, q, hA0, hV, rfl, hfz, hnd⟩ := hW
  have hA : DataW.TrodAll enc Tryd.prog W 0 (fun _ => true) true Tryd.f5.params.toList args.toList ds p := hA0
  rw [Tryd.params5] at hA hval
  obtain ⟨v0, vs0, d0, ds0, p0, q0, hargs, rfl, rfl, h0, r0⟩ := trodAll_cons hA
  obtain ⟨v1, vs1, d1, ds1, p1, q1, rfl, rfl, rfl, h1, r1⟩ := trodAll_cons r0
  obtain ⟨v2, vs2, d2, ds2, p2, q2, rfl, rfl, rfl, h2, r2⟩ := trodAll_cons r1
  obtain ⟨rfl, rfl, rfl⟩ := trodAll_nil r2
  obtain rfl : args = #[v0, v1, v2] := by cases args; simp_all
  obtain ⟨rfl, rfl⟩ := trodVars_none hV
  obtain ⟨a2, rfl, rfl, rfl, w2⟩ := open_string Tryd.underlying9 (hval 2 9 v2 rfl rfl) h2
  have hsm := small_of hk
  obtain ⟨z0, hI0, hz0, hlt0⟩ := open_ints_in (hval 0 22 v0 rfl rfl) h0 (by omega)
  obtain ⟨z1, hI1, hz1, hlt1⟩ := open_ints_in (hval 1 22 v1 rfl rfl) h1 (by omega)
  clear hA0 hval0
  refine (walk v0 z0 v1 z1 a2 (by omega) W hI0 hI1 hsh hL).mono fun e W' ⟨he, hb⟩ => ?_
  subst he
  exact ⟨_, rfl, _, _, _, [], (p0 ++ (p1 ++ [])), [], hW', (trodAll_cons_mk (shut_bool Tryd.underlying4 _) trodAll_mk0), (trodAll_cons_mk (Below.trod laidOutAll (by kernel_rfl) (of_decide_eq_true (by kernel_rfl)) h0 hb hlt0) (trodAll_cons_mk (Below.trod laidOutAll (by kernel_rfl) (of_decide_eq_true (by kernel_rfl)) h1 hb hlt1) (trodAll_cons_mk (shut_string Tryd.underlying9 w2) trodAll_mk0))), rfl, hb.frame _, fun h => by cases h⟩

theorem reads (os : Os) {H : Type} (enc : TypeId × Value → H) : ∃ places, DataW.whole enc Tryd.prog ((laidIn (World.holding Tryd.prog os ⟨#[], #[], []⟩)).forCall (fun _ _ => 0) ⟨#[], #[.slice none 0 0, .slice none 0 0, .string ByteArray.empty], []⟩).memory Tryd.f5.params.toList Rows.pipeJoinsSpec.vars false (#[.slice none 0 0, .slice none 0 0, .string ByteArray.empty] : Array Value).toList 8 = some ([.nil, .nil, .lit (.string [])], [], places) :=
  ⟨[], by kernel_rfl⟩
theorem laid_met (os : Os) : laidMet Tryd.prog Rows.pipeJoinsUptoRow.laid ((laidIn (World.holding Tryd.prog os ⟨#[], #[], []⟩)).forCall (fun _ _ => 0) ⟨#[], #[.slice none 0 0, .slice none 0 0, .string ByteArray.empty], []⟩).memory :=
  laidMet_of_run' 8 (by kernel_rfl) (by kernel_rfl)

set_option maxRecDepth 100000 in
theorem lifted (os : Os) (started : os.Started) (H : Type) (enc : TypeId × Value → H) (F : Stop.Interp) :
    ReturnsInHanded {} Tryd.checked os 5 .any ((Rows.OpenSpec.upto Rows.pipeJoinsSpec).preRow enc Tryd.prog Tryd.f5 Rows.pipeJoinsUptoRow.domain false Rows.pipeJoinsUptoRow.laid) (((Rows.OpenSpec.upto Rows.pipeJoinsSpec).at F).post enc Tryd.prog Tryd.f5 false true false false) := by
  obtain ⟨places, hx⟩ := reads os enc
  refine returnsInHanded_of_row (C := Tryd.checked) (s := Rows.OpenSpec.upto Rows.pipeJoinsSpec) own started (by kernel_rfl) Tryd.func5
    (witness_row_at (enc := enc) (C := Tryd.checked) false (laidIn (World.holding Tryd.prog os ⟨#[], #[], []⟩)) #[.slice none 0 0, .slice none 0 0, .string ByteArray.empty] rfl (by kernel_rfl) (by kernel_rfl) (by kernel_rfl)
      (OpenSpec.preRow_of_cond 8 hx (by kernel_rfl) (fun k hk => by cases hk; kernel_rfl) (by kernel_rfl) (laid_met os))) ?_
  intro W base args ds gs before hval hW _ hcond _ hL hsh _
  exact contract H enc W base args ds gs before hsh hval hW (hcond _ rfl) hL

theorem row : Rows.PipeJoinsUptoSaid :=
  OpenClaim.holds_of_cond 5 Tryd.f5 rfl rfl rfl rfl rfl rfl rfl ⟨rfl, rfl, rfl, rfl, rfl⟩ rfl rfl rfl rfl rfl (by kernel_rfl) Tryd.func5 (by kernel_rfl)
    (of_decide_eq_true (by kernel_rfl)) (by unfold Func.isWrapper; first | (rw [if_pos (by decide +kernel)]; kernel_rfl) | (rw [if_neg (by decide +kernel)]; exact ⟨rfl, rfl⟩))
    (fun os started H enc _ F => by rw [OpenClaim.pre_eq_preRow]; exact lifted os started H enc F)

theorem plain (f : FuncId) (fn : Func) (hf : Tryd.pinned.checked.prog.funcNamed "gatewicket/wickkeep.PipeJoins" = some f) (hfn : Tryd.pinned.checked.prog.funcs[f]? = some fn) :
    false = Tryd.pinned.checked.prog.looks [] ∧ ∀ (j : Nat) t, fn.params[j]? = some t → Tryd.pinned.checked.prog.wantsStandIn t = false := by
  obtain rfl : f = 5 := Option.some.inj ((show Tryd.prog.funcNamed "gatewicket/wickkeep.PipeJoins" = some 5 by kernel_rfl).symm.trans hf) |>.symm
  obtain rfl : fn = Tryd.f5 := (Option.some.inj (Tryd.func5.symm.trans hfn)).symm
  refine ⟨by kernel_rfl, fun j t ht => ?_⟩
  rw [Tryd.params5] at ht
  have hm : t = 22 ∨ t = 9 := by simpa using Array.mem_of_getElem? ht
  rcases hm with rfl | rfl
  · exact (show Tryd.prog.wantsStandIn 22 = false by kernel_rfl)
  · exact (show Tryd.prog.wantsStandIn 9 = false by kernel_rfl)

theorem over : Rows.PipeJoinsUptoCardSaid :=
  Claim7.holds_tied_plain_at .later [] _ _ _ _ row (fun _ h => by cases h) (by kernel_rfl) (fun _ h => by cases h) pipeJoinsUpto_row_tie rfl ⟨rfl, rfl⟩ (by kernel_rfl) rfl plain (by kernel_rfl)
end Go.Proofs.YtkhbfdokkmebhaaDoor.pipeJoins
namespace Go.Proofs.YtkhbfdokkmebhaaDoor
theorem pipeJoins_holds : Rows.PipeJoinsUptoCardSaid := pipeJoins.over
#print axioms pipeJoins_holds
end Go.Proofs.YtkhbfdokkmebhaaDoor
