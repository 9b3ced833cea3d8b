/- The program's Check, Hits and Some of a tree. -/
import Derived.Test.YtmmjcbfffcnfiaaFb
import Derived.Maps.AppendAt
namespace Go.Proofs.Ytmmjcbfffcnfiaa
open Go.RowKit Kb Go.Maps Ph
set_option linter.unusedVariables false
set_option maxRecDepth 20000

set_option maxHeartbeats 2000000 in
theorem below_any (w : World) (n b : Int) :
    Calls Try.prog 50 #[.int .i64 n, .int .i64 b] w fun e w' => e = .returned (.bool (decide (0 ≤ n ∧ n < b))) ∧ w' = w := by
  by_cases h1 : 0 ≤ n
  · by_cases h2 : n < b
    · have HE : Hid (decide (0 ≤ n ∧ n < b) = true) := hide (by simp; omega)
      go_enter Try.func50, Try.ntmps50
      go_wp2
      go_ret
      exact ⟨ret_bool (unhide HE).symm, rfl⟩
    · have HE : Hid (decide (0 ≤ n ∧ n < b) = false) := hide (by simp; omega)
      go_enter Try.func50, Try.ntmps50
      go_wp2
      go_ret
      exact ⟨ret_bool (by first | exact (unhide HE).symm | (simp; omega)), rfl⟩
  · have HE : Hid (decide (0 ≤ n ∧ n < b) = false) := hide (by simp; omega)
    go_enter Try.func50, Try.ntmps50
    go_wp2
    go_ret
    exact ⟨ret_bool (by first | exact (unhide HE).symm | (simp; omega)), rfl⟩

set_option maxHeartbeats 2000000 in
theorem endsBelow_any (w : World) (v : Value) (zs : List Int) (words : Int) (hv : Ints w v zs) :
    Calls Try.prog 42 #[v, .int .i64 words] w fun e w' => e = .returned (.bool (decide (numsIn zs words))) ∧ w' = w := by
  obtain ⟨o, c, rfl, hc⟩ := hv.form
  have HV := hide hv
  have hr := hv.room
  clear hv
  have HB := fun z => hide (below_any w z words)
  go_enter Try.func42, Try.ntmps42
  go_wp2
  go_loop [9] (fun i => ∃ k : Nat, k ≤ zs.length ∧ i = .int .i64 k ∧ ∀ z ∈ zs.take k, 0 ≤ z ∧ z < words) (fun i => zs.length - (intOf i).toNat)
  case atStart => exact ⟨0, Nat.zero_le _, rfl, by simp⟩
  case round =>
    obtain ⟨k, hk, rfl, hck⟩ := hrel
    have HCK := hide hck
    clear hck
    by_cases hlt : k < zs.length
    · obtain ⟨z, hz⟩ : ∃ z, zs[k]? = some z := ⟨zs[k], List.getElem?_eq_getElem hlt⟩
      obtain ⟨g, off, c', he, hg, hcell⟩ := (unhide HV).at_ (by intro e; rw [e] at hlt; cases hlt)
      have hload := hcell k z hz
      have HZ := hide hz
      cases he
      clear hcell hz
      by_cases h1 : 0 ≤ z ∧ z < words
      · have HN : Hid (∀ z ∈ zs.take (k + 1), 0 ≤ z ∧ z < words) := hide (by
          intro y hy
          rw [List.take_add_one, unhide HZ] at hy
          simp only [Option.toList, List.mem_append, List.mem_singleton] at hy
          rcases hy with hy | hy
          · exact unhide HCK y hy
          · subst hy; exact h1)
        have hb := unhide (HB z)
        rw [decide_eq_true h1] at hb
        have HB' := hide hb
        clear hb h1
        go_wp2_with fail
        refine (unhide HB').mono ?_
        rintro e w1 ⟨rfl, hw1⟩
        rw [hw1]; clear hw1
        go_wp2
        exact ⟨⟨k + 1, by omega, by go_num, unhide HN⟩, by simp [intOf]; omega⟩
      · have HN : Hid (decide (numsIn zs words) = false) := hide (by
          rw [decide_eq_false_iff_not]; intro h; exact h1 (h z (List.mem_of_getElem? (unhide HZ))))
        have hb := unhide (HB z)
        rw [decide_eq_false h1] at hb
        have HB' := hide hb
        clear hb h1
        go_wp2_with fail
        refine (unhide HB').mono ?_
        rintro e w1 ⟨rfl, hw1⟩
        rw [hw1]; clear hw1
        go_wp2
        go_ret
        exact ⟨ret_bool (unhide HN).symm, rfl⟩
    · obtain rfl : k = zs.length := by omega
      have HN : Hid (decide (numsIn zs words) = true) := hide (by
          rw [decide_eq_true_iff]; have := unhide HCK; rwa [List.take_length] at this)
      go_wp2
      go_ret
      exact ⟨ret_bool (unhide HN).symm, rfl⟩

set_option maxHeartbeats 2000000 in
theorem laid_any (w : World) (B n i : Nat) (f : Int → Int → Nat) (c up fail : Int) (e : Value) (hK : Kids w B n f) (hn : n < 1000) (hi : i < 1000) (hc : U8 c) (hup : I64 up) (hfa : I64 fail) :
    Calls Try.prog 41 #[.map (some B), .int .i64 i, .agg #[.int .u8 c, .int .i64 up, .int .i64 fail, e]] w fun r w' =>
      r = .returned (.bool (decide (((0 ≤ up ∧ up < i) ∧ (0 ≤ fail ∧ fail < i)) ∧ f up c = 0))) ∧ w.grownBy w' (some B) ∧
      (((0 ≤ up ∧ up < i) ∧ (0 ≤ fail ∧ fail < i)) ∧ f up c = 0 → Kids w' B (n + 1) fun a b => if a = up ∧ b = c then i else f a b) := by
  have HB := fun w z b => hide (below_any w z b)
  have HK := hide hK
  clear hK
  by_cases h1 : 0 ≤ up ∧ up < i
  · have hb1 := HB (w.alloc (.cells #[.int .u8 c, .int .i64 up, .int .i64 fail, e] 57)) up i
    rw [decide_eq_true h1] at hb1
    by_cases h2 : 0 ≤ fail ∧ fail < i
    · have hb2 := HB (w.alloc (.cells #[.int .u8 c, .int .i64 up, .int .i64 fail, e] 57)) fail i
      rw [decide_eq_true h2] at hb2
      go_enter Try.func41, Try.ntmps41
      go_wp2_with fail
      refine (unhide hb1).mono ?_
      rintro e1 w1 ⟨rfl, hw1⟩
      rw [hw1]; clear hw1
      go_wp2_with fail
      refine (unhide hb2).mono ?_
      rintro e1 w1 ⟨rfl, hw1⟩
      rw [hw1]; clear hw1
      have hl := (((unhide HK).alloc (.cells #[.int .u8 c, .int .i64 up, .int .i64 fail, e] 57)).alloc (.cells #[.int .i64 up, .int .u8 c] 74)).look hup hc
      by_cases h3 : f up c = 0
      · obtain ⟨D, hown, hD⟩ := ((unhide HK).alloc (.cells #[.int .u8 c, .int .i64 up, .int .i64 fail, e] 57)).alloc (.cells #[.int .i64 up, .int .u8 c] 74)
        have HD := hide hD
        have HE : Hid (decide (((0 ≤ up ∧ up < i) ∧ (0 ≤ fail ∧ fail < i)) ∧ f up c = 0) = true) := hide (decide_eq_true ⟨⟨h1, h2⟩, h3⟩)
        rw [h3] at hl
        have HL := (unhide HK).lt
        clear hD h1 h2 h3
        go_wp2_with (at_mapUpdate; refine wpList_mapUpdate_own _ rfl _ _ _ 48 rfl 74 3 kidLaw Try.underlying48 _ B n _ rfl hown (by unfold maxLen; omega) _ _ _ rfl rfl (keyOf_kv hup hc) _ [] (plainElem_int Try.underlying3 (WalkArith.wf_i64 (by omega))) ?_; intro w1 hown1 hgrow1)
        go_ret
        refine ⟨ret_bool (unhide HE).symm, ?_, fun _ => Kids.put hown (unhide HD) hup hc hown1⟩
        exact ((World.grownBy_alloc _ _ _).trans (World.grownBy_alloc _ _ _)).trans hgrow1
      · have HE : Hid (decide (((0 ≤ up ∧ up < i) ∧ (0 ≤ fail ∧ fail < i)) ∧ f up c = 0) = false) := hide (by rw [decide_eq_false_iff_not]; exact fun h => h3 h.2)
        obtain ⟨k, hk⟩ : ∃ k, f up c = k := ⟨_, rfl⟩
        have HK3 := hide h3
        rw [hk] at hl h3
        clear hk
        have hk0 : ((k : Int) == 0) = false := by simp; omega
        have HL := (unhide HK).lt
        clear h1 h2 h3
        go_wp2
        go_ret
        exact ⟨ret_bool (unhide HE).symm, (World.grownBy_alloc _ _ _).trans (World.grownBy_alloc _ _ _), fun h => absurd h.2 (unhide HK3)⟩
    · have hb2 := HB (w.alloc (.cells #[.int .u8 c, .int .i64 up, .int .i64 fail, e] 57)) fail i
      have HE : Hid (decide (((0 ≤ up ∧ up < i) ∧ (0 ≤ fail ∧ fail < i)) ∧ f up c = 0) = false) := hide (by rw [decide_eq_false_iff_not]; exact fun h => h2 h.1.2)
      have HH2 := hide h2
      have HL := (unhide HK).lt
      rw [decide_eq_false h2] at hb2
      clear h1 h2
      go_enter Try.func41, Try.ntmps41
      go_wp2_with fail
      refine (unhide hb1).mono ?_
      rintro e1 w1 ⟨rfl, hw1⟩
      rw [hw1]; clear hw1
      go_wp2_with fail
      refine (unhide hb2).mono ?_
      rintro e1 w1 ⟨rfl, hw1⟩
      rw [hw1]; clear hw1
      go_wp2
      go_ret
      exact ⟨ret_bool (unhide HE).symm, World.grownBy_alloc _ _ _, fun h => absurd h.1.2 (unhide HH2)⟩
  · have hb1 := HB (w.alloc (.cells #[.int .u8 c, .int .i64 up, .int .i64 fail, e] 57)) up i
    have HE : Hid (decide (((0 ≤ up ∧ up < i) ∧ (0 ≤ fail ∧ fail < i)) ∧ f up c = 0) = false) := hide (by rw [decide_eq_false_iff_not]; exact fun h => h1 h.1.1)
    have HH1 := hide h1
    have HL := (unhide HK).lt
    rw [decide_eq_false h1] at hb1
    clear h1
    go_enter Try.func41, Try.ntmps41
    go_wp2_with fail
    refine (unhide hb1).mono ?_
    rintro e1 w1 ⟨rfl, hw1⟩
    rw [hw1]; clear hw1
    go_wp2
    go_ret
    exact ⟨ret_bool (unhide HE).symm, World.grownBy_alloc _ _ _, fun h => absurd h.1.1 (unhide HH1)⟩

theorem ret_me {m m' : Value} {k : IntKind} {a b : Int} (h : m = m') (g : a = b) : Ending.returned (.tuple #[m, .int k a]) = .returned (.tuple #[m', .int k b]) := by rw [h, g]
set_option maxHeartbeats 4000000 in
theorem checked_any (w : World) (v : Value) (T : List Nd) (words : Int) (hT : Tree w v T) (hwd : I64 words) :
    Calls Try.prog 34 #[v, .int .i64 words] w fun e w' =>
      ∃ m, e = .returned (.tuple #[m, .int .i64 (chk T words)]) ∧ Below w.heap.size w w' ∧ (chk T words = 0 → ∃ B, m = .map (some B) ∧ Kids w' B T.length (Kid T)) := by
  obtain ⟨o, cp, rfl, hcp⟩ := hT.form
  have hr := hT.room
  have HT := hide hT
  clear hT
  by_cases h1 : T.length > 400
  · have HC := hide (chk_large (T := T) (words := words) (.inl h1))
    go_enter Try.func34, Try.ntmps34
    go_wp2
    go_ret2
    exact ⟨_, ret_me rfl (unhide HC).symm, Below.refl _ _, fun h => by rw [unhide HC] at h; cases h⟩
  by_cases h2 : words > 30
  · have HC := hide (chk_large (T := T) (words := words) (.inr h2))
    go_enter Try.func34, Try.ntmps34
    go_wp2
    go_ret2
    exact ⟨_, ret_me rfl (unhide HC).symm, Below.refl _ _, fun h => by rw [unhide HC] at h; cases h⟩
  have HG : Hid (¬ (T.length > 400 ∨ words > 30)) := hide (by omega)
  by_cases h3 : T.length = 0
  · have HC := hide (chk_root (unhide HG) (fun g : root T => g.1 (List.length_eq_zero_iff.1 h3)))
    have h4 : ((T.length : Int) == 0) = true := by simp; exact List.length_eq_zero_iff.1 h3
    go_enter Try.func34, Try.ntmps34
    go_wp2
    go_ret2
    exact ⟨_, ret_me rfl (unhide HC).symm, Below.refl _ _, fun h => by rw [unhide HC] at h; cases h⟩
  have h4 : ((T.length : Int) == 0) = false := by simp; exact fun e => h3 (by rw [e]; rfl)
  obtain ⟨g, off, c', e0, he, _, hg, _, k1, k2, _, _⟩ := (unhide HT).node (i := 0) (by omega)
  cases he
  simp only [Nat.zero_mul, Nat.add_zero] at k1 k2
  by_cases h5 : (nd T 0).up = 0
  · by_cases h6 : (nd T 0).fail = 0
    · have HR : Hid (root T) := hide ⟨fun e => h3 (by rw [e]; rfl), h5, h6⟩
      rw [h5] at k1
      rw [h6] at k2
      clear h5 h6
      have hmm := @run_makeMap Try.prog
      go_enter Try.func34, Try.ntmps34
      go_wp2
      go_loopw [36] (fun x wr => ∃ k : Nat, x = .int .i64 k ∧ k ≤ T.length ∧ Ok T words k ∧ Below w.heap.size w wr ∧ Kids wr w.heap.size k (kid T k)) (fun x _ => T.length - (intOf x).toNat)
      case atStart =>
        exact ⟨0, rfl, Nat.zero_le _, fun j hj => absurd hj (Nat.not_lt_zero _), (Below.refl _ _).alloc (Nat.le_refl _) _, ⟨.map [], World.ownsMap_made _ _ _ _, fun a c _ _ => rfl⟩⟩
      case round =>
        obtain ⟨k, rfl, hk, hok, hbel, hkids⟩ := hrel
        have HOK := hide hok
        have HBEL := hide hbel
        have HKIDS := hide hkids
        clear hok hbel hkids
        by_cases hlt : k < T.length
        · obtain ⟨g', off', cp', e1, he, _, hg1, n0, n1, n2, n3, n4⟩ := (unhide HT).node hlt
          cases he
          have HI := hide n4
          have hfit := (unhide HT).fits _ (List.mem_of_getElem? (nd_at hlt))
          obtain ⟨⟨u1, u2⟩, ⟨u3, u4⟩, u5, u6⟩ := hfit
          have n0 := cell_below n0 hg1 (unhide HBEL)
          have n1 := cell_below n1 hg1 (unhide HBEL)
          have n2 := cell_below n2 hg1 (unhide HBEL)
          have n3 := cell_below n3 hg1 (unhide HBEL)
          have hws : w.heap.size ≤ wr.heap.size := (unhide HBEL).size
          clear n4 k1 k2
          obtain ⟨nk, hnk⟩ : ∃ nk, nd T k = nk := ⟨_, rfl⟩
          rw [hnk] at n0 n1 n2 HI
          have HNK := hide hnk
          rw [hnk] at u1 u2 u3 u4 u5 u6
          clear hnk
          obtain ⟨nc, nu, nf, ne⟩ := nk
          simp only at n0 n1 n2 HI u1 u2 u3 u4 u5 u6
          obtain ⟨oe, ce, rfl, hce⟩ := (unhide HI).form
          have HBE := hide (fun (w' : World) (hb : Below w.heap.size w w') => endsBelow_any w' (.slice oe ne.length ce) ne words ((unhide HI).below hb))
          have hwl := (unhide HKIDS).lt
          by_cases hk0 : k = 0
          · subst hk0
            simp only [Nat.zero_mul, Nat.add_zero] at n0 n1 n2 n3
            by_cases hE : numsIn ne words
            · have HOKK : Hid (okAt T words 0) := hide (by unfold okAt; rw [unhide HNK]; exact ⟨.inl rfl, hE⟩)
              go_wp2_with fail
              refine ((unhide HBE) _ ((unhide HBEL).alloc hws _)).mono ?_
              rintro e w2 ⟨rfl, hw2⟩
              rw [hw2, decide_eq_true hE]; clear hw2
              go_wp2
              exact ⟨⟨1, by go_num, by omega, ok_succ (unhide HOK) (unhide HOKK), (unhide HBEL).alloc hws _, ((((unhide HKIDS).alloc _).mono (Nat.le_succ _)).congr (kid_one T))⟩, by simp [intOf]; omega⟩
            · have HC : Hid (chk T words = 1) := hide (chk_bad (unhide HG) hlt (by unfold okAt; rw [unhide HNK]; exact fun h => hE h.2))
              go_wp2_with fail
              refine ((unhide HBE) _ ((unhide HBEL).alloc hws _)).mono ?_
              rintro e w2 ⟨rfl, hw2⟩
              rw [hw2, decide_eq_false hE]; clear hw2
              go_wp2
              go_ret2
              exact ⟨_, ret_me rfl (unhide HC).symm, (unhide HBEL).alloc hws _, fun h => by rw [unhide HC] at h; cases h⟩
          · have hkp : (0 : Int) < k := by omega
            have HLA := hide (fun w' (hK : Kids w' w.heap.size k (kid T k)) => laid_any w' w.heap.size k k (kid T k) nc nu nf (.slice oe ne.length ce) hK (by omega) (by omega) ⟨u1, u2⟩ ⟨u3, u4⟩ ⟨u5, u6⟩)
            by_cases hgood : ((0 ≤ nu ∧ nu < (k : Int)) ∧ (0 ≤ nf ∧ nf < (k : Int))) ∧ kid T k nu nc = 0
            · have HGOOD := hide hgood
              have HSUC : Hid (∀ a b, (if a = nu ∧ b = nc then k else kid T k a b) = kid T (k + 1) a b) := hide (by
                have := kid_succ (T := T) hk0 (by rw [unhide HNK]; exact hgood.2)
                rw [unhide HNK] at this; exact this)
              by_cases hE : numsIn ne words
              · have HOKK : Hid (okAt T words k) := hide (by unfold okAt links; rw [unhide HNK]; exact ⟨.inr hgood, hE⟩)
                clear hgood
                go_wp2_with fail
                refine ((unhide HLA) _ ((unhide HKIDS).alloc _)).mono ?_
                rintro e w1 ⟨rfl, hg1, hk1⟩
                rw [decide_eq_true (unhide HGOOD)]
                have HK1 := hide (hk1 (unhide HGOOD))
                have ha : w1.cell? ⟨wr.heap.size, 3, none⟩ = some (.slice oe ne.length ce) := hg1.cell (by rw [World.cell?_alloc_new]; rfl) (by simp; omega)
                have HB1 := hide (((unhide HBEL).alloc hws _).grown hg1 (by simp; omega) (fun j hj => by cases hj; exact Nat.le_refl _))
                clear hk1 hg1
                go_wp2_with fail
                refine ((unhide HBE) _ (unhide HB1)).mono ?_
                rintro e w2 ⟨rfl, hw2⟩
                rw [hw2, decide_eq_true hE]; clear hw2
                go_wp2
                exact ⟨⟨k + 1, by go_num, by omega, ok_succ (unhide HOK) (unhide HOKK), unhide HB1, (unhide HK1).congr (unhide HSUC)⟩, by simp [intOf]; omega⟩
              · have HC : Hid (chk T words = 1) := hide (chk_bad (unhide HG) hlt (by unfold okAt; rw [unhide HNK]; exact fun h => hE h.2))
                clear hgood
                go_wp2_with fail
                refine ((unhide HLA) _ ((unhide HKIDS).alloc _)).mono ?_
                rintro e w1 ⟨rfl, hg1, hk1⟩
                rw [decide_eq_true (unhide HGOOD)]
                have ha : w1.cell? ⟨wr.heap.size, 3, none⟩ = some (.slice oe ne.length ce) := hg1.cell (by rw [World.cell?_alloc_new]; rfl) (by simp; omega)
                have HB1 := hide (((unhide HBEL).alloc hws _).grown hg1 (by simp; omega) (fun j hj => by cases hj; exact Nat.le_refl _))
                clear hk1 hg1
                go_wp2_with fail
                refine ((unhide HBE) _ (unhide HB1)).mono ?_
                rintro e w2 ⟨rfl, hw2⟩
                rw [hw2, decide_eq_false hE]; clear hw2
                go_wp2
                go_ret2
                exact ⟨_, ret_me rfl (unhide HC).symm, unhide HB1, fun h => by rw [unhide HC] at h; cases h⟩
            · have HC : Hid (chk T words = 1) := hide (chk_bad (unhide HG) hlt (by
                unfold okAt links; rw [unhide HNK]; intro h
                rcases h.1 with h | h
                · exact hk0 h
                · exact hgood h))
              have HBAD := hide hgood
              clear hgood
              go_wp2_with fail
              refine ((unhide HLA) _ ((unhide HKIDS).alloc _)).mono ?_
              rintro e w1 ⟨rfl, hg1, hk1⟩
              rw [decide_eq_false (unhide HBAD)]
              have HB1 := hide (((unhide HBEL).alloc hws _).grown hg1 (by simp; omega) (fun j hj => by cases hj; exact Nat.le_refl _))
              clear hk1 hg1
              go_wp2
              go_ret2
              exact ⟨_, ret_me rfl (unhide HC).symm, unhide HB1, fun h => by rw [unhide HC] at h; cases h⟩
        · obtain rfl : k = T.length := by omega
          have HE : Hid (chk T words = 0) := hide (chk_ok (unhide HG) (unhide HR) (unhide HOK))
          go_wp2
          go_ret2
          exact ⟨_, ret_me rfl (unhide HE).symm, unhide HBEL, fun _ => ⟨_, rfl, unhide HKIDS⟩⟩
    · have HC := hide (chk_root (unhide HG) (fun g : root T => h6 g.2.2))
      obtain ⟨z, hz⟩ : ∃ z, (nd T 0).fail = z := ⟨_, rfl⟩
      rw [hz] at k2 h6
      rw [h5] at k1
      have h7 : (z != 0) = true := by simp; exact h6
      clear hz h6 h5
      go_enter Try.func34, Try.ntmps34
      go_wp2
      go_ret2
      exact ⟨_, ret_me rfl (unhide HC).symm, Below.refl _ _, fun h => by rw [unhide HC] at h; cases h⟩
  · have HC := hide (chk_root (unhide HG) (fun g : root T => h5 g.2.1))
    obtain ⟨z, hz⟩ : ∃ z, (nd T 0).up = z := ⟨_, rfl⟩
    rw [hz] at k1 h5
    have h7 : (z != 0) = true := by simp; exact h5
    clear hz h5
    go_enter Try.func34, Try.ntmps34
    go_wp2
    go_ret2
    exact ⟨_, ret_me rfl (unhide HC).symm, Below.refl _ _, fun h => by rw [unhide HC] at h; cases h⟩
end Go.Proofs.Ytmmjcbfffcnfiaa
