/- Some; the document's answers on trees: RightTrie. -/
import Derived.Test.YtmmjcbfffcnfiaaFd
namespace Go.Proofs.Ytmmjcbfffcnfiaa
open Go.RowKit Kb Go.Maps Ph
set_option linter.unusedVariables false
set_option maxRecDepth 20000

theorem ret_bi {a b : Bool} {k : IntKind} {c d : Int} (h : a = b) (g : c = d) : Ending.returned (.tuple #[.bool a, .int k c]) = .returned (.tuple #[.bool b, .int k d]) := by rw [h, g]
def smB (T : List Nd) (words : Int) (s : ByteArray) : Bool := decide (rdy T words s.size = 0 ∧ hits T s.data.toList s.size ≠ [])
set_option maxHeartbeats 8000000 in
theorem some_t (w : World) (v : Value) (T : List Nd) (words : Int) (s : ByteArray) (hT : Tree w v T) (hwd : I64 words) (hs : s.size ≤ 2097152) :
    Calls Try.prog 13 #[v, .int .i64 words, .string s] w fun e w' =>
      e = .returned (.tuple #[.bool (smB T words s), .int .i64 (rdy T words s.size)]) ∧ Below w.heap.size w w' := by
  have HC := hide (ready_any w v T words s hT hwd hs)
  obtain ⟨o, cp, rfl, hcp⟩ := hT.form
  have HT := hide hT
  clear hT
  obtain ⟨z, hz⟩ : ∃ z, rdy T words s.size = z := ⟨_, rfl⟩
  rw [hz] at HC
  have HZ := hide hz
  by_cases h0 : z = 0
  · subst h0
    obtain ⟨hchk, hlen⟩ := rdy_ok hz
    have RT := hide (right_of hchk).1
    have hpos := (unhide RT).ne
    have hfew := (unhide RT).few
    clear hz hchk
    go_enter Try.func13, Try.ntmps13
    go_wp2_with fail
    refine (unhide HC).mono ?_
    rintro e w1 ⟨m, rfl, hb, hk⟩
    obtain ⟨B, rfl, hkk⟩ := hk trivial
    have HB := hide hb
    have HK := hide hkk
    have HT1 := hide ((unhide HT).below hb)
    have hw1 : w.heap.size ≤ w1.heap.size := hb.size
    clear hb hk hkk
    have HEA := hide (fun (i : Nat) (hi : i < T.length) => endsAt_any w1 w1 _ T i (unhide HT1) (Below.refl _ _) hi)
    have HNX := hide (fun (i : Nat) (c : Int) (hi : i < T.length) (hc : U8 c) =>
      next_any w1 _ T B T.length i c (Kid T) (fl T) (unhide HT1) (unhide HK) hi hc (fun j hj hj0 => (unhide RT).fail_lt (by omega) hj0))
    obtain ⟨l, hl⟩ : ∃ l, s.data.toList = l := ⟨_, rfl⟩
    have HL := hide hl
    clear hl
    go_wp2
    go_loop [24, 10] (fun x y => ∃ k : Nat, x = .int .i64 k ∧ k ≤ s.size ∧ y = .int .i64 (stt T l k) ∧ hits T l k = []) (fun x _ => s.size - (intOf x).toNat)
    case atStart => exact ⟨0, rfl, Nat.zero_le _, rfl, rfl⟩
    case round =>
      obtain ⟨k, rfl, hk, rfl, hno⟩ := hrel
      have HNO := hide hno
      clear hno
      by_cases hlt : k < s.size
      · have HX : Hid (nxg (Kid T) (fl T) (s[k].toNat : Int) (stt T l k) = stt T l (k + 1)) := hide (by
          rw [stt]; unfold nx; congr 1
          have := at_list s l (unhide HL) k hlt
          simp [List.getD, ← this])
        have hst := stt_lt T l hpos k
        have hst1 := stt_lt T l hpos (k + 1)
        have hu8 : U8 (s[k].toNat : Int) := by have := s[k].toNat_lt; unfold U8; omega
        have HU := hide hu8
        clear hu8
        go_wp2_with fail
        refine ((unhide HNX) _ _ hst (unhide HU)).mono ?_
        rintro e w2 ⟨rfl, hw2⟩
        rw [hw2, unhide HX]; clear hw2
        obtain ⟨q, hq⟩ : ∃ q, stt T l (k + 1) = q := ⟨_, rfl⟩
        have HQ := hide hq
        rw [hq] at hst1
        rw [hq]
        clear hq HX
        go_wp2_with fail
        refine ((unhide HEA) _ hst1).mono ?_
        rintro e w2 ⟨x, rfl, hints, hw2⟩
        rw [hw2]; clear hw2
        obtain ⟨ed, hed⟩ : ∃ ed, endsOf T q = ed := ⟨_, rfl⟩
        rw [hed] at hints
        have HED : Hid (endsOf T (stt T l (k + 1)) = ed) := hide (by rw [unhide HQ]; exact hed)
        clear hed
        obtain ⟨oe, ce, rfl, hce⟩ := hints.form
        have hroom := hints.room
        clear hints
        by_cases he : ed.length = 0
        · have HN : Hid (hits T l (k + 1) = []) := hide (by simp only [hits]; rw [unhide HNO, unhide HED, List.length_eq_zero_iff.1 he]; rfl)
          rw [he]
          go_wp2
          exact ⟨⟨k + 1, by go_num, by omega, by rw [unhide HQ], unhide HN⟩, by simp [intOf]; omega⟩
        · have HN : Hid (decide (hits T l s.size ≠ []) = true) := hide (by
            rw [decide_eq_true_iff]
            have h1 : hits T l (k + 1) ≠ [] := by
              simp only [hits]; rw [unhide HED]; intro e
              have := (List.append_eq_nil_iff.1 e).2
              rw [List.map_eq_nil_iff] at this; exact he (by rw [this]; rfl)
            have h2 := hits_mono T l (s.size - (k + 1)) h1
            rwa [show k + 1 + (s.size - (k + 1)) = s.size by omega] at h2)
          have he1 : (0 : Int) < ed.length := by omega
          go_wp2
          go_ret2
          exact ⟨ret_bi (by unfold smB; rw [unhide HL]; simp; exact ⟨unhide HZ, of_decide_eq_true (unhide HN)⟩) (unhide HZ).symm, unhide HB⟩
      · obtain rfl : k = s.size := by omega
        go_wp2
        go_ret2
        exact ⟨ret_bi (by unfold smB; rw [unhide HL]; simp; exact fun _ => unhide HNO) (unhide HZ).symm, unhide HB⟩
  · have HN := hide h0
    have hb0 : (z != 0) = true := by simp; exact h0
    clear hz h0
    go_enter Try.func13, Try.ntmps13
    go_wp2_with fail
    refine (unhide HC).mono ?_
    rintro e w1 ⟨m, rfl, hb, hk⟩
    have HB := hide hb
    clear hb hk
    go_wp2
    go_ret2
    exact ⟨ret_bi (by unfold smB; simp; exact fun h => absurd (by rw [← unhide HZ]; exact h) (unhide HN)) (unhide HZ).symm, unhide HB⟩

theorem kid_next {T : List Nd} {m : Nat} {a b : Int} (h : kid T m a b = 0) (g : m = 0 ∨ ¬ ((nd T m).up = a ∧ (nd T m).c = b)) : kid T (m + 1) a b = 0 := by
  rw [kid, if_neg (by omega)]
  rcases g with g | g
  · split <;> omega
  · rw [if_neg g]
theorem kid_hit {T : List Nd} {m i : Nat} {a b : Int} (hm : 1 ≤ m) (hi : m < i) (g : (nd T m).up = a ∧ (nd T m).c = b) : kid T i a b ≠ 0 :=
  fun h => (kid_none T i a b).1 h m hm hi g
set_option maxHeartbeats 8000000 in
theorem right_any (w : World) (v : Value) (T : List Nd) (words : Int) (hT : Tree w v T) (hwd : I64 words) :
    Calls Try.prog 11 #[v, .int .i64 words] w fun e w' => e = .returned (.int .i64 (chk T words)) ∧ Below w.heap.size w w' := by
  obtain ⟨o, cp, rfl, hcp⟩ := hT.form
  have hr := hT.room
  have HT := hide hT
  clear hT
  by_cases h1 : T.length > 400
  · have HC := hide (chk_large (T := T) (words := words) (.inl h1))
    go_enter Try.func11, Try.ntmps11
    go_wp2
    go_ret
    exact ⟨ret_i (unhide HC).symm, Below.refl _ _⟩
  by_cases h2 : words > 30
  · have HC := hide (chk_large (T := T) (words := words) (.inr h2))
    go_enter Try.func11, Try.ntmps11
    go_wp2
    go_ret
    exact ⟨ret_i (unhide HC).symm, Below.refl _ _⟩
  have HG : Hid (¬ (T.length > 400 ∨ words > 30)) := hide (by omega)
  by_cases h3 : T.length = 0
  · have HC := hide (chk_root (unhide HG) (fun g : root T => g.1 (List.length_eq_zero_iff.1 h3)))
    have h4 : ((T.length : Int) == 0) = true := by simp; exact List.length_eq_zero_iff.1 h3
    go_enter Try.func11, Try.ntmps11
    go_wp2
    go_ret
    exact ⟨ret_i (unhide HC).symm, Below.refl _ _⟩
  have h4 : ((T.length : Int) == 0) = false := by simp; exact fun e => h3 (by rw [e]; rfl)
  obtain ⟨g, off, c', e0, he, _, hg, _, k1, k2, _, _⟩ := (unhide HT).node (i := 0) (by omega)
  cases he
  simp only [Nat.zero_mul, Nat.add_zero] at k1 k2
  by_cases h5 : (nd T 0).up = 0
  · by_cases h6 : (nd T 0).fail = 0
    · have HR : Hid (root T) := hide ⟨fun e => h3 (by rw [e]; rfl), h5, h6⟩
      rw [h5] at k1
      rw [h6] at k2
      clear h5 h6
      go_enter Try.func11, Try.ntmps11
      go_wp2
      clear k1 k2
      go_loopw [5] (fun x wr => ∃ i : Nat, x = .int .i64 i ∧ i ≤ T.length ∧ Ok T words i ∧ Below w.heap.size w wr) (fun x _ => T.length - (intOf x).toNat)
      case atStart => exact ⟨0, rfl, Nat.zero_le _, fun j hj => absurd hj (Nat.not_lt_zero _), Below.refl _ _⟩
      case round =>
        obtain ⟨i, rfl, hi, hok, hbel⟩ := hrel
        have HOK := hide hok
        have HBEL := hide hbel
        have HT1 := hide ((unhide HT).below hbel)
        clear hok hbel
        by_cases hlt : i < T.length
        · obtain ⟨g', off', cp', e1, he, _, hg1, n0, n1, n2, n3, n4⟩ := (unhide HT).node hlt
          cases he
          have HI := hide n4
          have hfit := (unhide HT).fits _ (List.mem_of_getElem? (nd_at hlt))
          obtain ⟨⟨u1, u2⟩, ⟨u3, u4⟩, u5, u6⟩ := hfit
          clear n4
          obtain ⟨nk, hnk⟩ : ∃ nk, nd T i = nk := ⟨_, rfl⟩
          rw [hnk] at n0 n1 n2 HI u1 u2 u3 u4 u5 u6
          have HNK := hide hnk
          clear hnk
          obtain ⟨nc, nu, nf, ne⟩ := nk
          simp only at n0 n1 n2 HI u1 u2 u3 u4 u5 u6
          obtain ⟨oe, ce, rfl, hce⟩ := (unhide HI).form
          have hroom := (unhide HI).room
          have HN := hide (fun (w' : World) (b : Below w.heap.size w w') => And.intro (cell_below n0 hg1 b) (And.intro (cell_below n1 hg1 b) (And.intro (cell_below n2 hg1 b) (cell_below n3 hg1 b))))
          clear n0 n1 n2 n3
          obtain ⟨n0, n1, n2, n3⟩ := (unhide HN) _ (unhide HBEL)
          by_cases hb1 : 0 < i ∧ nu < 0
          · have HC : Hid (chk T words = 1) := hide (chk_bad (unhide HG) hlt (by
              unfold okAt links; rw [unhide HNK]; dsimp only; rintro ⟨h | h, _⟩ <;> omega))
            obtain ⟨hb1, hb2⟩ := hb1
            have hb3 : (0 : Int) < i := by omega
            go_wp2
            go_ret
            exact ⟨ret_i (unhide HC).symm, unhide HBEL⟩
          by_cases hb2 : 0 < i ∧ nu ≥ i
          · have HC : Hid (chk T words = 1) := hide (chk_bad (unhide HG) hlt (by
              unfold okAt links; rw [unhide HNK]; dsimp only; rintro ⟨h | h, _⟩ <;> omega))
            obtain ⟨hb2, hb4⟩ := hb2
            have hb3 : (0 : Int) < i := by omega
            have hb5 : ¬ nu < 0 := by omega
            go_wp2
            go_ret
            exact ⟨ret_i (unhide HC).symm, unhide HBEL⟩
          by_cases hb3 : 0 < i ∧ nf < 0
          · have HC : Hid (chk T words = 1) := hide (chk_bad (unhide HG) hlt (by
              unfold okAt links; rw [unhide HNK]; dsimp only; rintro ⟨h | h, _⟩ <;> omega))
            obtain ⟨hb3, hb4⟩ := hb3
            have hb6 : (0 : Int) < i := by omega
            have hb5 : ¬ nu < 0 := by omega
            have hb7 : ¬ nu ≥ i := by omega
            go_wp2
            go_ret
            exact ⟨ret_i (unhide HC).symm, unhide HBEL⟩
          by_cases hb4 : 0 < i ∧ nf ≥ i
          · have HC : Hid (chk T words = 1) := hide (chk_bad (unhide HG) hlt (by
              unfold okAt links; rw [unhide HNK]; dsimp only; rintro ⟨h | h, _⟩ <;> omega))
            obtain ⟨hb4, hb8⟩ := hb4
            have hb6 : (0 : Int) < i := by omega
            have hb5 : ¬ nu < 0 := by omega
            have hb7 : ¬ nu ≥ i := by omega
            have hb9 : ¬ nf < 0 := by omega
            go_wp2
            go_ret
            exact ⟨ret_i (unhide HC).symm, unhide HBEL⟩
          have hcase : ((i : Int) ≤ 0) ∨ ((0 : Int) < i ∧ ¬ nu < 0 ∧ ¬ nu ≥ i ∧ ¬ nf < 0 ∧ ¬ nf ≥ i) := by omega
          have HL0 : Hid (i = 0 ∨ ((0 ≤ nu ∧ nu < (i : Int)) ∧ (0 ≤ nf ∧ nf < (i : Int)))) := hide (by omega)
          clear hb1 hb2 hb3 hb4
          rcases hcase with hc0 | ⟨hc1, hc2, hc3, hc4, hc5⟩
          · go_wp2
            clear n0 n1 n2 n3
            go_loopw [6] (fun x wr => ∃ m : Nat, x = .int .i64 m ∧ 1 ≤ m ∧ (m ≤ i ∨ m = 1) ∧ kid T m nu nc = 0 ∧ Below w.heap.size w wr) (fun x _ => i - (intOf x).toNat)
            case atStart => exact ⟨1, rfl, Nat.le_refl _, .inr rfl, by simp [kid], unhide HBEL⟩
            case round =>
              obtain ⟨m, rfl, hm1, hm2, hkid, hbel⟩ := hrel
              have HKID := hide hkid
              have HB2 := hide hbel
              obtain ⟨n0, n1, n2, n3⟩ := (unhide HN) _ hbel
              clear hkid hbel
              by_cases hmi : m < i
              · exact absurd hmi (by omega)
              · have hI : ¬ (m : Int) < i := by omega
                have HLK : Hid (links T i) := hide (by
                  unfold links; rw [unhide HNK]; dsimp only
                  rcases unhide HL0 with h | h
                  · exact .inl h
                  · refine .inr ⟨h, ?_⟩
                    have : m = i := by omega
                    rw [← this]; exact unhide HKID)
                go_wp2_with fail
                clear n0 n1 n2 n3
                go_loopw [7] (fun x wr => ∃ j : Nat, x = .int .i64 j ∧ j ≤ ne.length ∧ (∀ z ∈ ne.take j, 0 ≤ z ∧ z < words) ∧ Below w.heap.size w wr) (fun x _ => ne.length - (intOf x).toNat)
                case atStart => exact ⟨0, rfl, Nat.zero_le _, by simp, unhide HB2⟩
                case round =>
                  obtain ⟨j, rfl, hj, hall, hbel⟩ := hrel
                  have HALL := hide hall
                  have HB3 := hide hbel
                  obtain ⟨n0, n1, n2, n3⟩ := (unhide HN) _ hbel
                  have HI3 := hide ((unhide HI).below hbel)
                  clear hall hbel n0 n1 n2
                  by_cases hjl : j < ne.length
                  · obtain ⟨z, hz⟩ : ∃ z, ne[j]? = some z := ⟨ne[j], List.getElem?_eq_getElem hjl⟩
                    obtain ⟨g3, off3, c3, he, hg3, hcell⟩ := (unhide HI3).at_ (by intro e; rw [e] at hjl; cases hjl)
                    have hload := hcell j z hz
                    have HZ := hide hz
                    cases he
                    clear hcell hz
                    by_cases hz1 : z < 0
                    · have HC : Hid (chk T words = 1) := hide (chk_bad (unhide HG) hlt (by
                        unfold okAt; rw [unhide HNK]; rintro ⟨_, h⟩
                        have := (h z (List.mem_of_getElem? (unhide HZ))).1; omega))
                      go_wp2
                      go_ret
                      exact ⟨ret_i (unhide HC).symm, unhide HB3⟩
                    · by_cases hz2 : z ≥ words
                      · have HC : Hid (chk T words = 1) := hide (chk_bad (unhide HG) hlt (by
                          unfold okAt; rw [unhide HNK]; rintro ⟨_, h⟩
                          have := (h z (List.mem_of_getElem? (unhide HZ))).2; omega))
                        go_wp2
                        go_ret
                        exact ⟨ret_i (unhide HC).symm, unhide HB3⟩
                      · have HA2 : Hid (∀ z ∈ ne.take (j + 1), 0 ≤ z ∧ z < words) := hide (by
                          intro y hy
                          rw [List.take_add_one, unhide HZ] at hy
                          simp only [Option.toList, List.mem_append, List.mem_singleton] at hy
                          rcases hy with hy | hy
                          · exact unhide HALL y hy
                          · subst hy; omega)
                        go_wp2
                        exact ⟨⟨j + 1, by go_num, by omega, unhide HA2, unhide HB3⟩, by simp [intOf]; omega⟩
                  · have hjI : ¬ (j : Int) < ne.length := by omega
                    have HOK2 : Hid (Ok T words (i + 1)) := hide (ok_succ (unhide HOK) ⟨unhide HLK, by
                      rw [unhide HNK]; intro z hz
                      refine unhide HALL z ?_
                      rw [List.take_of_length_le (by omega)]; exact hz⟩)
                    go_wp2
                    exact ⟨⟨i + 1, by go_num, by omega, unhide HOK2, unhide HB3⟩, by simp [intOf]; omega⟩
          · go_wp2
            clear n0 n1 n2 n3
            go_loopw [6] (fun x wr => ∃ m : Nat, x = .int .i64 m ∧ 1 ≤ m ∧ (m ≤ i ∨ m = 1) ∧ kid T m nu nc = 0 ∧ Below w.heap.size w wr) (fun x _ => i - (intOf x).toNat)
            case atStart => exact ⟨1, rfl, Nat.le_refl _, .inr rfl, by simp [kid], unhide HBEL⟩
            case round =>
              obtain ⟨m, rfl, hm1, hm2, hkid, hbel⟩ := hrel
              have HKID := hide hkid
              have HB2 := hide hbel
              obtain ⟨n0, n1, n2, n3⟩ := (unhide HN) _ hbel
              clear hkid hbel
              by_cases hmi : m < i
              · obtain ⟨g2, off2, cp2, e2, he, _, hg2, m0, m1, _, _, _⟩ := (unhide HT).node (i := m) (by omega)
                cases he
                have m0 := cell_below m0 hg2 (unhide HB2)
                have m1 := cell_below m1 hg2 (unhide HB2)
                have hI : (m : Int) < i := by omega
                have hI2 : (m : Int) < T.length := by omega
                have hI3 : (i : Int) < T.length := by omega
                obtain ⟨mc, hmc⟩ : ∃ mc, (nd T m).c = mc := ⟨_, rfl⟩
                obtain ⟨mu, hmu⟩ : ∃ mu, (nd T m).up = mu := ⟨_, rfl⟩
                rw [hmc] at m0
                rw [hmu] at m1
                have HMC := hide hmc
                have HMU := hide hmu
                clear hmc hmu n2 n3
                by_cases hu : mu = nu
                · have hub : (mu == nu) = true := by simp; exact hu
                  by_cases hc : mc = nc
                  · have hcb : (mc == nc) = true := by simp; exact hc
                    have HC : Hid (chk T words = 1) := hide (chk_bad (unhide HG) hlt (by
                      unfold okAt links; rw [unhide HNK]; dsimp only; rintro ⟨h | h, _⟩
                      · omega
                      · exact kid_hit hm1 hmi ⟨(unhide HMU).trans hu, (unhide HMC).trans hc⟩ h.2))
                    clear hu hc
                    go_wp2_with fail
                    go_quiet (fail)
                    go_wp2
                    go_ret
                    exact ⟨ret_i (unhide HC).symm, Go.below_drewN (unhide HB2) _⟩
                  · have hcb : (mc == nc) = false := by simp; exact hc
                    have HK2 : Hid (kid T (m + 1) nu nc = 0) := hide (kid_next (unhide HKID) (.inr (fun h => hc ((unhide HMC).symm.trans h.2))))
                    clear hu hc
                    go_wp2_with fail
                    go_quiet (fail)
                    go_wp2
                    exact ⟨⟨m + 1, by go_num, by omega, by omega, unhide HK2, Go.below_drewN (unhide HB2) _⟩, by simp [intOf]; omega⟩
                · have hub : (mu == nu) = false := by simp; exact hu
                  have HK2 : Hid (kid T (m + 1) nu nc = 0) := hide (kid_next (unhide HKID) (.inr (fun h => hu ((unhide HMU).symm.trans h.1))))
                  clear hu
                  go_wp2_with fail
                  go_quiet (fail)
                  go_wp2
                  exact ⟨⟨m + 1, by go_num, by omega, by omega, unhide HK2, Go.below_drewN (unhide HB2) _⟩, by simp [intOf]; omega⟩
              · have hI : ¬ (m : Int) < i := by omega
                have HLK : Hid (links T i) := hide (by
                  unfold links; rw [unhide HNK]; dsimp only
                  rcases unhide HL0 with h | h
                  · exact .inl h
                  · refine .inr ⟨h, ?_⟩
                    have : m = i := by omega
                    rw [← this]; exact unhide HKID)
                go_wp2_with fail
                clear n0 n1 n2 n3
                go_loopw [7] (fun x wr => ∃ j : Nat, x = .int .i64 j ∧ j ≤ ne.length ∧ (∀ z ∈ ne.take j, 0 ≤ z ∧ z < words) ∧ Below w.heap.size w wr) (fun x _ => ne.length - (intOf x).toNat)
                case atStart => exact ⟨0, rfl, Nat.zero_le _, by simp, unhide HB2⟩
                case round =>
                  obtain ⟨j, rfl, hj, hall, hbel⟩ := hrel
                  have HALL := hide hall
                  have HB3 := hide hbel
                  obtain ⟨n0, n1, n2, n3⟩ := (unhide HN) _ hbel
                  have HI3 := hide ((unhide HI).below hbel)
                  clear hall hbel n0 n1 n2
                  by_cases hjl : j < ne.length
                  · obtain ⟨z, hz⟩ : ∃ z, ne[j]? = some z := ⟨ne[j], List.getElem?_eq_getElem hjl⟩
                    obtain ⟨g3, off3, c3, he, hg3, hcell⟩ := (unhide HI3).at_ (by intro e; rw [e] at hjl; cases hjl)
                    have hload := hcell j z hz
                    have HZ := hide hz
                    cases he
                    clear hcell hz
                    by_cases hz1 : z < 0
                    · have HC : Hid (chk T words = 1) := hide (chk_bad (unhide HG) hlt (by
                        unfold okAt; rw [unhide HNK]; rintro ⟨_, h⟩
                        have := (h z (List.mem_of_getElem? (unhide HZ))).1; omega))
                      go_wp2
                      go_ret
                      exact ⟨ret_i (unhide HC).symm, unhide HB3⟩
                    · by_cases hz2 : z ≥ words
                      · have HC : Hid (chk T words = 1) := hide (chk_bad (unhide HG) hlt (by
                          unfold okAt; rw [unhide HNK]; rintro ⟨_, h⟩
                          have := (h z (List.mem_of_getElem? (unhide HZ))).2; omega))
                        go_wp2
                        go_ret
                        exact ⟨ret_i (unhide HC).symm, unhide HB3⟩
                      · have HA2 : Hid (∀ z ∈ ne.take (j + 1), 0 ≤ z ∧ z < words) := hide (by
                          intro y hy
                          rw [List.take_add_one, unhide HZ] at hy
                          simp only [Option.toList, List.mem_append, List.mem_singleton] at hy
                          rcases hy with hy | hy
                          · exact unhide HALL y hy
                          · subst hy; omega)
                        go_wp2
                        exact ⟨⟨j + 1, by go_num, by omega, unhide HA2, unhide HB3⟩, by simp [intOf]; omega⟩
                  · have hjI : ¬ (j : Int) < ne.length := by omega
                    have HOK2 : Hid (Ok T words (i + 1)) := hide (ok_succ (unhide HOK) ⟨unhide HLK, by
                      rw [unhide HNK]; intro z hz
                      refine unhide HALL z ?_
                      rw [List.take_of_length_le (by omega)]; exact hz⟩)
                    go_wp2
                    exact ⟨⟨i + 1, by go_num, by omega, unhide HOK2, unhide HB3⟩, by simp [intOf]; omega⟩
        · obtain rfl : i = T.length := by omega
          have HE : Hid (chk T words = 0) := hide (chk_ok (unhide HG) (unhide HR) (unhide HOK))
          go_wp2
          go_ret
          exact ⟨ret_i (unhide HE).symm, unhide HBEL⟩
    · have HC := hide (chk_root (unhide HG) (fun g : root T => h6 g.2.2))
      obtain ⟨z, hz⟩ : ∃ z, (nd T 0).fail = z := ⟨_, rfl⟩
      rw [hz] at k2 h6
      rw [h5] at k1
      have h7 : (z != 0) = true := by simp; exact h6
      clear hz h6 h5
      go_enter Try.func11, Try.ntmps11
      go_wp2
      go_ret
      exact ⟨ret_i (unhide HC).symm, Below.refl _ _⟩
  · have HC := hide (chk_root (unhide HG) (fun g : root T => h5 g.2.1))
    obtain ⟨z, hz⟩ : ∃ z, (nd T 0).up = z := ⟨_, rfl⟩
    rw [hz] at k1 h5
    have h7 : (z != 0) = true := by simp; exact h5
    clear hz h5
    go_enter Try.func11, Try.ntmps11
    go_wp2
    go_ret
    exact ⟨ret_i (unhide HC).symm, Below.refl _ _⟩
end Go.Proofs.Ytmmjcbfffcnfiaa
