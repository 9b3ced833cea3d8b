/- Walks: what is wrong with a head, as the document says it. -/
import Derived.Test.YtmgealcolofomaaDoorMd
import Derived.Test.YtmgealcolofomaaDoorRa
import Derived.Test.YtmgealcolofomaaDoorRb
namespace Go.Proofs.YtmgealcolofomaaDoor
open Go.RowKit Kb
set_option linter.unusedVariables false
set_option maxRecDepth 20000
open Mh (Fl)

namespace Mh
theorem fieldE_bad {f : Fl} (h : f.2.all valB = false ∨ tokenB f.1 = false ∨ trim f.2 ≠ f.2) : fieldE f = 4 := by
  unfold fieldE
  rw [if_pos]
  rintro ⟨h1, h2⟩
  have h3 := value_mem h2
  rcases h with h | h | h
  · rw [List.all_eq_true.2 h3.2] at h; cases h
  · rw [h1] at h; cases h
  · exact h h3.1
theorem fieldE_good {f : Fl} (h1 : f.2.all valB = true) (h2 : tokenB f.1 = true) (h3 : trim f.2 = f.2) : fieldE f = if 1000 < f.1.length + f.2.length then 5 else 0 := by
  unfold fieldE
  rw [if_neg]
  intro h
  refine h ⟨h2, ?_⟩
  unfold valueB
  rw [h1, decide_eq_true h3]; rfl
theorem valB_cases (c : UInt8) : (valB c = false ∧ ((((c.toNat : Int) < 32) ∧ ¬ ((c.toNat : Int) = 9)) ∨ (¬ ((c.toNat : Int) < 32) ∧ (c.toNat : Int) = 127))) ∨ (valB c = true ∧ ((((c.toNat : Int) < 32) ∧ (c.toNat : Int) = 9) ∨ (¬ ((c.toNat : Int) < 32) ∧ ¬ (c.toNat : Int) = 127))) := by
  have hv : valB c = (decide (c.toNat = 9) || (decide (32 ≤ c.toNat) && !decide (c.toNat = 127))) := by
    unfold valB
    rw [show (c == 9) = decide (c.toNat = 9) by rw [Bool.eq_iff_iff, beq_iff_eq, decide_eq_true_eq, ← UInt8.toNat_inj]; rfl,
      show (c == 127) = decide (c.toNat = 127) by rw [Bool.eq_iff_iff, beq_iff_eq, decide_eq_true_eq, ← UInt8.toNat_inj]; rfl]
  rw [hv]
  by_cases h9 : c.toNat = 9 <;> by_cases h32 : 32 ≤ c.toNat <;> by_cases h127 : c.toNat = 127 <;> simp [h9, h32, h127] <;> omega
end Mh
set_option maxHeartbeats 8000000 in
theorem rhead_any (m t : List UInt8) (u : Value) (fs : List Fl) (w : World) (hu : Flds w u fs) (hm : m.length + t.length ≤ 68719476736) (hfs : ∀ f ∈ fs, f.1.length + f.2.length ≤ 68719476736) :
    Calls Tryd.prog 24 #[headV m t u] w fun e w' => e = .returned (.int .i64 (Mh.check m t fs)) ∧ Below w.heap.size w w' := by
  unfold headV
  obtain ⟨o, c, rfl, hc⟩ := hu.form
  have HU := hide hu
  have hroom := hu.room
  have HFS := hide hfs
  clear hu hfs
  have HM := hide (fun W => rtoken_any (mk m) W (by rw [mk_size]; unfold maxLen; omega))
  rw [mk_toList] at HM
  have hE : Mh.check m t fs = if ¬ ((decide ((mk m).size ≤ 20) && tokenB m) = true ∧ (t.all Mh.visT && !decide ((mk t).size = 0)) = true) then 4 else if 1000 < (mk t).size ∨ 30 < fs.length then 5 else Mh.fieldsE fs := by
    unfold Mh.check Mh.methodB Mh.targetB
    rw [mk_size, mk_size, show t.isEmpty = decide (t.length = 0) by cases t <;> simp]
  obtain ⟨x, hx⟩ : ∃ x, mk m = x := ⟨_, rfl⟩
  obtain ⟨y, hy⟩ : ∃ y, mk t = y := ⟨_, rfl⟩
  have hxs : x.size ≤ 68719476736 := by rw [← hx, mk_size]; omega
  have hys : y.size ≤ 68719476736 := by rw [← hy, mk_size]; omega
  obtain ⟨r, hr⟩ : ∃ r, Mh.check m t fs = r := ⟨_, rfl⟩
  obtain ⟨p, hp⟩ : ∃ p, tokenB m = p := ⟨_, rfl⟩
  have htd : t = y.data.toList := by rw [← hy]; simp [mk]
  rw [hr, hp, hx, hy, htd] at hE
  rw [hp, hx] at HM
  rw [hr, hx, hy]
  have HE := hide hE
  clear hr hp hx hy hm hE htd
  have B0 := hide ((Below.refl w.heap.size w).alloc (Nat.le_refl _) (.cells #[.string x, .string y, .slice o fs.length c] 24))
  obtain ⟨z0, z1, z2⟩ := three_new w (.string x) (.string y) (.slice o fs.length c) 24
  have hlt0 : w.heap.size < (w.alloc (.cells #[.string x, .string y, .slice o fs.length c] 24)).heap.size := by simp
  obtain ⟨W0, hW0⟩ : ∃ W0, w.alloc (.cells #[.string x, .string y, .slice o fs.length c] 24) = W0 := ⟨_, rfl⟩
  rw [hW0] at z0 z1 z2 B0 hlt0
  go_enter Tryd.func24, Tryd.ntmps24
  go_wp2_with fail
  clear hW0
  refine ((unhide HM) W0).mono ?_; rintro e wx ⟨rfl, hwx⟩; rw [hwx]; clear hwx wx HM
  cases p
  · have HR : Hid (r = 4) := hide (by rw [unhide HE, if_pos (by simp)])
    go_wp2_with fail
    go_ret
    exact ⟨ret_i8 (unhide HR).symm, unhide B0⟩
  by_cases h20 : 20 < x.size
  · have HR : Hid (r = 4) := hide (by rw [unhide HE, if_pos]; intro h; rw [decide_eq_false (by omega)] at h; simp at h)
    have h20' : (20 : Int) < x.size := by omega
    clear HE
    go_wp2_with fail
    go_ret
    exact ⟨ret_i8 (unhide HR).symm, unhide B0⟩
  have h20' : ¬ (20 : Int) < x.size := by omega
  by_cases h0 : y.size = 0
  · have HR : Hid (r = 4) := hide (by rw [unhide HE, if_pos]; intro h; rw [decide_eq_true h0] at h; simp at h)
    have h0' : ((y.size : Int) == 0) = true := by rw [h0]; rfl
    clear HE
    go_wp2_with fail
    go_ret
    exact ⟨ret_i8 (unhide HR).symm, unhide B0⟩
  have h0' : ((y.size : Int) == 0) = false := beq_eq_false_iff_ne.2 (by omega)
  have HE2 : Hid (r = if y.data.toList.all Mh.visT = false then 4 else if 1000 < y.size ∨ 30 < fs.length then 5 else Mh.fieldsE fs) := hide (by
    rw [unhide HE, decide_eq_true (show x.size ≤ 20 by omega), decide_eq_false h0]
    cases y.data.toList.all Mh.visT <;> simp)
  clear HE h20
  go_wp2_with fail
  go_loop [3] (fun i => ∃ k : Nat, k ≤ y.size ∧ i = .int .i64 k ∧ (y.data.toList.take k).all Mh.visT = true) (fun i => y.size - (intOf i).toNat)
  case atStart => exact ⟨0, Nat.zero_le _, rfl, rfl⟩
  case round =>
    obtain ⟨k, hk, rfl, ha⟩ := hrel
    have HA := hide ha
    clear ha
    by_cases hlt : k < y.size
    · obtain ⟨c, hc⟩ : ∃ c, y[k] = c := ⟨_, rfl⟩
      have HR := hide (all_takeP Mh.visT y k hlt)
      have HB := hide (all_badP Mh.visT y k hlt)
      rw [hc] at HR HB
      have hv : Mh.visT c = (decide (33 ≤ c.toNat) && decide (c.toNat ≤ 126)) := rfl
      by_cases h1 : c.toNat ≤ 32
      · have HX : Hid (r = 4) := hide (by rw [unhide HE2, if_pos (unhide HB (by rw [hv, decide_eq_false (by omega)]; rfl))])
        have h1' : (c.toNat : Int) ≤ 32 := by omega
        clear HR HB hv HE2
        go_wp2_with fail
        go_ret
        exact ⟨ret_i8 (unhide HX).symm, unhide B0⟩
      · have h1' : ¬ (c.toNat : Int) ≤ 32 := by omega
        by_cases h2 : 127 ≤ c.toNat
        · have HX : Hid (r = 4) := hide (by rw [unhide HE2, if_pos (unhide HB (by rw [hv, decide_eq_false (show ¬ c.toNat ≤ 126 by omega)]; simp))])
          have h2' : (127 : Int) ≤ c.toNat := by omega
          clear HR HB hv HE2
          go_wp2_with fail
          go_ret
          exact ⟨ret_i8 (unhide HX).symm, unhide B0⟩
        · have HX : Hid ((y.data.toList.take (k + 1)).all Mh.visT = true) := hide (by rw [unhide HR, unhide HA, hv, decide_eq_true (by omega), decide_eq_true (by omega)]; rfl)
          have h2' : ¬ (127 : Int) ≤ c.toNat := by omega
          clear HR HB hv HE2
          go_wp2_with fail
          exact ⟨⟨k + 1, by omega, by go_num, unhide HX⟩, by simp [intOf]; omega⟩
    · have HE3 : Hid (r = if 1000 < y.size ∨ 30 < fs.length then 5 else Mh.fieldsE fs) := hide (by rw [unhide HE2, all_goodP Mh.visT y k (by omega) (unhide HA)]; simp)
      clear HE2 HA
      obtain rfl : k = y.size := by omega
      by_cases h1 : 1000 < y.size
      · have HR : Hid (r = 5) := hide (by rw [unhide HE3, if_pos (.inl h1)])
        have h' : (1000 : Int) < (y.size : Int) := by omega
        clear HE3 h1
        go_wp2_with fail
        go_ret
        exact ⟨ret_i8 (unhide HR).symm, unhide B0⟩
      have h1' : ¬ (1000 : Int) < (y.size : Int) := by omega
      by_cases h2 : 30 < fs.length
      · have HR : Hid (r = 5) := hide (by rw [unhide HE3, if_pos (.inr h2)])
        have h' : (30 : Int) < (fs.length : Int) := by omega
        clear HE3 h1 h2
        go_wp2_with fail
        go_ret
        exact ⟨ret_i8 (unhide HR).symm, unhide B0⟩
      have HR : Hid (Mh.fieldsE fs = r) := hide (by rw [unhide HE3, if_neg (by rintro (h | h); exact h1 h; exact h2 h)])
      have h' : ¬ (30 : Int) < (fs.length : Int) := by omega
      clear HE3 h1 h2
      go_wp2_with fail
      go_loopw [4] (fun i wr => ∃ k : Nat, i = .int .i64 k ∧ k ≤ fs.length ∧ Mh.fieldsE (fs.drop k) = r ∧ Below W0.heap.size W0 wr) (fun i _ => fs.length - (intOf i).toNat)
      case atStart => exact ⟨0, rfl, Nat.zero_le _, unhide HR, Below.refl _ _⟩
      case round =>
        obtain ⟨k, rfl, hk, hres, hbel⟩ := hrel
        have HB := hide hbel
        have hB := hbel.size
        have y2 := cell_below z2 hlt0 hbel
        clear hbel HR
        by_cases hlt : k < fs.length
        · obtain ⟨f, hf⟩ : ∃ f, fs[k]? = some f := ⟨fs[k], List.getElem?_eq_getElem hlt⟩
          obtain ⟨g, off, c', hv, hg, hcell⟩ := (((unhide HU).below (unhide B0)).below (unhide HB)).at_ (by intro e; rw [e] at hlt; cases hlt)
          cases hv
          obtain ⟨l0, l1⟩ := hcell k f hf
          have hdrop : fs.drop k = f :: fs.drop (k + 1) := by
            rw [List.drop_eq_getElem_cons hlt]
            have := List.getElem?_eq_getElem hlt
            rw [hf] at this
            rw [← Option.some.inj this]
          rw [hdrop, Mh.fieldsE] at hres
          have hfl := (unhide HFS) f (List.mem_of_getElem? hf)
          have hbad := fun h => Mh.fieldE_bad (f := f) h
          have hgood := fun h1 h2 h3 => Mh.fieldE_good (f := f) h1 h2 h3
          obtain ⟨a, ha⟩ : ∃ a, mk f.1 = a := ⟨_, rfl⟩
          obtain ⟨b, hb⟩ : ∃ b, mk f.2 = b := ⟨_, rfl⟩
          have ha' : f.1 = a.data.toList := by rw [← ha]; simp [mk]
          have hb' : f.2 = b.data.toList := by rw [← hb]; simp [mk]
          obtain ⟨z, hz⟩ : ∃ z, Mh.fieldE f = z := ⟨_, rfl⟩
          rw [hz] at hres hbad hgood
          rw [ha', hb'] at hbad hgood hfl
          rw [len_data, len_data] at hgood hfl
          rw [ha] at l0
          rw [hb] at l1
          have HRS := hide hres
          have HBAD := hide hbad
          have HGOOD := hide hgood
          clear ha hb hz hcell hdrop hres hf ha' hb' hbad hgood
          have HTK := hide (fun W => rtoken_any a W (by unfold maxLen; omega))
          have HTR := hide (fun W => rtrim_any b W (by omega))
          have HBB := hide ((unhide HB).alloc hB (.cells #[.string a, .string b] 57))
          obtain ⟨y0, y1⟩ := two_new wr (.string a) (.string b) 57
          obtain ⟨G, hG⟩ : ∃ G, wr.heap.size = G := ⟨_, rfl⟩
          obtain ⟨W1, hW1⟩ : ∃ W1, wr.alloc (.cells #[.string a, .string b] 57) = W1 := ⟨_, rfl⟩
          rw [hW1] at y0 y1 HBB
          rw [hG] at y0 y1
          go_wp2_with fail
          clear hW1 hG l0 l1
          go_loop [6] (fun i => ∃ j : Nat, j ≤ b.size ∧ i = .int .i64 j ∧ (b.data.toList.take j).all Mh.valB = true) (fun i => b.size - (intOf i).toNat)
          case atStart => exact ⟨0, Nat.zero_le _, rfl, rfl⟩
          case round =>
            obtain ⟨j, hj, rfl, ha⟩ := hrel
            have HA := hide ha
            clear ha
            by_cases hjl : j < b.size
            · obtain ⟨q, hq⟩ : ∃ q, b[j] = q := ⟨_, rfl⟩
              have HT := hide (all_takeP Mh.valB b j hjl)
              have HF := hide (all_badP Mh.valB b j hjl)
              rw [hq] at HT HF
              rcases Mh.valB_cases q with ⟨hb, h | h⟩ | ⟨hb, h | h⟩
              · obtain ⟨g1, g2⟩ := h
                have g2' : ((q.toNat : Int) != 9) = true := by simpa using g2
                have HX : Hid (4 = r) := hide (by
                  have h4 := unhide HBAD (.inl (unhide HF hb))
                  have := unhide HRS; rw [h4, if_neg (by decide)] at this; exact this)
                clear HRS HBAD HGOOD HT HF
                go_wp2_with fail
                go_ret
                exact ⟨ret_i8 (unhide HX), (unhide B0).trans ((unhide HBB).mono (unhide B0).size)⟩
              · obtain ⟨g1, g2⟩ := h
                have g2' : ((q.toNat : Int) == 127) = true := by simpa using g2
                have HX : Hid (4 = r) := hide (by
                  have h4 := unhide HBAD (.inl (unhide HF hb))
                  have := unhide HRS; rw [h4, if_neg (by decide)] at this; exact this)
                clear HRS HBAD HGOOD HT HF g2
                go_wp2_with fail
                go_ret
                exact ⟨ret_i8 (unhide HX), (unhide B0).trans ((unhide HBB).mono (unhide B0).size)⟩
              · obtain ⟨g1, g2⟩ := h
                have g2' : ((q.toNat : Int) != 9) = false := by simpa using g2
                have g3' : ((q.toNat : Int) == 127) = false := beq_eq_false_iff_ne.2 (by omega)
                have HX : Hid ((b.data.toList.take (j + 1)).all Mh.valB = true) := hide (by rw [unhide HT, unhide HA, hb]; rfl)
                clear HRS HBAD HGOOD HT HF g2
                go_wp2_with fail
                exact ⟨⟨j + 1, by omega, by go_num, unhide HX⟩, by simp [intOf]; omega⟩
              · obtain ⟨g1, g2⟩ := h
                have g3' : ((q.toNat : Int) == 127) = false := by simpa using g2
                have HX : Hid ((b.data.toList.take (j + 1)).all Mh.valB = true) := hide (by rw [unhide HT, unhide HA, hb]; rfl)
                clear HRS HBAD HGOOD HT HF
                go_wp2_with fail
                exact ⟨⟨j + 1, by omega, by go_num, unhide HX⟩, by simp [intOf]; omega⟩
            · have HAB := hide (all_goodP Mh.valB b j (by omega) (unhide HA))
              obtain rfl : j = b.size := by omega
              obtain ⟨q, hq⟩ : ∃ q : ByteArray, (⟨(trim b.data.toList).toArray⟩ : ByteArray) = q := ⟨_, rfl⟩
              have hql : q.data.toList = trim b.data.toList := by rw [← hq]
              rw [hq] at HTR
              rw [← hql] at HBAD HGOOD
              obtain ⟨p, hp⟩ : ∃ p, tokenB a.data.toList = p := ⟨_, rfl⟩
              rw [hp] at HTK HBAD HGOOD
              clear hq hql hp HA
              cases p
              · have HX : Hid (4 = r) := hide (by
                  have h4 := unhide HBAD (.inr (.inl rfl))
                  have := unhide HRS; rw [h4, if_neg (by decide)] at this; exact this)
                clear HRS HBAD HGOOD HAB
                go_wp2_with fail
                go_quiet (first | (go_at_call 52; refine Calls.quiet_of_same ((unhide HTK) _)) | (go_at_call 34; refine Calls.quiet_of_same ((unhide HTR) _)))
                go_wp2_with fail
                go_ret
                exact ⟨ret_i8 (unhide HX), (unhide B0).trans ((Go.below_drewN (unhide HBB) _).mono (unhide B0).size)⟩
              by_cases hqb : q = b
              · subst hqb
                by_cases hs : 1000 < a.size + q.size
                · have HX : Hid (5 = r) := hide (by
                    have h4 := unhide HGOOD (unhide HAB) rfl rfl
                    rw [if_pos hs] at h4
                    have := unhide HRS; rw [h4, if_neg (by decide)] at this; exact this)
                  have hs' : (1000 : Int) < (a.size : Int) + (q.size : Int) := by omega
                  clear HRS HBAD HGOOD HAB hs
                  go_wp2_with fail
                  go_quiet (first | (go_at_call 52; refine Calls.quiet_of_same ((unhide HTK) _)) | (go_at_call 34; refine Calls.quiet_of_same ((unhide HTR) _)))
                  go_wp2_with fail
                  go_ret
                  exact ⟨ret_i8 (unhide HX), (unhide B0).trans ((Go.below_drewN (unhide HBB) _).mono (unhide B0).size)⟩
                · have HX : Hid (Mh.fieldsE (fs.drop (k + 1)) = r) := hide (by
                    have h4 := unhide HGOOD (unhide HAB) rfl rfl
                    rw [if_neg hs] at h4
                    have := unhide HRS; rw [h4, if_pos rfl] at this; exact this)
                  have hs' : ¬ (1000 : Int) < (a.size : Int) + (q.size : Int) := by omega
                  clear HRS HBAD HGOOD HAB hs
                  go_wp2_with fail
                  go_quiet (first | (go_at_call 52; refine Calls.quiet_of_same ((unhide HTK) _)) | (go_at_call 34; refine Calls.quiet_of_same ((unhide HTR) _)))
                  go_wp2_with fail
                  exact ⟨⟨k + 1, by go_num, by omega, unhide HX, Go.below_drewN (unhide HBB) _⟩, by simp [intOf]; omega⟩
              · have hne := str_f hqb
                have HX : Hid (4 = r) := hide (by
                  have h4 := unhide HBAD (.inr (.inr (fun e => hqb (eq_of_lists e))))
                  have := unhide HRS; rw [h4, if_neg (by decide)] at this; exact this)
                clear HRS HBAD HGOOD HAB
                go_wp2_with fail
                go_quiet (first | (go_at_call 52; refine Calls.quiet_of_same ((unhide HTK) _)) | (go_at_call 34; refine Calls.quiet_of_same ((unhide HTR) _)))
                go_wp2_with fail
                go_ret
                exact ⟨ret_i8 (unhide HX), (unhide B0).trans ((Go.below_drewN (unhide HBB) _).mono (unhide B0).size)⟩
        · obtain rfl : k = fs.length := by omega
          have HX : Hid (0 = r) := hide (by rw [List.drop_length] at hres; exact hres)
          go_wp2_with fail
          go_ret
          exact ⟨ret_i8 (unhide HX), (unhide B0).trans ((unhide HB).mono (unhide B0).size)⟩
end Go.Proofs.YtmgealcolofomaaDoor
