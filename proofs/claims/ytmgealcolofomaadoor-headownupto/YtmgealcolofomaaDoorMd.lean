/- Walks: what is wrong with a field, with a head (the program's). -/
import Derived.Test.YtmgealcolofomaaDoorMc
namespace Go.Proofs.YtmgealcolofomaaDoor
open Go.RowKit Kb
set_option linter.unusedVariables false
set_option maxRecDepth 20000
open Mh (Fl)

theorem ret_i8 {a b : Int} (h : a = b) : Ending.returned (Value.int .i64 a) = .returned (.int .i64 b) := by rw [h]
theorem two_new (w : World) (a b : Value) (t : TypeId) : (w.alloc (.cells #[a, b] t)).cell? ⟨w.heap.size, 0, none⟩ = some a ∧ (w.alloc (.cells #[a, b] t)).cell? ⟨w.heap.size, 1, none⟩ = some b :=
  ⟨by rw [World.cell?_alloc_new]; rfl, by rw [World.cell?_alloc_new]; rfl⟩
theorem three_new (w : World) (a b c : Value) (t : TypeId) : (w.alloc (.cells #[a, b, c] t)).cell? ⟨w.heap.size, 0, none⟩ = some a ∧ (w.alloc (.cells #[a, b, c] t)).cell? ⟨w.heap.size, 1, none⟩ = some b ∧ (w.alloc (.cells #[a, b, c] t)).cell? ⟨w.heap.size, 2, none⟩ = some c :=
  ⟨by rw [World.cell?_alloc_new]; rfl, by rw [World.cell?_alloc_new]; rfl, by rw [World.cell?_alloc_new]; rfl⟩
set_option maxHeartbeats 1000000 in
theorem checkField_any (f : Fl) (w : World) (hf : f.1.length + f.2.length ≤ 68719476736) :
    Calls Tryd.prog 75 #[.agg #[.string (mk f.1), .string (mk f.2)]] w fun e w' => e = .returned (.int .i64 (Mh.fieldE f)) ∧ Below w.heap.size w w' := by
  obtain ⟨a, b⟩ := f
  dsimp only at hf ⊢
  obtain ⟨x, hx⟩ : ∃ x, mk a = x := ⟨_, rfl⟩
  obtain ⟨y, hy⟩ : ∃ y, mk b = y := ⟨_, rfl⟩
  have ha : a = x.data.toList := by rw [← hx]; simp [mk]
  have hb : b = y.data.toList := by rw [← hy]; simp [mk]
  rw [hx, hy]
  subst ha hb
  clear hx hy
  rw [len_data, len_data] at hf
  have HT := hide (fun W => token_any x W (by unfold maxLen; omega))
  have HV := hide (fun W => isValue_any y W (by omega))
  have HE : Hid (Mh.fieldE (x.data.toList, y.data.toList) = if ¬ (tokenB x.data.toList = true ∧ Mh.valueB y.data.toList = true) then 4 else if 1000 < x.size + y.size then 5 else 0) := hide (by unfold Mh.fieldE; rw [len_data, len_data])
  obtain ⟨r, hr⟩ : ∃ r, Mh.fieldE (x.data.toList, y.data.toList) = r := ⟨_, rfl⟩
  obtain ⟨p, hp⟩ : ∃ p, tokenB x.data.toList = p := ⟨_, rfl⟩
  obtain ⟨q, hq⟩ : ∃ q, Mh.valueB y.data.toList = q := ⟨_, rfl⟩
  rw [hr, hp, hq] at HE
  rw [hp] at HT
  rw [hq] at HV
  rw [hr]
  clear hr hp hq
  have B0 := hide ((Below.refl w.heap.size w).alloc (Nat.le_refl _) (.cells #[.string x, .string y] 57))
  obtain ⟨z0, z1⟩ := two_new w (.string x) (.string y) 57
  have hlt : w.heap.size < (w.alloc (.cells #[.string x, .string y] 57)).heap.size := by simp
  obtain ⟨W0, hW0⟩ : ∃ W0, w.alloc (.cells #[.string x, .string y] 57) = W0 := ⟨_, rfl⟩
  rw [hW0] at z0 z1 B0 hlt
  go_enter Tryd.func75, Tryd.ntmps75
  go_wp2_with fail
  clear hW0
  refine ((unhide HT) W0).mono ?_; rintro e wx ⟨rfl, hwx⟩; rw [hwx]; clear hwx wx HT
  cases p
  · have HR : Hid (r = 4) := hide (by rw [unhide HE, if_pos (by simp)])
    go_wp2_with fail
    go_ret
    exact ⟨ret_i8 (unhide HR).symm, unhide B0⟩
  · go_wp2_with fail
    refine ((unhide HV) W0).mono ?_; rintro e w1 ⟨rfl, b1⟩
    have B1 := hide (bel_trans (unhide B0) b1)
    have y0 := cell_below z0 hlt b1
    have y1 := cell_below z1 hlt b1
    clear b1 B0 HV z0 z1
    cases q
    · have HR : Hid (r = 4) := hide (by rw [unhide HE, if_pos (by simp)])
      go_wp2_with fail
      go_ret
      exact ⟨ret_i8 (unhide HR).symm, unhide B1⟩
    · by_cases h : 1000 < x.size + y.size
      · have HR : Hid (r = 5) := hide (by rw [unhide HE, if_neg (by simp), if_pos h])
        have h' : (1000 : Int) < (x.size : Int) + (y.size : Int) := by omega
        clear HE h
        go_wp2_with fail
        go_ret
        exact ⟨ret_i8 (unhide HR).symm, unhide B1⟩
      · have HR : Hid (r = 0) := hide (by rw [unhide HE, if_neg (by simp), if_neg h])
        have h' : ¬ (1000 : Int) < (x.size : Int) + (y.size : Int) := by omega
        clear HE h
        go_wp2_with fail
        go_ret
        exact ⟨ret_i8 (unhide HR).symm, unhide B1⟩
theorem mk_toList (l : List UInt8) : (mk l).data.toList = l := by simp [mk]
theorem mk_size (l : List UInt8) : (mk l).size = l.length := by simp [mk, ByteArray.size]
set_option maxHeartbeats 4000000 in
theorem hcheck_any (m t : List UInt8) (u : Value) (fs : List Fl) (w : World) (hu : Flds w u fs) (hm : m.length + t.length ≤ 68719476736) (hfs : ∀ f ∈ fs, f.1.length + f.2.length ≤ 68719476736) :
    Calls Tryd.prog 49 #[headV m t u] w fun e w' => e = .returned (.int .i64 (Mh.check m t fs)) ∧ Below w.heap.size w w' := by
  unfold headV
  obtain ⟨o, c, rfl, hc⟩ := hu.form
  have HU := hide hu
  have hroom := hu.room
  have HFS := hide hfs
  clear hu hfs
  have HM := hide (fun W => isMethod_any (mk m) W (by rw [mk_size]; unfold maxLen; omega))
  have HT := hide (fun W => isTarget_any (mk t) W (by rw [mk_size]; unfold maxLen; omega))
  have HE : Hid (Mh.check m t fs = if ¬ (Mh.methodB m = true ∧ Mh.targetB t = true) then 4 else if 1000 < (mk t).size ∨ 30 < fs.length then 5 else Mh.fieldsE fs) := hide (by unfold Mh.check; rw [mk_size])
  rw [mk_toList] at HM HT
  obtain ⟨x, hx⟩ : ∃ x, mk m = x := ⟨_, rfl⟩
  obtain ⟨y, hy⟩ : ∃ y, mk t = y := ⟨_, rfl⟩
  have hys : y.size ≤ 68719476736 := by rw [← hy, mk_size]; omega
  obtain ⟨r, hr⟩ : ∃ r, Mh.check m t fs = r := ⟨_, rfl⟩
  obtain ⟨p, hp⟩ : ∃ p, Mh.methodB m = p := ⟨_, rfl⟩
  obtain ⟨q, hq⟩ : ∃ q, Mh.targetB t = q := ⟨_, rfl⟩
  rw [hr, hp, hq, hy] at HE
  rw [hp, hx] at HM
  rw [hq, hy] at HT
  rw [hr, hx, hy]
  clear hr hp hq hx hy hm
  have B0 := hide ((Below.refl w.heap.size w).alloc (Nat.le_refl _) (.cells #[.string x, .string y, .slice o fs.length c] 24))
  obtain ⟨z0, z1, z2⟩ := three_new w (.string x) (.string y) (.slice o fs.length c) 24
  obtain ⟨W0, hW0⟩ : ∃ W0, w.alloc (.cells #[.string x, .string y, .slice o fs.length c] 24) = W0 := ⟨_, rfl⟩
  rw [hW0] at z0 z1 z2 B0
  go_enter Tryd.func49, Tryd.ntmps49
  go_wp2_with fail
  clear hW0
  refine ((unhide HM) W0).mono ?_; rintro e wx ⟨rfl, hwx⟩; rw [hwx]; clear hwx wx HM
  cases p
  · have HR : Hid (r = 4) := hide (by rw [unhide HE, if_pos (by simp)])
    go_wp2_with fail
    go_ret
    exact ⟨ret_i8 (unhide HR).symm, unhide B0⟩
  · go_wp2_with fail
    refine ((unhide HT) W0).mono ?_; rintro e wx ⟨rfl, hwx⟩; rw [hwx]; clear hwx wx HT
    cases q
    · have HR : Hid (r = 4) := hide (by rw [unhide HE, if_pos (by simp)])
      go_wp2_with fail
      go_ret
      exact ⟨ret_i8 (unhide HR).symm, unhide B0⟩
    · by_cases h1 : 1000 < y.size
      · have HR : Hid (r = 5) := hide (by rw [unhide HE, if_neg (by simp), if_pos (.inl h1)])
        have h' : (1000 : Int) < (y.size : Int) := by omega
        clear HE h1
        go_wp2_with fail
        go_ret
        exact ⟨ret_i8 (unhide HR).symm, unhide B0⟩
      · have h1' : ¬ (1000 : Int) < (y.size : Int) := by omega
        by_cases h2 : 30 < fs.length
        · have HR : Hid (r = 5) := hide (by rw [unhide HE, if_neg (by simp), if_pos (.inr h2)])
          have h' : (30 : Int) < (fs.length : Int) := by omega
          clear HE h1 h2
          go_wp2_with fail
          go_ret
          exact ⟨ret_i8 (unhide HR).symm, unhide B0⟩
        · have HR : Hid (Mh.fieldsE fs = r) := hide (by rw [unhide HE, if_neg (by simp), if_neg (by rintro (h | h); exact h1 h; exact h2 h)])
          have h' : ¬ (30 : Int) < (fs.length : Int) := by omega
          clear HE h1 h2
          go_wp2_with fail
          go_loopw [29] (fun i wr => ∃ k : Nat, i = .int .i64 k ∧ k ≤ fs.length ∧ Mh.fieldsE (fs.drop k) = r ∧ Below w.heap.size w wr) (fun i _ => fs.length - (intOf i).toNat)
          case atStart => exact ⟨0, rfl, Nat.zero_le _, unhide HR, unhide B0⟩
          case round =>
            obtain ⟨k, rfl, hk, hres, hbel⟩ := hrel
            have HB := hide hbel
            have hB := hbel.size
            clear hbel z0 z1 z2 B0 HR
            by_cases hlt : k < fs.length
            · obtain ⟨f, hf⟩ : ∃ f, fs[k]? = some f := ⟨fs[k], List.getElem?_eq_getElem hlt⟩
              obtain ⟨g, off, c', hv, hg, hcell⟩ := ((unhide HU).below (unhide HB)).at_ (by intro e; rw [e] at hlt; cases hlt)
              cases hv
              obtain ⟨l0, l1⟩ := hcell k f hf
              have hdrop : fs.drop k = f :: fs.drop (k + 1) := by
                rw [List.drop_eq_getElem_cons hlt]
                have := List.getElem?_eq_getElem hlt
                rw [hf] at this
                rw [← Option.some.inj this]
              rw [hdrop, Mh.fieldsE] at hres
              have HRS := hide hres
              have HC := hide (fun W => checkField_any f W ((unhide HFS) f (List.mem_of_getElem? hf)))
              obtain ⟨a, ha⟩ : ∃ a, mk f.1 = a := ⟨_, rfl⟩
              obtain ⟨b, hb⟩ : ∃ b, mk f.2 = b := ⟨_, rfl⟩
              obtain ⟨z, hz⟩ : ∃ z, Mh.fieldE f = z := ⟨_, rfl⟩
              rw [ha] at l0 HC
              rw [hb] at l1 HC
              rw [hz] at HRS HC
              clear ha hb hz hcell hdrop hres hf
              have B1 := hide ((unhide HB).alloc hB (.cells #[.string a, .string b] 57))
              obtain ⟨y0, y1⟩ := two_new wr (.string a) (.string b) 57
              by_cases h0 : z = 0
              · subst h0
                have HX : Hid (Mh.fieldsE (fs.drop (k + 1)) = r) := hide (by have := unhide HRS; rwa [if_pos rfl] at this)
                clear HRS
                go_wp2_with fail
                refine ((unhide HC) _).mono ?_; rintro e w1 ⟨rfl, b1⟩
                go_wp2_with fail
                exact ⟨⟨k + 1, by go_num, by omega, unhide HX, (unhide B1).trans (b1.mono (unhide B1).size)⟩, by simp [intOf]; omega⟩
              · have HX : Hid (z = r) := hide (by have := unhide HRS; rwa [if_neg h0] at this)
                have hzn : (z != 0) = true := by simpa using h0
                clear HRS
                go_wp2_with fail
                refine ((unhide HC) _).mono ?_; rintro e w1 ⟨rfl, b1⟩
                go_wp2_with fail
                go_ret
                exact ⟨ret_i8 (unhide HX), (unhide B1).trans (b1.mono (unhide B1).size)⟩
            · obtain rfl : k = fs.length := by omega
              have HX : Hid (0 = r) := hide (by rw [List.drop_length] at hres; exact hres)
              go_wp2_with fail
              go_ret
              exact ⟨ret_i8 (unhide HX), unhide HB⟩
end Go.Proofs.YtmgealcolofomaaDoor
