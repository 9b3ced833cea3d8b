/- Walks of the document's Base64Decode and HexDecode. -/
import Derived.Test.YtkhbfdokkmebhaaGreatDoorRq
namespace Go.Proofs.YtkhbfdokkmebhaaGreatDoor
open Go.RowKit Kb
set_option linter.unusedVariables false
set_option maxRecDepth 20000

def trimN : Nat → List UInt8 → List UInt8
  | 0, l => l
  | m + 1, l => trimN m (C6.trim1 l)
theorem trim_same {l : List UInt8} (h : l.getLast? ≠ some 61) : C6.trim1 l = l := by unfold C6.trim1; rw [if_neg h]
theorem trimN_same {l : List UInt8} (h : l.getLast? ≠ some 61) : ∀ m, trimN m l = l := by
  intro m
  induction m with
  | zero => rfl
  | succ m ih => rw [trimN, trim_same h, ih]
theorem last_at (b : ByteArray) (h : 0 < b.size) : b.data.toList.getLast? = some (b[b.size - 1]'(by omega)) := by
  rw [List.getLast?_eq_getElem?]
  have hl : b.data.toList.length = b.size := by simp
  rw [hl, List.getElem?_eq_getElem (by rw [hl]; omega)]; rfl
theorem drop_last (b : ByteArray) (h : 0 < b.size) : (b.extract 0 (b.size - 1)).data.toList = b.data.toList.dropLast := by
  rw [Lib.extract_data, List.drop_zero, Nat.sub_zero, List.dropLast_eq_take]; simp
theorem fd_notall : ∀ (l : List UInt8) (x : List UInt8 × Nat × Nat), C7.allS l = false → C6.fd l x = none := by
  intro l
  induction l with
  | nil => intro x h; cases h
  | cons c r ih =>
    intro x h
    rw [C6.fd]
    cases hc : C6.sv c with
    | none => rfl
    | some v =>
      simp only
      apply ih
      unfold C7.allS at h ⊢
      rw [List.all_cons, hc] at h
      simpa using h
theorem cand_of {l m : List UInt8} (h : C6.dec64 l = some m) : (C7.nm 8 (C7.b6s (C6.trim1 (C6.trim1 l)))).map UInt8.ofNat = m := by
  have e := C6.enc_dec _ l m (Nat.le_refl _) h
  rw [← e, C7.cand_enc, List.map_map]
  have : ∀ c : UInt8, (UInt8.ofNat ∘ (fun c : UInt8 => c.toNat)) c = c := by intro c; simp
  rw [List.map_congr_left (g := id) (fun c _ => this c)]; simp
theorem map_of_snoc (L : List Nat) (k : Nat) (h : k < L.length) : (L.take (k + 1)).map UInt8.ofNat = (L.take k).map UInt8.ofNat ++ [UInt8.ofNat L[k]] := by
  rw [take_succ_nat L k h, List.map_append]; rfl
theorem beq_str {a b : ByteArray} (h : a.data.toList = b.data.toList) : (a.toList == b.toList) = true := by
  rw [ByteArray.toList_eq, ByteArray.toList_eq, h]; simp
theorem bne_str {a b : ByteArray} (h : a.data.toList ≠ b.data.toList) : (a.toList == b.toList) = false := by
  rw [beq_eq_false_iff_ne, ByteArray.toList_eq, ByteArray.toList_eq]; exact h

set_option maxRecDepth 100000 in
set_option maxHeartbeats 16000000 in
theorem rb64dec_any (s : ByteArray) (w : World) (hs : s.size ≤ 8589934592) :
    Calls Tryz.prog 13 #[.string s] w fun e w' => e = .returned (.tuple #[.string ⟨(bdV s.data.toList).toArray⟩, .int .i64 (bdE s.data.toList)]) ∧ Below w.heap.size w w' := by
  go_enter Tryz.func13, Tryz.ntmps13
  go_wp2
  go_loopw [4] (fun v wr => ∃ (j : Nat) (b : ByteArray), j ≤ 2 ∧ v = .string b ∧ b.size + j = s.size ∧ trimN (2 - j) b.data.toList = C6.trim1 (C6.trim1 s.data.toList) ∧ wr = w) (fun v _ => strLen v)
  case atStart => exact ⟨0, s, by omega, rfl, by omega, rfl, rfl⟩
  case round =>
    obtain ⟨j, b, hj, rfl, hbs, htr, hww⟩ := hrel
    rw [hww]
    clear hww
    by_cases hgo : 0 < b.size ∧ b.data.toList.getLast? = some 61 ∧ j < 2
    · obtain ⟨g1, g2, g3⟩ := hgo
      have hla := last_at b g1
      rw [g2] at hla
      have hc : b[b.size - 1]'(by omega) = 61 := by simpa using hla.symm
      have hc' : b[((b.size : Int) - 1).toNat]'(by omega) = 61 := by
        have e : ((b.size : Int) - 1).toNat = b.size - 1 := by omega
        simp only [e]; exact hc
      have HT : Hid (trimN (2 - (j + 1)) (b.extract 0 (b.size - 1)).data.toList = C6.trim1 (C6.trim1 s.data.toList)) := hide (by
        rw [drop_last b g1, ← htr, show 2 - j = (2 - (j + 1)) + 1 from by omega, trimN]
        congr 1
        unfold C6.trim1; rw [if_pos g2])
      have hes : (b.extract 0 (b.size - 1)).size = b.size - 1 := by simp
      have hjj : (s.size : Int) - (b.size : Int) < 2 := by omega
      have g1' : 0 < (b.size : Int) := by omega
      have hsm : ((b.size : Int) - 1).toNat = b.size - 1 := by omega
      clear hla g2 htr
      go_wp2_with fail
      refine ⟨⟨j + 1, _, by omega, rfl, by rw [hes]; omega, unhide HT, by first | trivial | rfl⟩, ?_⟩
      simp only [strLen]; omega
    · have HT : Hid (b.data.toList = C6.trim1 (C6.trim1 s.data.toList)) := hide (by
        rw [← htr]
        by_cases h0 : 0 < b.size
        · by_cases h1 : b.data.toList.getLast? = some 61
          · have : j = 2 := by
              rcases Nat.lt_or_ge j 2 with h | h
              · exact absurd ⟨h0, h1, h⟩ hgo
              · omega
            subst this; rfl
          · rw [trimN_same h1]
        · have : b.data.toList = [] := List.length_eq_zero_iff.1 (by rw [len_data]; omega)
          rw [trimN_same (by rw [this]; simp)])
      have hexit : b.size = 0 ∨ (0 < b.size ∧ ∃ c : UInt8, (∀ h, b[b.size - 1]'h = c) ∧ (((c.toNat : Int) == 61) = false ∨ (c.toNat = 61 ∧ 2 ≤ j))) := by
        by_cases h0 : 0 < b.size
        · right
          refine ⟨h0, b[b.size - 1]'(by omega), fun _ => rfl, ?_⟩
          by_cases h1 : (b[b.size - 1]'(by omega)).toNat = 61
          · right
            refine ⟨h1, ?_⟩
            rcases Nat.lt_or_ge j 2 with h | h
            · exact absurd ⟨h0, by rw [last_at b h0, Kb.u8_of (d := 61) h1], h⟩ hgo
            · exact h
          · left; exact beqF (b := 61) h1
        · left; omega
      clear hgo htr
      have HBI := hide (fun W => bits6_any b W (by omega))
      change Hid (∀ W, Calls _ _ _ W fun e w' => ∃ v, e = .returned (.tuple #[v, .bool (C7.allS b.data.toList)]) ∧ (C7.allS b.data.toList = true → w'.ownsRow W.heap.size 3 1 v (6 * b.size) (cellsI (C7.b6s b.data.toList))) ∧ Below W.heap.size W w') at HBI
      have hbl := C7.b6s_len b.data.toList
      rw [len_data] at hbl
      have H2 := hide (C7.b6s_lt b.data.toList)
      have HCD : Hid (∀ m, C6.dec64 s.data.toList = some m → (C7.nm 8 (C7.b6s b.data.toList)).map UInt8.ofNat = m) := hide (fun m hm => by rw [unhide HT]; exact cand_of hm)
      have HNA : Hid (C7.allS b.data.toList = false → bdV s.data.toList = [] ∧ bdE s.data.toList = 4) := hide (fun h => by
        have : C6.dec64 s.data.toList = none := by
          unfold C6.dec64
          rw [← unhide HT, fd_notall _ _ h]; simp [C6.fin]
        simp [bdV, bdE, this])
      generalize C7.b6s b.data.toList = bl at *
      generalize C7.allS b.data.toList = al at *
      rcases al with _ | _
      · have HR := hide ((unhide HNA) rfl)
        clear HNA HCD
        rcases hexit with h0 | ⟨h0, c, hc, hcc | ⟨hc61, hj2⟩⟩
        · have h0' : (b.size : Int) = 0 := by omega
          clear h0
          go_wp2_with fail
          refine ((unhide HBI) _).mono ?_; rintro e w1 ⟨v, rfl, hv, b1⟩
          go_wp2_with fail
          go_ret2
          exact ⟨Kb.ret_str_int (by rw [(unhide HR).1]) (by rw [(unhide HR).2]), b1⟩
        · have h0' : 0 < (b.size : Int) := by omega
          have hc1 := hc (by omega)
          have hc' : b[((b.size : Int) - 1).toNat]'(by omega) = c := by
            have e : ((b.size : Int) - 1).toNat = b.size - 1 := by omega
            simp only [e]; exact hc1
          clear hc
          go_wp2_with fail
          refine ((unhide HBI) _).mono ?_; rintro e w1 ⟨v, rfl, hv, b1⟩
          go_wp2_with fail
          go_ret2
          exact ⟨Kb.ret_str_int (by rw [(unhide HR).1]) (by rw [(unhide HR).2]), b1⟩
        · have h0' : 0 < (b.size : Int) := by omega
          have hc1 := hc (by omega)
          have hc' : b[((b.size : Int) - 1).toNat]'(by omega) = c := by
            have e : ((b.size : Int) - 1).toNat = b.size - 1 := by omega
            simp only [e]; exact hc1
          have hcc : ((c.toNat : Int) == 61) = true := beqT hc61
          have hjj : ¬ (s.size : Int) - (b.size : Int) < 2 := by omega
          clear hc hc61
          go_wp2_with fail
          refine ((unhide HBI) _).mono ?_; rintro e w1 ⟨v, rfl, hv, b1⟩
          go_wp2_with fail
          go_ret2
          exact ⟨Kb.ret_str_int (by rw [(unhide HR).1]) (by rw [(unhide HR).2]), b1⟩
      · clear HNA
        rcases hexit with h0 | ⟨h0, c, hc, hcc | ⟨hc61, hj2⟩⟩
        · have h0' : (b.size : Int) = 0 := by omega
          go_wp2_with fail
          refine ((unhide HBI) _).mono ?_; rintro e w1 ⟨v, rfl, hv, b1⟩
          have own1 := hv (by trivial)
          have HB1 := hide b1
          clear hv b1
          have HNUM := hide (numbers_any v w.heap.size (6 * b.size) bl 8 w1 (by omega) (by omega) (by omega) (by omega) (unhide H2) own1)
          have HLT := hide (C7.nm_lt 8 (by decide) _ bl (Nat.le_refl _) (unhide H2))
          have hLb := C7.nm_len_le 8 (by decide) _ bl (Nat.le_refl _)
          clear own1
          generalize C7.nm 8 bl = L at *
          have hLb2 : L.length ≤ 68719476736 := by omega
          clear hLb
          go_wp2_with fail
          refine (unhide HNUM).mono ?_; rintro e w2 ⟨v2, rfl, own2, bel2⟩
          have OW2 := hide own2
          have HB2 := hide ((unhide HB1).trans (bel2.mono (unhide HB1).size))
          have hcase2 := own2.2
          clear own2 bel2 HNUM HB1
          rcases hcase2 with ⟨rfl, h00⟩ | ⟨g2, cap2, cur2, rfl, hgc2⟩
          all_goals
            go_wp2_with fail
            go_loopw [8, 9] (fun v i wq => ∃ (k : Nat) (o : ByteArray), k ≤ L.length ∧ i = .int .i64 k ∧ v = .string o ∧ o.data.toList = (L.take k).map UInt8.ofNat ∧ Below w2.heap.size w2 wq) (fun _ i _ => L.length - (intOf i).toNat)
            case atStart => exact ⟨0, _, Nat.zero_le _, rfl, rfl, rfl, Below.refl _ _⟩
            case round =>
              obtain ⟨k, o, hk, rfl, rfl, ho, hbel⟩ := hrel
              have HB3 := hide hbel
              have HO := hide ho
              have hos : o.size = k := by rw [← len_data, ho, List.length_map, List.length_take]; omega
              have hos' : o.size ≤ 68719476736 := by omega
              clear hbel ho
              by_cases hkl : k < L.length
              · first
                  | (exfalso; omega; done)
                  | (have hcell := cell_below (nth_cell (unhide OW2) k hkl) (own_small (unhide OW2)) (unhide HB3)
                     have hx256 := (unhide HLT) _ (List.getElem_mem hkl)
                     have HM := hide (map_of_snoc L k hkl)
                     obtain ⟨x, hx⟩ : ∃ x, L[k]'hkl = x := ⟨_, rfl⟩
                     rw [hx] at hcell hx256 HM
                     clear hx hos
                     have hx2 : x < 256 := hx256
                     have hxo : (x : Int) = ((UInt8.ofNat x).toNat : Int) := by simp; omega
                     have hxw : IntKind.u8.wrap (x : Int) = ((UInt8.ofNat x).toNat : Int) := by rw [← hxo]; simp [IntKind.wrap, IntKind.signed, IntKind.bits]; omega
                     generalize UInt8.ofNat x = z at *
                     have hcv : ∀ (W : World) (b : Nat), W.cell? ⟨b, 0, none⟩ = some (.int .u8 (x : Int)) → (convert 36 9 (.slice (some ⟨b, 0, none⟩) 1 1)).run Tryz.prog W = .ok (.string ⟨[z].toArray⟩) W := fun W b h => Kb.conv_one W b _ (by rw [← hxo]; exact h)
                     have HE := hide (app_data (unhide HO) (show (⟨[z].toArray⟩ : ByteArray).data.toList = [z] from rfl))
                     rw [← unhide HM] at HE
                     have hkl' : (k : Int) < (L.length : Int) := by omega
                     clear hxo hxw
                     go_wp2_with fail
                     exact ⟨⟨k + 1, _, by omega, by go_num, rfl, unhide HE, (unhide HB3).alloc (unhide HB3).size _⟩, by simp [intOf]; omega⟩)
              · have HO2 : o.data.toList = L.map UInt8.ofNat := by rw [unhide HO, List.take_of_length_le (by omega)]
                obtain ⟨q, hq⟩ := ex_list (C6.enc64 o.data.toList)
                have HE := hide (fun W => rb64enc_any o q W hq hos')
                rcases hdec : C6.dec64 s.data.toList with _ | m
                · have HR : Hid (bdV s.data.toList = [] ∧ bdE s.data.toList = 4) := hide (by simp [bdV, bdE, hdec])
                  have hne : (q.toList == s.toList) = false := bne_str (by
                    intro e
                    rw [hq] at e
                    have := C6.dec_enc o.data.toList
                    rw [e, hdec] at this; cases this)
                  clear hdec hq HO2 hos
                  go_wp2_with fail
                  refine ((unhide HE) _).mono ?_; rintro e w3 ⟨rfl, b3⟩
                  go_wp2_with fail
                  go_ret2
                  exact ⟨Kb.ret_str_int (by rw [(unhide HR).1]) (by rw [(unhide HR).2]), (unhide HB2).trans (((unhide HB3).trans (b3.mono (unhide HB3).size)).mono (unhide HB2).size)⟩
                · have hcd := (unhide HCD) m hdec
                  have hom : o.data.toList = m := by rw [HO2, hcd]
                  have HR : Hid (bdV s.data.toList = o.data.toList ∧ bdE s.data.toList = 0) := hide (by simp [bdV, bdE, hdec, hom])
                  have heq : (q.toList == s.toList) = true := beq_str (by rw [hq, hom]; exact C6.enc_dec _ _ _ (Nat.le_refl _) hdec)
                  clear hdec hq HO2 hos hcd hom
                  go_wp2_with fail
                  refine ((unhide HE) _).mono ?_; rintro e w3 ⟨rfl, b3⟩
                  go_wp2_with fail
                  go_ret2
                  exact ⟨Kb.ret_str_int (by rw [(unhide HR).1]) (by rw [(unhide HR).2]), (unhide HB2).trans (((unhide HB3).trans (b3.mono (unhide HB3).size)).mono (unhide HB2).size)⟩
        · have h0' : 0 < (b.size : Int) := by omega
          have hc1 := hc (by omega)
          have hc' : b[((b.size : Int) - 1).toNat]'(by omega) = c := by
            have e : ((b.size : Int) - 1).toNat = b.size - 1 := by omega
            simp only [e]; exact hc1
          clear hc
          go_wp2_with fail
          refine ((unhide HBI) _).mono ?_; rintro e w1 ⟨v, rfl, hv, b1⟩
          have own1 := hv (by trivial)
          have HB1 := hide b1
          clear hv b1
          have HNUM := hide (numbers_any v w.heap.size (6 * b.size) bl 8 w1 (by omega) (by omega) (by omega) (by omega) (unhide H2) own1)
          have HLT := hide (C7.nm_lt 8 (by decide) _ bl (Nat.le_refl _) (unhide H2))
          have hLb := C7.nm_len_le 8 (by decide) _ bl (Nat.le_refl _)
          clear own1
          generalize C7.nm 8 bl = L at *
          have hLb2 : L.length ≤ 68719476736 := by omega
          clear hLb
          go_wp2_with fail
          refine (unhide HNUM).mono ?_; rintro e w2 ⟨v2, rfl, own2, bel2⟩
          have OW2 := hide own2
          have HB2 := hide ((unhide HB1).trans (bel2.mono (unhide HB1).size))
          have hcase2 := own2.2
          clear own2 bel2 HNUM HB1
          rcases hcase2 with ⟨rfl, h00⟩ | ⟨g2, cap2, cur2, rfl, hgc2⟩
          all_goals
            go_wp2_with fail
            go_loopw [8, 9] (fun v i wq => ∃ (k : Nat) (o : ByteArray), k ≤ L.length ∧ i = .int .i64 k ∧ v = .string o ∧ o.data.toList = (L.take k).map UInt8.ofNat ∧ Below w2.heap.size w2 wq) (fun _ i _ => L.length - (intOf i).toNat)
            case atStart => exact ⟨0, _, Nat.zero_le _, rfl, rfl, rfl, Below.refl _ _⟩
            case round =>
              obtain ⟨k, o, hk, rfl, rfl, ho, hbel⟩ := hrel
              have HB3 := hide hbel
              have HO := hide ho
              have hos : o.size = k := by rw [← len_data, ho, List.length_map, List.length_take]; omega
              have hos' : o.size ≤ 68719476736 := by omega
              clear hbel ho
              by_cases hkl : k < L.length
              · first
                  | (exfalso; omega; done)
                  | (have hcell := cell_below (nth_cell (unhide OW2) k hkl) (own_small (unhide OW2)) (unhide HB3)
                     have hx256 := (unhide HLT) _ (List.getElem_mem hkl)
                     have HM := hide (map_of_snoc L k hkl)
                     obtain ⟨x, hx⟩ : ∃ x, L[k]'hkl = x := ⟨_, rfl⟩
                     rw [hx] at hcell hx256 HM
                     clear hx hos
                     have hx2 : x < 256 := hx256
                     have hxo : (x : Int) = ((UInt8.ofNat x).toNat : Int) := by simp; omega
                     have hxw : IntKind.u8.wrap (x : Int) = ((UInt8.ofNat x).toNat : Int) := by rw [← hxo]; simp [IntKind.wrap, IntKind.signed, IntKind.bits]; omega
                     generalize UInt8.ofNat x = z at *
                     have hcv : ∀ (W : World) (b : Nat), W.cell? ⟨b, 0, none⟩ = some (.int .u8 (x : Int)) → (convert 36 9 (.slice (some ⟨b, 0, none⟩) 1 1)).run Tryz.prog W = .ok (.string ⟨[z].toArray⟩) W := fun W b h => Kb.conv_one W b _ (by rw [← hxo]; exact h)
                     have HE := hide (app_data (unhide HO) (show (⟨[z].toArray⟩ : ByteArray).data.toList = [z] from rfl))
                     rw [← unhide HM] at HE
                     have hkl' : (k : Int) < (L.length : Int) := by omega
                     clear hxo hxw
                     go_wp2_with fail
                     exact ⟨⟨k + 1, _, by omega, by go_num, rfl, unhide HE, (unhide HB3).alloc (unhide HB3).size _⟩, by simp [intOf]; omega⟩)
              · have HO2 : o.data.toList = L.map UInt8.ofNat := by rw [unhide HO, List.take_of_length_le (by omega)]
                obtain ⟨q, hq⟩ := ex_list (C6.enc64 o.data.toList)
                have HE := hide (fun W => rb64enc_any o q W hq hos')
                rcases hdec : C6.dec64 s.data.toList with _ | m
                · have HR : Hid (bdV s.data.toList = [] ∧ bdE s.data.toList = 4) := hide (by simp [bdV, bdE, hdec])
                  have hne : (q.toList == s.toList) = false := bne_str (by
                    intro e
                    rw [hq] at e
                    have := C6.dec_enc o.data.toList
                    rw [e, hdec] at this; cases this)
                  clear hdec hq HO2 hos
                  go_wp2_with fail
                  refine ((unhide HE) _).mono ?_; rintro e w3 ⟨rfl, b3⟩
                  go_wp2_with fail
                  go_ret2
                  exact ⟨Kb.ret_str_int (by rw [(unhide HR).1]) (by rw [(unhide HR).2]), (unhide HB2).trans (((unhide HB3).trans (b3.mono (unhide HB3).size)).mono (unhide HB2).size)⟩
                · have hcd := (unhide HCD) m hdec
                  have hom : o.data.toList = m := by rw [HO2, hcd]
                  have HR : Hid (bdV s.data.toList = o.data.toList ∧ bdE s.data.toList = 0) := hide (by simp [bdV, bdE, hdec, hom])
                  have heq : (q.toList == s.toList) = true := beq_str (by rw [hq, hom]; exact C6.enc_dec _ _ _ (Nat.le_refl _) hdec)
                  clear hdec hq HO2 hos hcd hom
                  go_wp2_with fail
                  refine ((unhide HE) _).mono ?_; rintro e w3 ⟨rfl, b3⟩
                  go_wp2_with fail
                  go_ret2
                  exact ⟨Kb.ret_str_int (by rw [(unhide HR).1]) (by rw [(unhide HR).2]), (unhide HB2).trans (((unhide HB3).trans (b3.mono (unhide HB3).size)).mono (unhide HB2).size)⟩
        · have h0' : 0 < (b.size : Int) := by omega
          have hc1 := hc (by omega)
          have hc' : b[((b.size : Int) - 1).toNat]'(by omega) = c := by
            have e : ((b.size : Int) - 1).toNat = b.size - 1 := by omega
            simp only [e]; exact hc1
          have hcc : ((c.toNat : Int) == 61) = true := beqT hc61
          have hjj : ¬ (s.size : Int) - (b.size : Int) < 2 := by omega
          clear hc hc61
          go_wp2_with fail
          refine ((unhide HBI) _).mono ?_; rintro e w1 ⟨v, rfl, hv, b1⟩
          have own1 := hv (by trivial)
          have HB1 := hide b1
          clear hv b1
          have HNUM := hide (numbers_any v w.heap.size (6 * b.size) bl 8 w1 (by omega) (by omega) (by omega) (by omega) (unhide H2) own1)
          have HLT := hide (C7.nm_lt 8 (by decide) _ bl (Nat.le_refl _) (unhide H2))
          have hLb := C7.nm_len_le 8 (by decide) _ bl (Nat.le_refl _)
          clear own1
          generalize C7.nm 8 bl = L at *
          have hLb2 : L.length ≤ 68719476736 := by omega
          clear hLb
          go_wp2_with fail
          refine (unhide HNUM).mono ?_; rintro e w2 ⟨v2, rfl, own2, bel2⟩
          have OW2 := hide own2
          have HB2 := hide ((unhide HB1).trans (bel2.mono (unhide HB1).size))
          have hcase2 := own2.2
          clear own2 bel2 HNUM HB1
          rcases hcase2 with ⟨rfl, h00⟩ | ⟨g2, cap2, cur2, rfl, hgc2⟩
          all_goals
            go_wp2_with fail
            go_loopw [8, 9] (fun v i wq => ∃ (k : Nat) (o : ByteArray), k ≤ L.length ∧ i = .int .i64 k ∧ v = .string o ∧ o.data.toList = (L.take k).map UInt8.ofNat ∧ Below w2.heap.size w2 wq) (fun _ i _ => L.length - (intOf i).toNat)
            case atStart => exact ⟨0, _, Nat.zero_le _, rfl, rfl, rfl, Below.refl _ _⟩
            case round =>
              obtain ⟨k, o, hk, rfl, rfl, ho, hbel⟩ := hrel
              have HB3 := hide hbel
              have HO := hide ho
              have hos : o.size = k := by rw [← len_data, ho, List.length_map, List.length_take]; omega
              have hos' : o.size ≤ 68719476736 := by omega
              clear hbel ho
              by_cases hkl : k < L.length
              · first
                  | (exfalso; omega; done)
                  | (have hcell := cell_below (nth_cell (unhide OW2) k hkl) (own_small (unhide OW2)) (unhide HB3)
                     have hx256 := (unhide HLT) _ (List.getElem_mem hkl)
                     have HM := hide (map_of_snoc L k hkl)
                     obtain ⟨x, hx⟩ : ∃ x, L[k]'hkl = x := ⟨_, rfl⟩
                     rw [hx] at hcell hx256 HM
                     clear hx hos
                     have hx2 : x < 256 := hx256
                     have hxo : (x : Int) = ((UInt8.ofNat x).toNat : Int) := by simp; omega
                     have hxw : IntKind.u8.wrap (x : Int) = ((UInt8.ofNat x).toNat : Int) := by rw [← hxo]; simp [IntKind.wrap, IntKind.signed, IntKind.bits]; omega
                     generalize UInt8.ofNat x = z at *
                     have hcv : ∀ (W : World) (b : Nat), W.cell? ⟨b, 0, none⟩ = some (.int .u8 (x : Int)) → (convert 36 9 (.slice (some ⟨b, 0, none⟩) 1 1)).run Tryz.prog W = .ok (.string ⟨[z].toArray⟩) W := fun W b h => Kb.conv_one W b _ (by rw [← hxo]; exact h)
                     have HE := hide (app_data (unhide HO) (show (⟨[z].toArray⟩ : ByteArray).data.toList = [z] from rfl))
                     rw [← unhide HM] at HE
                     have hkl' : (k : Int) < (L.length : Int) := by omega
                     clear hxo hxw
                     go_wp2_with fail
                     exact ⟨⟨k + 1, _, by omega, by go_num, rfl, unhide HE, (unhide HB3).alloc (unhide HB3).size _⟩, by simp [intOf]; omega⟩)
              · have HO2 : o.data.toList = L.map UInt8.ofNat := by rw [unhide HO, List.take_of_length_le (by omega)]
                obtain ⟨q, hq⟩ := ex_list (C6.enc64 o.data.toList)
                have HE := hide (fun W => rb64enc_any o q W hq hos')
                rcases hdec : C6.dec64 s.data.toList with _ | m
                · have HR : Hid (bdV s.data.toList = [] ∧ bdE s.data.toList = 4) := hide (by simp [bdV, bdE, hdec])
                  have hne : (q.toList == s.toList) = false := bne_str (by
                    intro e
                    rw [hq] at e
                    have := C6.dec_enc o.data.toList
                    rw [e, hdec] at this; cases this)
                  clear hdec hq HO2 hos
                  go_wp2_with fail
                  refine ((unhide HE) _).mono ?_; rintro e w3 ⟨rfl, b3⟩
                  go_wp2_with fail
                  go_ret2
                  exact ⟨Kb.ret_str_int (by rw [(unhide HR).1]) (by rw [(unhide HR).2]), (unhide HB2).trans (((unhide HB3).trans (b3.mono (unhide HB3).size)).mono (unhide HB2).size)⟩
                · have hcd := (unhide HCD) m hdec
                  have hom : o.data.toList = m := by rw [HO2, hcd]
                  have HR : Hid (bdV s.data.toList = o.data.toList ∧ bdE s.data.toList = 0) := hide (by simp [bdV, bdE, hdec, hom])
                  have heq : (q.toList == s.toList) = true := beq_str (by rw [hq, hom]; exact C6.enc_dec _ _ _ (Nat.le_refl _) hdec)
                  clear hdec hq HO2 hos hcd hom
                  go_wp2_with fail
                  refine ((unhide HE) _).mono ?_; rintro e w3 ⟨rfl, b3⟩
                  go_wp2_with fail
                  go_ret2
                  exact ⟨Kb.ret_str_int (by rw [(unhide HR).1]) (by rw [(unhide HR).2]), (unhide HB2).trans (((unhide HB3).trans (b3.mono (unhide HB3).size)).mono (unhide HB2).size)⟩
end Go.Proofs.YtkhbfdokkmebhaaGreatDoor
