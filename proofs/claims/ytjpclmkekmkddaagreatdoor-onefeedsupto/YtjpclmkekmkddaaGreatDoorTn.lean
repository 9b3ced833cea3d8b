/- Walks: chunks read, the document's Chunks. -/
import Derived.Test.YtjpclmkekmkddaaGreatDoorTm
namespace Go.Proofs.YtjpclmkekmkddaaGreatDoor
open Go.RowKit Kb
set_option linter.unusedVariables false
set_option maxRecDepth 20000

set_option maxHeartbeats 1000000 in
theorem rchunks_any (s : ByteArray) (most : Int) (w : World) (hs : s.size ≤ 1099511627776) (hm : -9223372036854775808 ≤ most ∧ most ≤ 9223372036854775807) (o : List UInt8 × Int × Int) (ho : Cu.tell (Cu.chunks most s.data.toList) = o) :
    Calls Tryz.prog 23 #[.string s, .int .i64 most] w fun e w' => e = .returned (.tuple #[.string (mk o.1), .int .i64 o.2.1, .int .i64 o.2.2]) ∧ Below w.heap.size w w' := by
  unfold Cu.chunks at ho
  obtain ⟨m, hmm⟩ : ∃ m : Int, max most 0 = m := ⟨_, rfl⟩
  rw [hmm] at ho
  have HMM := hide hmm
  have hm0 : 0 ≤ m := by omega
  have HO0 := hide ho
  clear ho hmm
  go_enter Tryz.func23, Tryz.ntmps23
  go_wp2_with fail
  go_loopw [7, 8] (fun v i wr => ∃ (f k : Nat) (out : List UInt8), v = .string (mk out) ∧ i = .int .i64 k ∧ k ≤ s.size ∧ s.size - k < f ∧ (out.length : Int) ≤ m ∧ out.length ≤ k ∧ Cu.tell (Cu.go m f (s.data.toList.drop k) out k) = o ∧ Below w.heap.size w wr) (fun _ i _ => s.size - (intOf i).toNat)
  case atStart =>
    refine ⟨_, 0, [], rfl, rfl, Nat.zero_le _, ?_, ?_, Nat.zero_le _, unhide HO0, Below.refl _ _⟩
    · simp
    · simpa using hm0
  case round =>
    clear HO0
    obtain ⟨f, k, out, rfl, rfl, hk, hf, hom, hok, hgo, hbel⟩ := hrel
    have HB := hide hbel
    clear hbel
    obtain ⟨q, hq⟩ : ∃ q, mk out = q := ⟨_, rfl⟩
    have hqs : q.size = out.length := by rw [← hq, mk]; simp [ByteArray.size]
    rw [hq]
    have HQ : Hid (q = mk out) := hide hq.symm
    have HQS := hide hqs
    have hqb : q.size ≤ 1099511627776 := by omega
    clear hq hqs
    obtain ⟨T, hT⟩ : ∃ T, s.data.toList.drop k = T := ⟨_, rfl⟩
    have hTlen : T.length = s.size - k := by rw [← hT, List.length_drop, len_data]
    rw [hT] at hgo
    have HT := hide hT
    obtain ⟨g, rfl⟩ : ∃ g, f = g + 1 := ⟨f - 1, by omega⟩
    rw [Cu.go] at hgo
    have HGO := hide hgo
    clear hgo hT
    have hdl := Cu.digs_le T
    have hvb := Cu.val_bd T
    have hcs := Cu.digs_cases T
    obtain ⟨d, hd⟩ : ∃ d, Cu.digs T = d := ⟨_, rfl⟩
    obtain ⟨n, hv⟩ : ∃ n : Nat, Cu.val T = n := ⟨(Cu.val T).toNat, by omega⟩
    rw [hd] at hdl hcs
    rw [hv] at hvb
    have HD := hide hd
    have HV := hide hv
    have HZ : Hid True := hide trivial
    have hkd : k + d ≤ s.size := by omega
    have HTLEN := hide hTlen
    clear hd hv hTlen
    rcases hcs with h7 | ⟨h7, hend⟩ | ⟨c, h7, hlen, hc, hx⟩
    · subst h7
      have hd0 : (7 : Nat) ≠ 0 := by decide
      obtain ⟨A, hA⟩ : ∃ A : Nat, (k : Int) + 7 = A := ⟨k + 7, by omega⟩
      have hAk : A = k + 7 := by omega
      have HNUM := hide (fun W => ref_number_any (s.extract k A) 16 7 W (by unfold maxLen; simp; omega) (by omega) (by omega) (by omega))
      have hex : (s.extract k A).data.toList = T.take 7 := by rw [Lib.extract_data, unhide HT, hAk, Nat.add_sub_cancel_left]
      rw [hex] at HNUM
      have had := Cu.ans_digs T (by rw [unhide HD]; exact hd0)
      rw [unhide HD] at had
      rw [had, unhide HV] at HNUM
      have HNL := hide (fun W => rnewline_any s A A rfl W (by omega) hs _ rfl)
      have HNZ : Hid (¬ (Cu.digs T = 0 ∧ T ≠ [])) := hide (fun h => hd0 (by rw [← unhide HD]; exact h.1))
      have hTA : s.data.toList.drop A = T.drop (Cu.digs T) := by rw [← unhide HT, List.drop_drop, hAk, unhide HT, unhide HD]
      rw [hTA] at HNL
      obtain ⟨z1, hz1⟩ : ∃ z, Cu.nl (T.drop (Cu.digs T)) = z := ⟨_, rfl⟩
      rw [hz1] at HNL
      have HZ1 := hide hz1
      have HA2 : Hid (z1 = 0 → A + 2 ≤ s.size) := hide (fun h => by
        rw [h] at hz1
        obtain ⟨r, hr⟩ := Cu.nl_form hz1
        have := congrArg List.length hr
        rw [← hTA, List.length_drop, len_data, List.length_append] at this
        have h2 : Cu.crlf.length = 2 := rfl
        omega)
      have HAK := hide hAk
      clear hz1 hTA hex had hAk
      go_wp2_with fail
      go_loop [9] (fun i => ∃ j : Nat, j ≤ 7 ∧ i = .int .i64 j) (fun i => 7 - (intOf i).toNat)
      case atStart => exact ⟨0, Nat.zero_le _, rfl⟩
      case round =>
        obtain ⟨j, hj, rfl⟩ := hrel
        by_cases hjd : j < 7
        · obtain ⟨c', hc', hx'⟩ := Cu.digs_in T j (by rw [unhide HD]; exact hjd)
          obtain ⟨hlt', hby'⟩ := byte_at s k j c' (by rw [unhide HT]; exact hc')
          have hj7 : (j : Int) < 7 := by omega
          have hlt3 : (k : Int) + (j : Int) < s.size := by omega
          have HVA := hide (fun W => value_any c'.toNat W (by omega) (by have := c'.toNat_lt; omega))
          obtain ⟨e1, he1⟩ : ∃ e, Num.dig c'.toNat = e := ⟨_, rfl⟩
          have hge' : 0 ≤ e1 := by rw [← he1]; simpa [Cu.isX] using hx'
          rw [he1] at HVA
          clear hc' hx' he1
          go_wp2_with (go_at_call 44; refine ((unhide HVA) _).mono ?_; rintro e wx ⟨rfl, rfl⟩)
          go_round
          case rel => exact ⟨j + 1, by omega, by go_num⟩
          case measure => simp [intOf]; omega
        · obtain rfl : j = 7 := by omega
          go_wp2_with fail
          refine ((unhide HNUM) _).mono ?_; rintro e1 wx ⟨rfl, rfl⟩
          go_wp2_with fail
          refine ((unhide HNL) wx).mono ?_; rintro e1 w2 ⟨rfl, b2⟩
          have B2 := hide (bel_trans (unhide HB) b2)
          clear b2
          by_cases hz1 : z1 = 0
          · subst hz1
            have hAs : A + 2 ≤ s.size := unhide HA2 rfl
            obtain ⟨K, hK⟩ : ∃ K : Nat, (k : Int) + 9 = K := ⟨k + (7 + 2), by omega⟩
            have hKs : K ≤ s.size := by omega
            have hTK : s.data.toList.drop K = T.drop (7 + 2) := by rw [← unhide HT, List.drop_drop]; congr 1; omega
            have HTK := hide hTK
            have hTl : (T.drop (7 + 2)).length = s.size - K := by rw [← hTK, List.length_drop, len_data]
            have HTL := hide hTl
            clear hTK hTl
            by_cases hn0 : n = 0
            · subst hn0
              have HL2 := hide (fun W => rnewline_any s K K rfl W hKs hs _ rfl)
              obtain ⟨z2, hz2⟩ : ∃ z2, Cu.nl (s.data.toList.drop K) = z2 := ⟨_, rfl⟩
              rw [hz2] at HL2
              have hr2 : ¬ (m - (out.length : Int)) < Cu.val T := by rw [unhide HV]; have := unhide HQS; omega
              have hr3 : ¬ ((T.drop (Cu.digs T + 2)).length : Int) < Cu.val T := by rw [unhide HV, unhide HD]; omega
              have hnl : Cu.nl ((T.drop (Cu.digs T + 2)).drop (Cu.val T).toNat) = z2 := by rw [unhide HV, unhide HD, ← unhide HTK]; exact hz2
              by_cases hz2' : z2 = 0
              · subst hz2'
                have hck := Cu.c_ok (unhide HNZ) (unhide HZ1) hr2 hr3 hnl
                have hgo := unhide HGO
                rw [hck, unhide HV, unhide HD] at hgo
                dsimp only at hgo
                rw [if_pos (by simp)] at hgo
                dsimp only [Cu.tell] at hgo
                obtain ⟨Q, hQ⟩ : ∃ Q : Nat, (K : Int) + 2 = Q := ⟨K + 2, by omega⟩
                have HO : Hid ((out, ((Q : Nat) : Int), (0 : Int)) = o) := hide (by rw [← hgo]; refine Prod.ext rfl (Prod.ext ?_ rfl); have h0 : (((0 : Nat) : Int)).toNat = 0 := rfl; show ((Q : Nat) : Int) = ((k + (7 + 2 + (((0 : Nat) : Int)).toNat + 2) : Nat) : Int); omega)
                have HE : Hid (q ++ s.extract K K = q) := hide (eq_of_lists (by rw [cat_data]; simp))
                clear hz2 hnl hck hgo hr2 hr3
                go_wp2_with fail
                refine ((unhide HL2) w2).mono ?_; rintro e1 w3 ⟨rfl, b3⟩
                go_wp2_with fail
                go_ret3
                rw [← unhide HO]
                exact ⟨ret_sii (by first | exact unhide HQ | exact (unhide HE).trans (unhide HQ) | (rw [unhide HQ])) (by first | rfl | (show _ = ((Q : Nat) : Int); omega)) rfl, bel_trans (unhide B2) b3⟩
              · have hck := Cu.c_end (unhide HNZ) (unhide HZ1) hr2 hr3 hnl hz2'
                have hgo := unhide HGO
                rw [hck] at hgo
                dsimp only [Cu.tell] at hgo
                have HO := hide hgo
                clear hz2 hnl hck hgo hr2 hr3
                go_wp2_with fail
                refine ((unhide HL2) w2).mono ?_; rintro e1 w3 ⟨rfl, b3⟩
                go_wp2_with fail
                go_ret3
                rw [← unhide HO]
                exact ⟨rfl, bel_trans (unhide B2) b3⟩
            · have hnp : (0 : Int) < n := by omega
              have hnp2 : 0 < n := by omega
              by_cases hov : most < (n : Int) + (q.size : Int)
              · have hr2 : (m - (out.length : Int)) < Cu.val T := by rw [unhide HV]; have := unhide HQS; have := unhide HMM; omega
                have hck := Cu.c_over (unhide HNZ) (unhide HZ1) hr2
                have hgo := unhide HGO
                rw [hck] at hgo
                dsimp only [Cu.tell] at hgo
                have HO := hide hgo
                clear hck hgo hr2
                go_wp2_with fail
                go_ret3
                rw [← unhide HO]
                exact ⟨rfl, unhide B2⟩
              · have hr2 : ¬ (m - (out.length : Int)) < Cu.val T := by rw [unhide HV]; have := unhide HQS; have := unhide HMM; omega
                by_cases hmo : (s.size : Int) - (K : Int) < n
                · have hr3 : ((T.drop (Cu.digs T + 2)).length : Int) < Cu.val T := by rw [unhide HV, unhide HD, unhide HTL]; omega
                  have hck := Cu.c_more (unhide HNZ) (unhide HZ1) hr2 hr3
                  have hgo := unhide HGO
                  rw [hck] at hgo
                  dsimp only [Cu.tell] at hgo
                  have HO := hide hgo
                  clear hck hgo hr2 hr3
                  go_wp2_with fail
                  go_ret3
                  rw [← unhide HO]
                  exact ⟨rfl, unhide B2⟩
                · have hr3 : ¬ ((T.drop (Cu.digs T + 2)).length : Int) < Cu.val T := by rw [unhide HV, unhide HD, unhide HTL]; omega
                  obtain ⟨M, hM⟩ : ∃ M : Nat, (K : Int) + (n : Int) = M := ⟨K + n, by omega⟩
                  have hMs : M ≤ s.size := by omega
                  have HL2 := hide (fun W => rnewline_any s M M rfl W hMs hs _ rfl)
                  obtain ⟨z2, hz2⟩ : ∃ z2, Cu.nl (s.data.toList.drop M) = z2 := ⟨_, rfl⟩
                  rw [hz2] at HL2
                  have hMK : M = K + n := by omega
                  have hnl : Cu.nl ((T.drop (Cu.digs T + 2)).drop (Cu.val T).toNat) = z2 := by rw [unhide HV, unhide HD, ← unhide HTK, List.drop_drop, Int.toNat_natCast, ← hMK]; exact hz2
                  by_cases hz2' : z2 = 0
                  · subst hz2'
                    have hck := Cu.c_ok (unhide HNZ) (unhide HZ1) hr2 hr3 hnl
                    have hgo := unhide HGO
                    rw [hck, unhide HV, unhide HD, Int.toNat_natCast] at hgo
                    dsimp only at hgo
                    have hpl : ((T.drop (7 + 2)).take n).length = n := by rw [List.length_take, unhide HTL]; omega
                    rw [if_neg (fun e => by rw [e] at hpl; simp at hpl; omega)] at hgo
                    obtain ⟨Q, hQ⟩ : ∃ Q : Nat, (K : Int) + ((n : Int) + 2) = Q := ⟨K + (n + 2), by omega⟩
                    have hu : k + (7 + 2 + n + 2) = Q := by omega
                    have hM2 : M + 2 ≤ s.size := by
                      have h := unhide HZ
                      have hz := Cu.nl_form hz2
                      obtain ⟨r, hr⟩ := hz
                      have := congrArg List.length hr
                      rw [List.length_drop, len_data, List.length_append] at this
                      have h2 : Cu.crlf.length = 2 := rfl
                      omega
                    rw [hu, ← unhide HT, List.drop_drop, hu] at hgo
                    have HP : Hid ((s.extract K M).data.toList = (T.drop (7 + 2)).take n) := hide (by
                      rw [Lib.extract_data, unhide HTK]; congr 1; omega)
                    have HG : Hid (Cu.tell (Cu.go m g (s.data.toList.drop Q) (out ++ (s.extract K M).data.toList) Q) = o) := hide (by rw [unhide HP, ← unhide HT]; exact hgo)
                    have hes : (s.extract K M).size = n := by rw [← len_data, unhide HP]; exact hpl
                    have HES := hide hes
                    clear hz2 hnl hck hgo hr2 hr3 hpl hu hMK hes
                    go_wp2_with fail
                    refine ((unhide HL2) w2).mono ?_; rintro e1 w3 ⟨rfl, b3⟩
                    go_wp2_with fail
                    have hqs := unhide HQS
                    have hes := unhide HES
                    have hmm := unhide HMM
                    refine ⟨⟨g, Q, out ++ (s.extract K M).data.toList, ?_, rfl, by omega, by omega, ?_, ?_, unhide HG, bel_trans (unhide B2) b3⟩, by simp [intOf]; omega⟩
                    · rw [← cat_mk, ← unhide HQ, mk_data]
                    · rw [List.length_append, len_data]; omega
                    · rw [List.length_append, len_data]; omega
                  · have hck := Cu.c_end (unhide HNZ) (unhide HZ1) hr2 hr3 hnl hz2'
                    have hgo := unhide HGO
                    rw [hck] at hgo
                    dsimp only [Cu.tell] at hgo
                    have HO := hide hgo
                    clear hz2 hnl hck hgo hr2 hr3 hMK
                    go_wp2_with fail
                    refine ((unhide HL2) w2).mono ?_; rintro e1 w3 ⟨rfl, b3⟩
                    go_wp2_with fail
                    go_ret3
                    rw [← unhide HO]
                    exact ⟨rfl, bel_trans (unhide B2) b3⟩
          · have hck := Cu.c_line (room := m - out.length) (unhide HNZ) (unhide HZ1) hz1
            have hgo := unhide HGO
            rw [hck] at hgo
            dsimp only [Cu.tell] at hgo
            have HO := hide hgo
            clear hck hgo
            go_wp2_with fail
            go_ret3
            rw [← unhide HO]
            exact ⟨rfl, unhide B2⟩
    · have hend' : k + d = s.size := by have := unhide HTLEN; omega
      have h7' : (d : Int) < 7 := by omega
      by_cases hd0 : d = 0
      · subst hd0
        have hT0 : T = [] := List.length_eq_zero_iff.1 hend.symm
        obtain rfl : k = s.size := by omega
        have HO : Hid (([], 0, 7) = o) := hide (by
          have hck := Cu.c_line (room := m - out.length) (l := T) (z := 7) (by rw [hT0]; simp) (by rw [hT0]; rfl) (by decide)
          have hgo := unhide HGO
          rw [hck] at hgo
          exact hgo)
        clear hend hT0 hend' h7'
        go_wp2_with fail
        go_loop [9] (fun i => i = .int .i64 0) (fun i => 0)
        case atStart => rfl
        case round =>
          subst hrel
          go_wp2_with fail
          go_ret3
          rw [← unhide HO]
          exact ⟨rfl, unhide HB⟩
      · obtain ⟨A, hA⟩ : ∃ A : Nat, (k : Int) + (d : Int) = A := ⟨k + d, by omega⟩
        have hAk : A = k + d := by omega
        have HNUM := hide (fun W => ref_number_any (s.extract k A) 16 7 W (by unfold maxLen; simp; omega) (by omega) (by omega) (by omega))
        have hex : (s.extract k A).data.toList = T.take d := by rw [Lib.extract_data, unhide HT, hAk, Nat.add_sub_cancel_left]
        rw [hex] at HNUM
        have had := Cu.ans_digs T (by rw [unhide HD]; exact hd0)
        rw [unhide HD] at had
        rw [had, unhide HV] at HNUM
        have HNL := hide (fun W => rnewline_any s A A rfl W (by omega) hs _ rfl)
        have HNZ : Hid (¬ (Cu.digs T = 0 ∧ T ≠ [])) := hide (fun h => hd0 (by rw [← unhide HD]; exact h.1))
        have hTA : s.data.toList.drop A = T.drop (Cu.digs T) := by rw [← unhide HT, List.drop_drop, hAk, unhide HT, unhide HD]
        rw [hTA] at HNL
        obtain ⟨z1, hz1⟩ : ∃ z, Cu.nl (T.drop (Cu.digs T)) = z := ⟨_, rfl⟩
        rw [hz1] at HNL
        have HZ1 := hide hz1
        have HA2 : Hid (z1 = 0 → A + 2 ≤ s.size) := hide (fun h => by
          rw [h] at hz1
          obtain ⟨r, hr⟩ := Cu.nl_form hz1
          have := congrArg List.length hr
          rw [← hTA, List.length_drop, len_data, List.length_append] at this
          have h2 : Cu.crlf.length = 2 := rfl
          omega)
        have HAK := hide hAk
        clear hz1 hTA hex had hAk
        have h7z : z1 = 7 := by
          have := unhide HZ1
          rw [← this, unhide HD, hend]
          exact Cu.nl_end (Nat.le_refl _)
        subst h7z
        have HO : Hid (([], 0, 7) = o) := hide (by
          have hck := Cu.c_line (room := m - out.length) (unhide HNZ) (unhide HZ1) (by decide)
          have hgo := unhide HGO
          rw [hck] at hgo
          exact hgo)
        have hAs : ¬ A < s.size := by have := unhide HAK; omega
        have hAs2 : ¬ (A : Int) < s.size := by omega
        clear hend hend' HZ1
        go_wp2_with fail
        go_loop [9] (fun i => ∃ j : Nat, j ≤ d ∧ i = .int .i64 j) (fun i => d - (intOf i).toNat)
        case atStart => exact ⟨0, Nat.zero_le _, rfl⟩
        case round =>
          obtain ⟨j, hj, rfl⟩ := hrel
          by_cases hjd : j < d
          · obtain ⟨c', hc', hx'⟩ := Cu.digs_in T j (by rw [unhide HD]; exact hjd)
            obtain ⟨hlt', hby'⟩ := byte_at s k j c' (by rw [unhide HT]; exact hc')
            have hj7 : (j : Int) < 7 := by omega
            have hlt3 : (k : Int) + (j : Int) < s.size := by omega
            have HVA := hide (fun W => value_any c'.toNat W (by omega) (by have := c'.toNat_lt; omega))
            obtain ⟨e1, he1⟩ : ∃ e, Num.dig c'.toNat = e := ⟨_, rfl⟩
            have hge' : 0 ≤ e1 := by rw [← he1]; simpa [Cu.isX] using hx'
            rw [he1] at HVA
            clear hc' hx' he1
            go_wp2_with (go_at_call 44; refine ((unhide HVA) _).mono ?_; rintro e wx ⟨rfl, rfl⟩)
            go_round
            case rel => exact ⟨j + 1, by omega, by go_num⟩
            case measure => simp [intOf]; omega
          · obtain rfl : d = j := by omega
            go_wp2_with fail
            refine ((unhide HNUM) _).mono ?_; rintro e1 wx ⟨rfl, rfl⟩
            go_wp2_with fail
            refine ((unhide HNL) wx).mono ?_; rintro e1 w2 ⟨rfl, b2⟩
            go_wp2_with fail
            go_ret3
            rw [← unhide HO]
            exact ⟨rfl, bel_trans (unhide HB) b2⟩
    · obtain ⟨hlt, hby⟩ := byte_at s k d c (by rw [unhide HT]; exact hc)
      have hbA : ∀ hb : k + d < s.size, s[k + d] = c := fun hb => by
        have := Kb.at_list s _ rfl (k + d) hb
        rw [← List.getElem?_drop, unhide HT, hc] at this
        exact Option.some.inj this
      have h7' : (d : Int) < 7 := by omega
      have HVE := hide (fun W => value_any c.toNat W (by omega) (by have := c.toNat_lt; omega))
      obtain ⟨e0, he0⟩ : ∃ e, Num.dig c.toNat = e := ⟨_, rfl⟩
      have hge : e0 < 0 := by rw [← he0]; simpa [Cu.isX] using hx
      rw [he0] at HVE
      have HHC := hide hc
      clear hc hx he0 hby
      by_cases hd0 : d = 0
      · subst hd0
        have hTn : T ≠ [] := fun e => by rw [e] at hlen; simp at hlen
        have HO : Hid (([], 0, 4) = o) := hide (by
          have hck := Cu.c_zero (room := m - out.length) (l := T) (unhide HD) hTn
          have hgo := unhide HGO
          rw [hck] at hgo
          exact hgo)
        have hks : ¬ (k = s.size) := by omega
        have hks2 : ¬ ((k : Int) = s.size) := by omega
        have hks3 : (k : Int) < s.size := by omega
        have hks4 : k < s.size := by omega
        have hx0 : ∀ hb : k < s.size, s[k] = c := fun hb => hbA hb
        clear hTn hlen h7' hbA
        go_wp2_with fail
        go_loop [9] (fun i => i = .int .i64 0) (fun i => 0)
        case atStart => rfl
        case round =>
          subst hrel
          go_wp2_with (go_at_call 44; refine ((unhide HVE) _).mono ?_; rintro e wx ⟨rfl, rfl⟩)
          go_ret3
          rw [← unhide HO]
          exact ⟨rfl, unhide HB⟩
      · obtain ⟨A, hA⟩ : ∃ A : Nat, (k : Int) + (d : Int) = A := ⟨k + d, by omega⟩
        have hAk : A = k + d := by omega
        have HNUM := hide (fun W => ref_number_any (s.extract k A) 16 7 W (by unfold maxLen; simp; omega) (by omega) (by omega) (by omega))
        have hex : (s.extract k A).data.toList = T.take d := by rw [Lib.extract_data, unhide HT, hAk, Nat.add_sub_cancel_left]
        rw [hex] at HNUM
        have had := Cu.ans_digs T (by rw [unhide HD]; exact hd0)
        rw [unhide HD] at had
        rw [had, unhide HV] at HNUM
        have HNL := hide (fun W => rnewline_any s A A rfl W (by omega) hs _ rfl)
        have HNZ : Hid (¬ (Cu.digs T = 0 ∧ T ≠ [])) := hide (fun h => hd0 (by rw [← unhide HD]; exact h.1))
        have hTA : s.data.toList.drop A = T.drop (Cu.digs T) := by rw [← unhide HT, List.drop_drop, hAk, unhide HT, unhide HD]
        rw [hTA] at HNL
        obtain ⟨z1, hz1⟩ : ∃ z, Cu.nl (T.drop (Cu.digs T)) = z := ⟨_, rfl⟩
        rw [hz1] at HNL
        have HZ1 := hide hz1
        have HA2 : Hid (z1 = 0 → A + 2 ≤ s.size) := hide (fun h => by
          rw [h] at hz1
          obtain ⟨r, hr⟩ := Cu.nl_form hz1
          have := congrArg List.length hr
          rw [← hTA, List.length_drop, len_data, List.length_append] at this
          have h2 : Cu.crlf.length = 2 := rfl
          omega)
        have HAK := hide hAk
        clear hz1 hTA hex had hAk
        have hAs : A < s.size := by have := unhide HAK; omega
        have hAs2 : (A : Int) < s.size := by omega
        have hxA : ∀ hb : A < s.size, s[A] = c := fun hb => by
          have e : A = k + d := unhide HAK
          subst e
          exact hbA hb
        clear hbA hlen
        go_wp2_with fail
        go_loop [9] (fun i => ∃ j : Nat, j ≤ d ∧ i = .int .i64 j) (fun i => d - (intOf i).toNat)
        case atStart => exact ⟨0, Nat.zero_le _, rfl⟩
        case round =>
          obtain ⟨j, hj, rfl⟩ := hrel
          by_cases hjd : j < d
          · obtain ⟨c', hc', hx'⟩ := Cu.digs_in T j (by rw [unhide HD]; exact hjd)
            obtain ⟨hlt', hby'⟩ := byte_at s k j c' (by rw [unhide HT]; exact hc')
            have hj7 : (j : Int) < 7 := by omega
            have hlt3 : (k : Int) + (j : Int) < s.size := by omega
            have HVA := hide (fun W => value_any c'.toNat W (by omega) (by have := c'.toNat_lt; omega))
            obtain ⟨e1, he1⟩ : ∃ e, Num.dig c'.toNat = e := ⟨_, rfl⟩
            have hge' : 0 ≤ e1 := by rw [← he1]; simpa [Cu.isX] using hx'
            rw [he1] at HVA
            clear hc' hx' he1
            go_wp2_with (go_at_call 44; refine ((unhide HVA) _).mono ?_; rintro e wx ⟨rfl, rfl⟩)
            go_round
            case rel => exact ⟨j + 1, by omega, by go_num⟩
            case measure => simp [intOf]; omega
          · obtain rfl : d = j := by omega
            go_wp2_with (go_at_call 44; refine ((unhide HVE) _).mono ?_; rintro e wx ⟨rfl, rfl⟩)
            refine ((unhide HNUM) _).mono ?_; rintro e1 wx ⟨rfl, rfl⟩
            go_wp2_with fail
            refine ((unhide HNL) wx).mono ?_; rintro e1 w2 ⟨rfl, b2⟩
            have B2 := hide (bel_trans (unhide HB) b2)
            clear b2
            by_cases hz1 : z1 = 0
            · subst hz1
              have hAs : A + 2 ≤ s.size := unhide HA2 rfl
              obtain ⟨K, hK⟩ : ∃ K : Nat, (k : Int) + ((d : Int) + 2) = K := ⟨k + (d + 2), by omega⟩
              have hKs : K ≤ s.size := by omega
              have hTK : s.data.toList.drop K = T.drop (d + 2) := by rw [← unhide HT, List.drop_drop]; congr 1; omega
              have HTK := hide hTK
              have hTl : (T.drop (d + 2)).length = s.size - K := by rw [← hTK, List.length_drop, len_data]
              have HTL := hide hTl
              clear hTK hTl
              by_cases hn0 : n = 0
              · subst hn0
                have HL2 := hide (fun W => rnewline_any s K K rfl W hKs hs _ rfl)
                obtain ⟨z2, hz2⟩ : ∃ z2, Cu.nl (s.data.toList.drop K) = z2 := ⟨_, rfl⟩
                rw [hz2] at HL2
                have hr2 : ¬ (m - (out.length : Int)) < Cu.val T := by rw [unhide HV]; have := unhide HQS; omega
                have hr3 : ¬ ((T.drop (Cu.digs T + 2)).length : Int) < Cu.val T := by rw [unhide HV, unhide HD]; omega
                have hnl : Cu.nl ((T.drop (Cu.digs T + 2)).drop (Cu.val T).toNat) = z2 := by rw [unhide HV, unhide HD, ← unhide HTK]; exact hz2
                by_cases hz2' : z2 = 0
                · subst hz2'
                  have hck := Cu.c_ok (unhide HNZ) (unhide HZ1) hr2 hr3 hnl
                  have hgo := unhide HGO
                  rw [hck, unhide HV, unhide HD] at hgo
                  dsimp only at hgo
                  rw [if_pos (by simp)] at hgo
                  dsimp only [Cu.tell] at hgo
                  obtain ⟨Q, hQ⟩ : ∃ Q : Nat, (K : Int) + 2 = Q := ⟨K + 2, by omega⟩
                  have HO : Hid ((out, ((Q : Nat) : Int), (0 : Int)) = o) := hide (by rw [← hgo]; refine Prod.ext rfl (Prod.ext ?_ rfl); have h0 : (((0 : Nat) : Int)).toNat = 0 := rfl; show ((Q : Nat) : Int) = ((k + (d + 2 + (((0 : Nat) : Int)).toNat + 2) : Nat) : Int); omega)
                  have HE : Hid (q ++ s.extract K K = q) := hide (eq_of_lists (by rw [cat_data]; simp))
                  clear hz2 hnl hck hgo hr2 hr3
                  go_wp2_with fail
                  refine ((unhide HL2) w2).mono ?_; rintro e1 w3 ⟨rfl, b3⟩
                  go_wp2_with fail
                  go_ret3
                  rw [← unhide HO]
                  exact ⟨ret_sii (by first | exact unhide HQ | exact (unhide HE).trans (unhide HQ) | (rw [unhide HQ])) (by first | rfl | (show _ = ((Q : Nat) : Int); omega)) rfl, bel_trans (unhide B2) b3⟩
                · have hck := Cu.c_end (unhide HNZ) (unhide HZ1) hr2 hr3 hnl hz2'
                  have hgo := unhide HGO
                  rw [hck] at hgo
                  dsimp only [Cu.tell] at hgo
                  have HO := hide hgo
                  clear hz2 hnl hck hgo hr2 hr3
                  go_wp2_with fail
                  refine ((unhide HL2) w2).mono ?_; rintro e1 w3 ⟨rfl, b3⟩
                  go_wp2_with fail
                  go_ret3
                  rw [← unhide HO]
                  exact ⟨rfl, bel_trans (unhide B2) b3⟩
              · have hnp : (0 : Int) < n := by omega
                have hnp2 : 0 < n := by omega
                by_cases hov : most < (n : Int) + (q.size : Int)
                · have hr2 : (m - (out.length : Int)) < Cu.val T := by rw [unhide HV]; have := unhide HQS; have := unhide HMM; omega
                  have hck := Cu.c_over (unhide HNZ) (unhide HZ1) hr2
                  have hgo := unhide HGO
                  rw [hck] at hgo
                  dsimp only [Cu.tell] at hgo
                  have HO := hide hgo
                  clear hck hgo hr2
                  go_wp2_with fail
                  go_ret3
                  rw [← unhide HO]
                  exact ⟨rfl, unhide B2⟩
                · have hr2 : ¬ (m - (out.length : Int)) < Cu.val T := by rw [unhide HV]; have := unhide HQS; have := unhide HMM; omega
                  by_cases hmo : (s.size : Int) - (K : Int) < n
                  · have hr3 : ((T.drop (Cu.digs T + 2)).length : Int) < Cu.val T := by rw [unhide HV, unhide HD, unhide HTL]; omega
                    have hck := Cu.c_more (unhide HNZ) (unhide HZ1) hr2 hr3
                    have hgo := unhide HGO
                    rw [hck] at hgo
                    dsimp only [Cu.tell] at hgo
                    have HO := hide hgo
                    clear hck hgo hr2 hr3
                    go_wp2_with fail
                    go_ret3
                    rw [← unhide HO]
                    exact ⟨rfl, unhide B2⟩
                  · have hr3 : ¬ ((T.drop (Cu.digs T + 2)).length : Int) < Cu.val T := by rw [unhide HV, unhide HD, unhide HTL]; omega
                    obtain ⟨M, hM⟩ : ∃ M : Nat, (K : Int) + (n : Int) = M := ⟨K + n, by omega⟩
                    have hMs : M ≤ s.size := by omega
                    have HL2 := hide (fun W => rnewline_any s M M rfl W hMs hs _ rfl)
                    obtain ⟨z2, hz2⟩ : ∃ z2, Cu.nl (s.data.toList.drop M) = z2 := ⟨_, rfl⟩
                    rw [hz2] at HL2
                    have hMK : M = K + n := by omega
                    have hnl : Cu.nl ((T.drop (Cu.digs T + 2)).drop (Cu.val T).toNat) = z2 := by rw [unhide HV, unhide HD, ← unhide HTK, List.drop_drop, Int.toNat_natCast, ← hMK]; exact hz2
                    by_cases hz2' : z2 = 0
                    · subst hz2'
                      have hck := Cu.c_ok (unhide HNZ) (unhide HZ1) hr2 hr3 hnl
                      have hgo := unhide HGO
                      rw [hck, unhide HV, unhide HD, Int.toNat_natCast] at hgo
                      dsimp only at hgo
                      have hpl : ((T.drop (d + 2)).take n).length = n := by rw [List.length_take, unhide HTL]; omega
                      rw [if_neg (fun e => by rw [e] at hpl; simp at hpl; omega)] at hgo
                      obtain ⟨Q, hQ⟩ : ∃ Q : Nat, (K : Int) + ((n : Int) + 2) = Q := ⟨K + (n + 2), by omega⟩
                      have hu : k + (d + 2 + n + 2) = Q := by omega
                      have hM2 : M + 2 ≤ s.size := by
                        have h := unhide HZ
                        have hz := Cu.nl_form hz2
                        obtain ⟨r, hr⟩ := hz
                        have := congrArg List.length hr
                        rw [List.length_drop, len_data, List.length_append] at this
                        have h2 : Cu.crlf.length = 2 := rfl
                        omega
                      rw [hu, ← unhide HT, List.drop_drop, hu] at hgo
                      have HP : Hid ((s.extract K M).data.toList = (T.drop (d + 2)).take n) := hide (by
                        rw [Lib.extract_data, unhide HTK]; congr 1; omega)
                      have HG : Hid (Cu.tell (Cu.go m g (s.data.toList.drop Q) (out ++ (s.extract K M).data.toList) Q) = o) := hide (by rw [unhide HP, ← unhide HT]; exact hgo)
                      have hes : (s.extract K M).size = n := by rw [← len_data, unhide HP]; exact hpl
                      have HES := hide hes
                      clear hz2 hnl hck hgo hr2 hr3 hpl hu hMK hes
                      go_wp2_with fail
                      refine ((unhide HL2) w2).mono ?_; rintro e1 w3 ⟨rfl, b3⟩
                      go_wp2_with fail
                      have hqs := unhide HQS
                      have hes := unhide HES
                      have hmm := unhide HMM
                      refine ⟨⟨g, Q, out ++ (s.extract K M).data.toList, ?_, rfl, by omega, by omega, ?_, ?_, unhide HG, bel_trans (unhide B2) b3⟩, by simp [intOf]; omega⟩
                      · rw [← cat_mk, ← unhide HQ, mk_data]
                      · rw [List.length_append, len_data]; omega
                      · rw [List.length_append, len_data]; omega
                    · have hck := Cu.c_end (unhide HNZ) (unhide HZ1) hr2 hr3 hnl hz2'
                      have hgo := unhide HGO
                      rw [hck] at hgo
                      dsimp only [Cu.tell] at hgo
                      have HO := hide hgo
                      clear hz2 hnl hck hgo hr2 hr3 hMK
                      go_wp2_with fail
                      refine ((unhide HL2) w2).mono ?_; rintro e1 w3 ⟨rfl, b3⟩
                      go_wp2_with fail
                      go_ret3
                      rw [← unhide HO]
                      exact ⟨rfl, bel_trans (unhide B2) b3⟩
            · have hck := Cu.c_line (room := m - out.length) (unhide HNZ) (unhide HZ1) hz1
              have hgo := unhide HGO
              rw [hck] at hgo
              dsimp only [Cu.tell] at hgo
              have HO := hide hgo
              clear hck hgo
              go_wp2_with fail
              go_ret3
              rw [← unhide HO]
              exact ⟨rfl, unhide B2⟩
end Go.Proofs.YtjpclmkekmkddaaGreatDoor
