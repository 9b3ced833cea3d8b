/- The tree grown. -/
import Derived.Test.YtmmjcbfffcnfiaaFp
namespace Go.Proofs.Ytmmjcbfffcnfiaa
open Go.Shelf Go.RowKit Go.Lib Kb Ph
set_option linter.unusedVariables false
set_option maxRecDepth 20000

/-- the state ahead of depth d -/
structure GS (w wr : World) (ws : List ByteArray) (K A d : Nat) (v : Value) (T : List Nd) (at_ : List Nat) : Prop where
  gr : Gr ws d T at_
  bel : Below w.heap.size w wr
  row : wr.ownsRow w.heap.size 57 4 v T.length (cellsM (T.map nilM))
  kids : Kids wr K T.length (KidL T)
  ats : wr.ownsRow w.heap.size 3 1 (.slice (some ⟨A, 0, none⟩) ws.length ws.length) ws.length (cellsZ (natZ at_))
  len : at_.length = ws.length
  lts : ∀ a ∈ at_, a < T.length
  pos : T ≠ []
  few : T.length ≤ 1 + 30 * d

/-- the numbers below k at which at_ is j -/
def idx (at_ : List Nat) (j : Nat) : Nat → List Int
  | 0 => []
  | k + 1 => if at_.getD k 0 = j then idx at_ j k ++ [(k : Int)] else idx at_ j k
theorem idx_len (at_ : List Nat) (j k : Nat) : (idx at_ j k).length ≤ k := by
  induction k with
  | zero => simp [idx]
  | succ k ih => rw [idx]; split
                 · rw [List.length_append]; simp; omega
                 · omega
/-- the tree's cells, with what each node's Ends are -/
def memOf (T : List Nd) (eV : Nat → Value) : List Mn := (List.range T.length).map fun j => ⟨(nd T j).c, (nd T j).up, (nd T j).fail, eV j⟩
theorem memOf_len (T : List Nd) (eV : Nat → Value) : (memOf T eV).length = T.length := by simp [memOf]
theorem memOf_at {T : List Nd} {eV : Nat → Value} {j : Nat} (h : j < T.length) : (memOf T eV)[j]? = some ⟨(nd T j).c, (nd T j).up, (nd T j).fail, eV j⟩ := by
  simp [memOf, h]
theorem memOf_nil (T : List Nd) : T.map nilM = memOf T (fun _ => .slice none 0 0) := by
  apply List.ext_getElem?
  intro j
  by_cases h : j < T.length
  · rw [memOf_at h, List.getElem?_map, nd_at h]; rfl
  · rw [List.getElem?_eq_none (by simp; omega), List.getElem?_eq_none (by rw [memOf_len]; omega)]
theorem memOf_setE {T : List Nd} {eV : Nat → Value} {j : Nat} (v : Value) (h : j < T.length) : (memOf T eV).set j ⟨(nd T j).c, (nd T j).up, (nd T j).fail, v⟩ = memOf T (fun i => if i = j then v else eV i) := by
  apply List.ext_getElem?
  intro i
  by_cases hi : i < T.length
  · rw [memOf_at hi]
    by_cases hij : i = j
    · subst hij; rw [List.getElem?_set_self (by rw [memOf_len]; exact h), if_pos rfl]
    · rw [List.getElem?_set_ne (fun e => hij e.symm), memOf_at hi, if_neg hij]
  · rw [List.getElem?_eq_none (by rw [List.length_set, memOf_len]; omega), List.getElem?_eq_none (by rw [memOf_len]; omega)]
structure Ev (wr : World) (b A N : Nat) (eV : Nat → Value) (E : Nat → List Int) : Prop where
  own : ∀ j, j < N → wr.ownsRow b 3 1 (eV j) (E j).length (cellsZ (E j))
  farA : ∀ j, j < N → (eV j).ownBlock ≠ some A
  far : ∀ i j, i < N → j < N → i ≠ j → (eV i).ownBlock = none ∨ (eV i).ownBlock ≠ (eV j).ownBlock
structure Grown (w w' : World) (ws : List ByteArray) (x : Value) (K : Nat) (T : List Nd) (at_ : List Nat) (eV : Nat → Value) : Prop where
  gr : Gr ws 40 T at_
  bel : Below w.heap.size w w'
  row : w'.ownsRow w.heap.size 57 4 x T.length (cellsM (memOf T eV))
  kids : Kids w' K T.length (KidL T)
  ends : ∀ j, j < T.length → w'.ownsRow w.heap.size 3 1 (eV j) (idx at_ j ws.length).length (cellsZ (idx at_ j ws.length))
  len : at_.length = ws.length
  lts : ∀ a ∈ at_, a < T.length
  pos : T ≠ []
  few : T.length ≤ 1201
theorem raw_bounds {ws : List ByteArray} {at_ : List Nat} {d N : Nat} (h : ∀ a ∈ at_, a < N) (k : Nat) (hk : k ≤ at_.length) : ∀ x ∈ raw ws at_ d k, (0 ≤ x.1 ∧ x.1 < N) ∧ U8 x.2 := by
  induction k with
  | zero => simp [raw]
  | succ k ih =>
    intro x hx
    rw [raw] at hx
    rcases List.mem_append.1 hx with hx | hx
    · exact ih (by omega) x hx
    · split at hx
      · rw [List.mem_singleton] at hx
        subst hx
        have h1 : at_.getD k 0 ∈ at_ := by
          rw [List.getD, List.getElem?_eq_getElem (by omega)]; exact List.getElem_mem _
        have := h _ h1
        have h2 := ((ws.getD k ByteArray.empty).data.toList.getD d 0).toNat_lt
        unfold U8
        dsimp only
        omega
      · cases hx
theorem natZ_len (l : List Nat) : (natZ l).length = l.length := by simp [natZ]
theorem ints_at_row {w : World} {B A n : Nat} {l : List Nat} (h : w.ownsRow B 3 1 (.slice (some ⟨A, 0, none⟩) n n) n (cellsZ (natZ l))) (hl : l.length = n) (hn : n ≤ 30) (hb : ∀ a ∈ l, a < 2000) : Ints w (.slice (some ⟨A, 0, none⟩) n n) (natZ l) := by
  refine Ints.own (B := B) (by rw [natZ_len, hl]; exact h) (by rw [natZ_len]; omega) ?_
  intro z hz
  obtain ⟨a, ha, rfl⟩ := List.mem_map.1 hz
  have := hb a ha
  omega
set_option maxHeartbeats 8000000 in
theorem grown_any (w : World) (v : Value) (ws : List ByteArray) (hv : Strs w v ws) (hws : ws.length ≤ 30) (hsz : ∀ x ∈ ws, x.size ≤ 40) :
    Calls Try.prog 22 #[v] w fun e w' => ∃ x K, e = .returned (.tuple #[x, .map (some K)]) ∧ ∃ T at_ eV, Grown w w' ws x K T at_ eV := by
  obtain ⟨o, c, rfl, hc⟩ := hv.form
  have HV := hide hv
  have HSZ := hide hsz
  clear hv hsz
  have hmm := @run_makeMap Try.prog
  obtain ⟨i0, hi, hz0, hz1, hz2⟩ := info_parts infoN
  obtain ⟨i1, hj, hy0, hy1, hy2⟩ := info_parts infoI64
  go_enter Try.func22, Try.ntmps22
  go_wp2_with (at_make; refine wpList_make_full _ rfl _ _ 55 rfl w.heap.size 3 i1 (.int .i64 0) 1 Try.underlying55 hj hy0 hy1 .i64 .i64 _ _ ws.length rfl rfl rfl rfl (by rw [hy2]; omega) (by unfold maxLen; omega) (by simp; omega) ?_; intro w0 own0 grow0)
  obtain ⟨A, hA⟩ : ∃ A, w.heap.size + 1 + 1 = A := ⟨_, rfl⟩
  rw [show ((w.alloc (.cells #[.int .u8 0, .int .i64 0, .int .i64 0, .slice none 0 0] 57)).alloc (.map #[] 0)).heap.size = A by rw [← hA]; simp] at own0
  rw [hA]
  have GS0 : Hid (GS w w0 ws (w.heap.size + 1) A 0 (.slice (some ⟨w.heap.size, 0, none⟩) 1 1) [⟨0, 0, 0, []⟩] (List.replicate ws.length 0)) := hide (by
    refine ⟨.zero, ?_, ?_, ?_, ?_, by simp, ?_, by simp, by simp⟩
    · exact (((Below.refl _ _).alloc (Nat.le_refl _) _).alloc (by simp) _).grown grow0 (by simp; omega) (fun k hk => by cases hk)
    · refine World.ownsRow.kept ?_ grow0 (.inr (by simp [Value.ownBlock]))
      refine World.ownsRow.alloc ?_ _
      exact World.ownsRow_lit w #[.int .u8 0, .int .i64 0, .int .i64 0, .slice none 0 0] 1 (Nat.le_refl _) (by unfold maxLen; omega) rfl
    · refine Kids.kept (row := none) ?_ grow0 (by simp)
      have hk := World.ownsMap_made (H := Unit) (w.alloc (.cells #[.int .u8 0, .int .i64 0, .int .i64 0, .slice none 0 0] 57)) Try.prog 74 (plainElem Try.prog 3)
      rw [show (w.alloc (.cells #[.int .u8 0, .int .i64 0, .int .i64 0, .slice none 0 0] 57)).heap.size = w.heap.size + 1 by simp] at hk
      exact ⟨.map [], hk.mono (by simp), fun a c _ _ => rfl⟩
    · rw [show cellsZ (natZ (List.replicate ws.length 0)) = (madeCells (Value.int .i64 0).cells (ws.length * 1)).toList by
        rw [show (Value.int .i64 0).cells = #[.int .i64 0] from rfl, toList_madeCells_one]; simp [cellsZ, natZ]]
      exact own0
    · intro a ha; rw [List.mem_replicate] at ha; simp [ha.2])
  clear own0 grow0 hA
  go_loopw [20, 4] (fun x y wr => ∃ (d : Nat) (T : List Nd) (at_ : List Nat), x = .int .i64 d ∧ d ≤ 40 ∧ GS w wr ws (w.heap.size + 1) A d y T at_) (fun x _ _ => 40 - (intOf x).toNat)
  case atStart => exact ⟨0, _, _, rfl, by omega, unhide GS0⟩
  case round =>
    obtain ⟨d, T, at_, rfl, hd, hgs⟩ := hrel
    have G := hide hgs
    have hTf := hgs.few
    have hsz0 : w.heap.size ≤ wr.heap.size := hgs.bel.size
    clear hgs
    by_cases hlt : d < 40
    · have C1 := hide (stepsAt_any wr _ _ ws at_ d ((unhide HV).below (unhide G).bel) (ints_at_row (unhide G).ats (unhide G).len hws (fun a ha => by have := (unhide G).lts a ha; omega)) (unhide G).len hws (unhide HSZ) hd)
      go_wp2_with fail
      refine (unhide C1).mono ?_
      rintro e w1 ⟨x, S, rfl, hst, hS, b1, ownS⟩
      obtain ⟨ox, cx, rfl, _⟩ := own_forms ownS
      have ST := hide hst
      have BND := hide (fun y (hy : y ∈ S) => raw_bounds (unhide G).lts ws.length (by rw [(unhide G).len]; exact Nat.le_refl _) y (((hst.2) y).1 hy))
      have OWNS := hide (own_base ownS hsz0)
      have B1 := hide (bel_trans (unhide G).bel b1)
      have ROW1 := hide (own_below (unhide G).row b1)
      have KID1 := hide ((unhide G).kids.below b1)
      have AT1 := hide (own_below (unhide G).ats b1)
      have hsz1 : wr.heap.size ≤ w1.heap.size := b1.size
      clear hst ownS b1
      go_wp2_with fail
      go_loopw [28, 4] (fun a y w2 => ∃ j : Nat, a = .int .i64 j ∧ j ≤ S.length ∧ Below w.heap.size w w2 ∧ w2.ownsRow w.heap.size 57 4 y (T ++ (S.take j).map mkN).length (cellsM ((T ++ (S.take j).map mkN).map nilM)) ∧
        Kids w2 (w.heap.size + 1) (T ++ (S.take j).map mkN).length (KidL (T ++ (S.take j).map mkN)) ∧ w2.ownsRow w.heap.size 3 1 (.slice (some ⟨A, 0, none⟩) ws.length ws.length) ws.length (cellsZ (natZ at_)) ∧
        w2.ownsRow w.heap.size 74 2 (.slice ox S.length cx) S.length (cellsT S)) (fun a _ _ => S.length - (intOf a).toNat)
      case atStart => exact ⟨0, rfl, Nat.zero_le _, unhide B1, by simpa using unhide ROW1, by simpa using unhide KID1, unhide AT1, unhide OWNS⟩
      case round =>
        obtain ⟨j, rfl, hj1, hb2, hrow2, hkid2, hat2, hS2⟩ := hrel
        have B2 := hide hb2
        have ROW2 := hide hrow2
        have KID2 := hide hkid2
        have AT2 := hide hat2
        have OWNS2 := hide hS2
        have hsz2 : w.heap.size ≤ _ := hb2.size
        clear hb2 hrow2 hkid2 hat2 hS2
        by_cases hjl : j < S.length
        · obtain ⟨y, hy⟩ : ∃ y, S[j]? = some y := ⟨S[j], List.getElem?_eq_getElem hjl⟩
          obtain ⟨gS, cS, hfS, _⟩ := own_form (unhide OWNS2) (by omega)
          cases hfS
          obtain ⟨y0, y1⟩ := own_step (unhide OWNS2) hy
          obtain ⟨⟨q1, q2⟩, hu8⟩ := (unhide BND) y (List.mem_of_getElem? hy)
          have hi64 : I64 y.1 := by unfold I64; omega
          have HU8 := hide hu8
          have HI64 := hide hi64
          obtain ⟨TJ, hTJ⟩ : ∃ TJ, T ++ (S.take j).map mkN = TJ := ⟨_, rfl⟩
          have HTN : Hid (T ++ (S.take (j + 1)).map mkN = TJ ++ [mkN y]) := hide (by rw [← hTJ, List.take_add_one, hy]; simp)
          have hTJn : TJ ≠ [] := by rw [← hTJ]; intro e; exact (unhide G).pos (List.append_eq_nil_iff.1 e).1
          have hTJl : TJ.length ≤ 1300 := by rw [← hTJ]; simp; omega
          rw [hTJ] at ROW2 KID2
          have HTJN := hide hTJn
          clear hTJ hy hu8 hi64 hTJn
          obtain ⟨ot, ct, rfl, hct⟩ := own_forms (unhide ROW2)
          obtain ⟨D, hmo, hD⟩ := (unhide KID2).alloc (.cells #[.int .i64 y.1, .int .u8 y.2] 74)
          have HD := hide hD
          have HMO := hide hmo
          have KA := hide (kids_apart (unhide ROW2) (unhide KID2))
          have KA2 := hide (kids_apart (unhide AT2) (unhide KID2))
          have KA3 := hide (kids_apart (unhide OWNS2) (unhide KID2))
          have b3 : TJ.length + 1 ≤ maxLen := by unfold maxLen; omega
          have b4 : (TJ.length + 1) * 48 ≤ 140737488355328 := by omega
          have hltm : TJ.length < maxLen := by unfold maxLen; omega
          have hwfl : (Lit.int .i64 (TJ.length : Int)).wf = true := wfI (by unfold I64; omega)
          have HWFL := hide hwfl
          clear hD hmo hwfl
          have hkl := (unhide KID2).lt
          go_wp2_with (first
            | (at_mapUpdate; refine wpList_mapUpdate_own _ rfl _ _ _ 48 rfl 74 3 kidLaw Try.underlying48 _ (w.heap.size + 1) TJ.length _ rfl (unhide HMO) hltm _ _ _ rfl rfl (keyOf_kv (unhide HI64) (unhide HU8)) _ [] (plainElem_int Try.underlying3 (unhide HWFL)) ?_; intro w3 hown3 hgrow3
               have c0 : w3.cell? ⟨wr.heap.size, 0, none⟩ = some (.int .i64 y.1) := hgrow3.cell (by rw [World.cell?_alloc_new]; rfl) (by simp; omega)
               have c1 : w3.cell? ⟨wr.heap.size, 1, none⟩ = some (.int .u8 y.2) := hgrow3.cell (by rw [World.cell?_alloc_new]; rfl) (by simp; omega)
               have KID3 := hide (Kids.put (unhide HMO) (unhide HD) (unhide HI64) (unhide HU8) hown3)
               have ROW3 := hide (((unhide ROW2).alloc (.cells #[.int .i64 y.1, .int .u8 y.2] 74)).kept hgrow3 (.inr (fun e => unhide KA e.symm)))
               have AT3 := hide (((unhide AT2).alloc (.cells #[.int .i64 y.1, .int .u8 y.2] 74)).kept hgrow3 (.inr (fun e => unhide KA2 e.symm)))
               have OWNS3 := hide (((unhide OWNS2).alloc (.cells #[.int .i64 y.1, .int .u8 y.2] 74)).kept hgrow3 (.inr (fun e => unhide KA3 e.symm)))
               have hs3 := hgrow3.size
               rw [show (wr.alloc (.cells #[.int .i64 y.1, .int .u8 y.2] 74)).heap.size = wr.heap.size + 1 by simp] at hs3
               have BEL3 := hide (((unhide B2).alloc hsz2 (.cells #[.int .i64 y.1, .int .u8 y.2] 74)).grown hgrow3 (by simp; omega) (fun k hk => by cases hk; omega))
               clear hown3 hgrow3)
            | (at_builtin; refine wpList_append_own _ rfl _ _ 23 rfl w.heap.size 57 i0 (.agg #[.int .u8 0, .int .i64 0, .int .i64 0, .slice none 0 0]) 4 48 Try.underlying23 hi hz0 hz1 hz2 rfl (by decide) _ TJ.length (cellsM (TJ.map nilM)) rfl ((unhide ROW3).alloc _) _ 1 1 _ rfl rfl (cell_4_new _ _ _ _ _ _) (by simp [Value.oneCell']) b3 b4 (by simp; omega) ?_; intro v1 w4 own4 grow4 _))
          refine ⟨⟨j + 1, by go_num, by omega, ?_, ?_, ?_, ?_, ?_⟩, by simp [intOf]; omega⟩
          · exact ((unhide BEL3).alloc (by omega) _).grown grow4 (by simp; omega) (own_lt (unhide ROW3))
          · rw [unhide HTN, List.length_append, List.map_append, cellsM_append]; exact own4
          · rw [unhide HTN, List.length_append]
            exact (((unhide KID3).alloc _).kept grow4 (kids_apart (unhide ROW3) (unhide KID3))).congr (fun a b => KidL_snoc TJ (mkN y) (unhide HTJN) a b)
          · exact ((unhide AT3).alloc _).kept grow4 (own_apart (unhide AT3) (unhide ROW3) (by decide))
          · exact ((unhide OWNS3).alloc _).kept grow4 (own_apart (unhide OWNS3) (unhide ROW3) (by decide))
        · have hjI : ¬ (j : Int) < S.length := by omega
          obtain ⟨TS, hTS⟩ : ∃ TS, T ++ S.map mkN = TS := ⟨_, rfl⟩
          have HTS := hide hTS
          have hTSl : TS.length ≤ 1 + 30 * (d + 1) := by rw [← hTS]; simp; omega
          have hTSn : TS ≠ [] := by rw [← hTS]; intro e; exact (unhide G).pos (List.append_eq_nil_iff.1 e).1
          rw [show S.take j = S from List.take_of_length_le (by omega), hTS] at ROW2 KID2
          have HLT : Hid (∀ a ∈ at_, a < TS.length) := hide (fun a ha => by have := (unhide G).lts a ha; rw [← hTS, List.length_append]; omega)
          have HTN := hide hTSn
          have hTp : 0 < TS.length := List.length_pos_iff.2 hTSn
          clear hTS hTSn
          obtain ⟨ot, ct, rfl, hct⟩ := own_forms (unhide ROW2)
          go_wp2_with fail
          go_loopw [47] (fun a w2 => ∃ k : Nat, a = .int .i64 k ∧ k ≤ ws.length ∧ Below w.heap.size w w2 ∧ w2.ownsRow w.heap.size 57 4 (.slice ot TS.length ct) TS.length (cellsM (TS.map nilM)) ∧
            Kids w2 (w.heap.size + 1) TS.length (KidL TS) ∧ w2.ownsRow w.heap.size 3 1 (.slice (some ⟨A, 0, none⟩) ws.length ws.length) ws.length (cellsZ (natZ (upd ws TS at_ d k)))) (fun a _ => ws.length - (intOf a).toNat)
          case atStart => exact ⟨0, rfl, Nat.zero_le _, unhide B2, unhide ROW2, unhide KID2, unhide AT2⟩
          case round =>
            obtain ⟨k, rfl, hk, hb4, hrow4, hkid4, hat4⟩ := hrel
            have B4 := hide hb4
            have ROW4 := hide hrow4
            have KID4 := hide hkid4
            have AT4 := hide hat4
            have hsz4 : w.heap.size ≤ _ := hb4.size
            clear hb4 hrow4 hkid4 hat4
            by_cases hkl : k < ws.length
            · obtain ⟨x, hx⟩ : ∃ x, ws[k]? = some x := ⟨ws[k], List.getElem?_eq_getElem hkl⟩
              obtain ⟨gw, offw, cw, hew, hgw, hcellw⟩ := ((unhide HV).below (unhide B4)).at_ (by intro e; rw [e] at hkl; cases hkl)
              have hload := hcellw k x hx
              have hxs : x.size ≤ 40 := (unhide HSZ) x (List.mem_of_getElem? hx)
              have hxd : ws.getD k ByteArray.empty = x := by rw [List.getD, hx]; rfl
              cases hew
              clear hcellw
              by_cases hdx : d < x.size
              · have hul := upd_len ws TS at_ d k
                rw [(unhide G).len] at hul
                obtain ⟨u, hu⟩ : ∃ u, upd ws TS at_ d k = u := ⟨_, rfl⟩
                have hUP := upd_lt ws TS at_ d k hTp (unhide HLT)
                rw [hu] at hul AT4 hUP
                have hbyte : x.data.toList.getD d 0 = x[d] := by
                  have := at_list x _ rfl d hdx
                  rw [List.getD, ← this]; rfl
                have HU : Hid (upd ws TS at_ d (k + 1) = u.set k (KidL TS ((u.getD k 0 : Nat) : Int) (x[d].toNat : Int))) := hide (by rw [upd, hxd, if_pos hdx, hu, hbyte])
                have hua : u.getD k 0 < TS.length := hUP _ (by rw [List.getD, List.getElem?_eq_getElem (by omega)]; exact List.getElem_mem _)
                have hcellA := (unhide AT4).cellAt k (by omega)
                rw [cellsZ, List.getElem?_map, natZ_at (by omega)] at hcellA
                have hfrA := (unhide AT4).frozenAt k
                have hkI : (k : Int) < ws.length := by omega
                have hdI : (d : Int) < x.size := by omega
                have hlook := (show Kids wr.drew (w.heap.size + 1) TS.length (KidL TS) from unhide KID4).look (a := ((u.getD k 0 : Nat) : Int)) (c := (x[d].toNat : Int)) (by unfold I64; omega) (by have := x[d].toNat_lt; unfold U8; omega)
                obtain ⟨ua, hua2⟩ : ∃ ua, u.getD k 0 = ua := ⟨_, rfl⟩
                rw [hua2] at hcellA hlook HU hua
                obtain ⟨r, hr⟩ : ∃ r, KidL TS (ua : Int) (x[d].toNat : Int) = r := ⟨_, rfl⟩
                rw [hr] at hlook HU
                clear hr hua2 hbyte hu hUP hx hxd
                simp only [Option.map] at hcellA
                go_wp2_with fail
                go_region
                go_wp2_with fail
                obtain ⟨sA, gA⟩ := (unhide AT4).stored k (.int .i64 r)
                rw [show (cellsZ (natZ u)).set k (.int .i64 r) = cellsZ (natZ (u.set k r)) by simp [cellsZ, natZ, List.map_set]] at sA
                have hAl := (unhide AT4).lt A rfl
                refine ⟨⟨k + 1, by go_num, by omega, ?_, ?_, ?_, ?_⟩, by simp [intOf]; omega⟩
                · exact ((unhide B4).grown gA hsz4 (fun q hq => by cases hq; exact hAl.1)).drew
                · exact ((unhide ROW4).kept gA (own_apart (unhide ROW4) (unhide AT4) (by decide))).drew
                · exact (show Kids (wr.setCell ⟨A, k, none⟩ (.int .i64 r)) (w.heap.size + 1) TS.length (KidL TS) from (unhide KID4).kept gA (kids_apart (unhide AT4) (unhide KID4)))
                · rw [unhide HU]; exact sA.drew
              · have HU : Hid (upd ws TS at_ d (k + 1) = upd ws TS at_ d k) := hide (by rw [upd, hxd, if_neg hdx])
                clear hx hxd
                go_wp2_with fail
                exact ⟨⟨k + 1, by go_num, by omega, unhide B4, unhide ROW4, unhide KID4, by rw [unhide HU]; exact unhide AT4⟩, by simp [intOf]; omega⟩
            · have hkI : ¬ (k : Int) < ws.length := by omega
              have hkn : k = ws.length := by omega
              subst hkn
              go_wp2_with fail
              refine ⟨⟨d + 1, TS, upd ws TS at_ d ws.length, by go_num, by omega, ⟨?_, unhide B4, unhide ROW4, unhide KID4, unhide AT4, ?_, ?_, unhide HTN, hTSl⟩⟩, by simp [intOf]; omega⟩
              · rw [← unhide HTS]; exact Gr.step (unhide G).gr (unhide ST)
              · rw [upd_len]; exact (unhide G).len
              · exact upd_lt ws TS at_ d ws.length hTp (unhide HLT)
    · have hd40 : d = 40 := by omega
      subst hd40
      obtain ⟨ot, ct, rfl, hct⟩ := own_forms (unhide G).row
      have hTp : 0 < T.length := List.length_pos_iff.2 (unhide G).pos
      obtain ⟨gt, ct', hft, _⟩ := own_form (unhide G).row hTp
      cases hft
      have ROW0 := hide (by have := (unhide G).row; rw [memOf_nil] at this; exact this)
      go_wp2_with fail
      go_loopw [73] (fun a w2 => ∃ k : Nat, a = .int .i64 k ∧ k ≤ ws.length ∧ Below w.heap.size w w2 ∧ Kids w2 (w.heap.size + 1) T.length (KidL T) ∧ w2.ownsRow w.heap.size 3 1 (.slice (some ⟨A, 0, none⟩) ws.length ws.length) ws.length (cellsZ (natZ at_)) ∧
        ∃ eV : Nat → Value, w2.ownsRow w.heap.size 57 4 (.slice (some ⟨gt, 0, none⟩) T.length ct) T.length (cellsM (memOf T eV)) ∧ Ev w2 w.heap.size A T.length eV (fun j => idx at_ j k)) (fun a _ => ws.length - (intOf a).toNat)
      case atStart =>
        refine ⟨0, rfl, Nat.zero_le _, (unhide G).bel, (unhide G).kids, (unhide G).ats, fun _ => .slice none 0 0, unhide ROW0, ?_, ?_, ?_⟩
        · exact fun j _ => World.ownsRow_nil _ _ _ _
        · exact fun j _ => by simp [Value.ownBlock]
        · exact fun i j _ _ _ => .inl rfl
      case round =>
        obtain ⟨k, rfl, hk, hb2, hkid2, hat2, eV, hrow2, hev⟩ := hrel
        have B2 := hide hb2
        have ROW2 := hide hrow2
        have KID2 := hide hkid2
        have AT2 := hide hat2
        have EV2 := hide hev
        have hsz2 : w.heap.size ≤ _ := hb2.size
        clear hb2 hrow2 hkid2 hat2 hev
        by_cases hkl : k < ws.length
        · have hal : at_.getD k 0 ∈ at_ := by rw [List.getD, List.getElem?_eq_getElem (by rw [(unhide G).len]; exact hkl)]; exact List.getElem_mem _
          have hat := (unhide G).lts _ hal
          have hcellA := (unhide AT2).cellAt k (by omega)
          rw [cellsZ, List.getElem?_map, natZ_at (by rw [(unhide G).len]; exact hkl)] at hcellA
          obtain ⟨a, ha⟩ : ∃ a, at_.getD k 0 = a := ⟨_, rfl⟩
          rw [ha] at hcellA hat
          simp only [Option.map] at hcellA
          have HAK := hide ha
          clear ha hal
          obtain ⟨_, _, _, n3⟩ := own_node (unhide ROW2) (memOf_at hat)
          dsimp only at n3
          have OE := hide ((unhide EV2).own a hat)
          obtain ⟨oe, ce, hfe⟩ := own_forms (unhide OE)
          have HFE := hide hfe
          rw [hfe] at n3 OE
          clear hfe
          obtain ⟨L, hL⟩ : ∃ L, idx at_ a k = L := ⟨_, rfl⟩
          have hll := idx_len at_ a k
          rw [hL] at OE hll n3
          have HIL := hide hL
          clear hL
          have b3 : L.length + 1 ≤ maxLen := by unfold maxLen; omega
          have b4 : (L.length + 1) * 8 ≤ 140737488355328 := by omega
          have AP := hide (own_apart (unhide ROW2) (unhide OE) (by decide))
          have hgl := (unhide ROW2).lt gt rfl
          go_wp2_with (at_builtin; refine wpList_append_own_at _ rfl _ _ 55 rfl w.heap.size 3 i1 (.int .i64 0) 1 8 Try.underlying55 hj hy0 hy1 hy2 rfl (by decide) (.slice oe L.length ce) L.length (cellsZ L) rfl ((unhide OE).alloc _) _ 1 1 _ rfl rfl (cell_one_new _ _ _) (by simp [Value.oneCell']) b3 b4 (by simp; omega) ?_; intro v1 w4 own4 grow4 _ hloc
                       have ROW4 := hide (((unhide ROW2).alloc _).kept grow4 (unhide AP))
                       have z3 := (own_node (unhide ROW4) (memOf_at hat)).2.2.2
                       dsimp only at z3
                       rw [unhide HFE] at z3
                       have f3 := (unhide ROW4).frozenAt (a * 4 + 3)
                       obtain ⟨o1, c1, rfl⟩ := own_forms own4)
          obtain ⟨sR, gR⟩ := (unhide ROW4).stored (a * 4 + 3) (.slice o1 (L.length + 1) c1)
          rw [cellsM_setE (memOf_at hat), memOf_setE _ hat] at sR
          have hAl := (unhide AT2).lt A rfl
          have hs4 := grow4.size
          rw [show (wr.alloc (.cells #[.int .i64 k] 3)).heap.size = wr.heap.size + 1 by simp] at hs4 hloc
          have E4 : ∀ j, j < T.length → j ≠ a → w4.ownsRow w.heap.size 3 1 (eV j) (idx at_ j k).length (cellsZ (idx at_ j k)) := fun j hjl hja =>
            (((unhide EV2).own j hjl).alloc _).kept grow4 (by have := (unhide EV2).far j a hjl hat hja; rw [unhide HFE, unhide HIL] at this; exact this)
          have AT4 : w4.ownsRow w.heap.size 3 1 (.slice (some ⟨A, 0, none⟩) ws.length ws.length) ws.length (cellsZ (natZ at_)) :=
            ((unhide AT2).alloc _).kept grow4 (.inr (by have := (unhide EV2).farA a hat; rw [unhide HFE, unhide HIL] at this; exact fun e => this e.symm))
          have K4 : Kids w4 (w.heap.size + 1) T.length (KidL T) := ((unhide KID2).alloc _).kept grow4 (kids_apart (unhide OE) (unhide KID2))
          have hlt0 : ∀ j q, j < T.length → (eV j).ownBlock = some q → q < wr.heap.size := fun j q hjl hq => (((unhide EV2).own j hjl).lt q hq).2
          have hfa := (unhide EV2).farA a hat
          have hfar := (unhide EV2).far
          have hold : (Value.slice oe L.length ce).ownBlock = (eV a).ownBlock := by rw [unhide HFE, unhide HIL]
          rw [hold] at hloc
          have hidx : idx at_ a (k + 1) = L ++ [(k : Int)] := by rw [idx, if_pos (unhide HAK), unhide HIL]
          have hidn : ∀ j, j ≠ a → idx at_ j (k + 1) = idx at_ j k := fun j hja => by rw [idx, if_neg (by rw [unhide HAK]; exact fun e => hja e.symm)]
          refine ⟨?_, by simp [intOf]; omega⟩
          refine ⟨_, _, _, ⟨k + 1, by go_num, by omega, ?_, ?_, ?_, fun i => if i = a then .slice o1 (L.length + 1) c1 else eV i, sR, ⟨?_, ?_, ?_⟩⟩, rfl, rfl, rfl⟩
          · exact (((unhide B2).alloc hsz2 _).grown grow4 (by simp; omega) (own_lt (unhide OE))).grown gR (by omega) (fun q hq => by cases hq; exact hgl.1)
          · exact K4.kept gR (kids_apart (unhide ROW4) K4)
          · exact AT4.kept gR (own_apart AT4 (unhide ROW4) (by decide))
          · intro j hjl
            by_cases hja : j = a
            · subst hja
              rw [if_pos rfl, hidx, cellsZ_append, List.length_append]
              exact own4.kept gR (own_apart own4 (unhide ROW4) (by decide))
            · rw [if_neg hja, hidn j hja]
              exact (E4 j hjl hja).kept gR (own_apart (E4 j hjl hja) (unhide ROW4) (by decide))
          · intro j hjl
            by_cases hja : j = a
            · rw [if_pos hja]
              rcases hloc with h | h
              · rw [h]; exact hfa
              · rw [h]; simp; omega
            · rw [if_neg hja]; exact (unhide EV2).farA j hjl
          · intro i j hil hjl hij
            by_cases hia : i = a
            · have hja : j ≠ a := fun e => hij (hia.trans e.symm)
              rw [if_pos hia, if_neg hja]
              rcases hloc with h | h
              · rw [h]; exact hfar a j hat hjl (fun e => hja e.symm)
              · right; rw [h]; intro e; have := hlt0 j _ hjl e.symm; omega
            · rw [if_neg hia]
              by_cases hja : j = a
              · rw [if_pos hja]
                rcases hloc with h | h
                · rw [h]; exact hfar i a hil hat hia
                · right; rw [h]; intro e; have := hlt0 i _ hil e; omega
              · rw [if_neg hja]; exact hfar i j hil hjl hij
        · have hkI : ¬ (k : Int) < ws.length := by omega
          have hkn : k = ws.length := by omega
          subst hkn
          go_wp2_with fail
          go_ret2
          exact ⟨_, _, rfl, T, at_, eV, ⟨(unhide G).gr, unhide B2, unhide ROW2, unhide KID2, (unhide EV2).own, (unhide G).len, (unhide G).lts, (unhide G).pos, by omega⟩⟩
end Go.Proofs.Ytmmjcbfffcnfiaa
