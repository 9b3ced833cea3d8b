/- The document's Hits. -/
import Derived.Test.YtmmjcbfffcnfiaaFf
namespace Go.Proofs.Ytmmjcbfffcnfiaa
open Go.RowKit Kb Go.Maps Ph
set_option linter.unusedVariables false
set_option maxRecDepth 20000

set_option maxHeartbeats 8000000 in
theorem rhits_any (w : World) (v : Value) (T : List Nd) (s : ByteArray) (hT : Tree w v T) (R : Right T) (hs : s.size ≤ 8192) (hM : ∀ i, i < T.length → (nd T i).ends.length ≤ 1048576) :
    Calls Try.prog 16 #[v, .string s] w fun e w' =>
      ∃ x, e = .returned x ∧ Below w.heap.size w w' ∧ w'.ownsRow w.heap.size 38 2 x (hits T s.data.toList s.size).length (cellsH (hits T s.data.toList s.size)) := by
  have hpos := R.ne
  have hfew := R.few
  obtain ⟨g, off, cp, e0, rfl, hcp, hg, _, _, _, _, _⟩ := hT.node hpos
  obtain ⟨w1, hw1⟩ : ∃ w1, w.alloc (.cells #[.slice (some ⟨g, off, none⟩) T.length cp] 23) = w1 := ⟨_, rfl⟩
  have hbx : w1.cell? ⟨w.heap.size, 0, none⟩ = some (.slice (some ⟨g, off, none⟩) T.length cp) := by rw [← hw1, World.cell?_alloc_new]; rfl
  have hsz1 : w1.heap.size = w.heap.size + 1 := by rw [← hw1]; simp
  have hb1 : Below w.heap.size w w1 := by rw [← hw1]; exact (Below.refl _ _).alloc (Nat.le_refl _) _
  have HT1 := hide (hT.below hb1)
  have HB1 := hide hb1
  have RT := hide R
  have HM := hide hM
  have HBX := hide hbx
  have HSZ := hide hsz1
  clear hT hb1 R hM hbx hsz1
  obtain ⟨i0, hi, hz0, hz1, hz2⟩ := info_parts infoH
  have HCH := hide (fun (w' : World) (n c : Int) (hb : Below w1.heap.size w1 w') =>
    child_any w' _ T w.heap.size n c ((unhide HT1).below hb) (cell_below (unhide HBX) (by rw [unhide HSZ]; omega) hb) hpos hfew)
  obtain ⟨l, hl⟩ : ∃ l, s.data.toList = l := ⟨_, rfl⟩
  rw [hl]
  have HL := hide hl
  clear hl
  go_enter Try.func16, Try.ntmps16
  go_wp2_with fail
  clear hw1
  go_loopw [8, 7, 6] (fun x y z wr => ∃ k : Nat, x = .int .i64 k ∧ k ≤ s.size ∧ y = .int .i64 (stt T l k) ∧ Below w1.heap.size w1 wr ∧ wr.ownsRow w1.heap.size 38 2 z (hits T l k).length (cellsH (hits T l k))) (fun x _ _ _ => s.size - (intOf x).toNat)
  case atStart => exact ⟨0, rfl, Nat.zero_le _, rfl, Below.refl _ _, World.ownsRow_nil _ _ _ _⟩
  case round =>
    obtain ⟨k, rfl, hk, rfl, hbel, hown⟩ := hrel
    have BEL := hide hbel
    have OWN := hide hown
    clear hbel hown
    by_cases hlt : k < s.size
    · have HX : Hid (nxg (Kid T) (fl T) (s[k].toNat : Int) (stt T l k) = stt T l (k + 1)) := hide (by
        rw [stt]; unfold nx; congr 1
        have := at_list s l (unhide HL) k hlt
        simp [List.getD, ← this])
      have hst := stt_lt T l hpos k
      obtain ⟨c, hc⟩ : ∃ c, (s[k].toNat : Int) = c := ⟨_, rfl⟩
      rw [hc] at HX
      obtain ⟨st0, hst0⟩ : ∃ q, stt T l k = q := ⟨_, rfl⟩
      rw [hst0] at HX hst
      rw [hst0]
      clear hst0
      go_wp2_with fail
      go_loop [7] (fun x => ∃ j : Nat, x = .int .i64 j ∧ j < T.length ∧ nxg (Kid T) (fl T) c j = stt T l (k + 1)) (fun x => (intOf x).toNat)
      case atStart => exact ⟨st0, rfl, hst, unhide HX⟩
      case round =>
        obtain ⟨j, rfl, hj, hx⟩ := hrel
        have HXJ := hide hx
        clear hx
        have hbx1 := cell_below (unhide HBX) (by rw [unhide HSZ]; omega) (unhide BEL)
        by_cases h0 : j = 0
        · have HQ0 := hide ((nxg_stop (f := Kid T) (F := fl T) (c := c) (.inl h0)).symm.trans (unhide HXJ))
          obtain ⟨q, hq⟩ : ∃ q, Kid T j c = q := ⟨_, rfl⟩
          have HXQ : Hid (q = stt T l (k + 1)) := hide (hq.symm.trans (unhide HQ0))
          have hql : q < T.length := by rw [← hq]; exact Kid_lt T _ _ hpos
          subst h0
          have HQ : Hid (Kid T 0 c = q) := hide (by rw [← hq]; rfl)
          clear hq
          by_cases hq0 : q = 0
          · have HN : Hid (hits T l (k + 1) = hits T l k) := hide (by simp only [hits]; rw [← unhide HXQ, hq0]; simp [endsOf])
            go_wp2_with fail
            refine ((unhide HCH) _ _ _ (unhide BEL)).mono ?_
            rintro e w2 ⟨rfl, hw2⟩
            rw [hw2]; clear hw2
            rw [unhide HQ, hq0]
            go_wp2
            exact ⟨⟨k + 1, by go_num, by omega, by rw [← unhide HXQ, hq0]; rfl, unhide BEL, by rw [unhide HN]; exact unhide OWN⟩, by simp [intOf]; omega⟩
          · go_wp2_with fail
            refine ((unhide HCH) _ _ _ (unhide BEL)).mono ?_
            rintro e w2 ⟨rfl, hw2⟩
            rw [hw2]; clear hw2
            rw [unhide HQ]
            obtain ⟨g3, off3, cp3, e3, he3, _, hg3, _, _, _, q3, q4⟩ := (unhide HT1).node hql
            cases he3
            obtain ⟨ed, hed⟩ : ∃ ed, (nd T q).ends = ed := ⟨_, rfl⟩
            rw [hed] at q4
            have HED : Hid (endsOf T (stt T l (k + 1)) = ed) := hide (by rw [← unhide HXQ]; unfold endsOf; rw [if_neg hq0]; exact hed)
            clear hed
            obtain ⟨oe, ce, rfl, hce⟩ := q4.form
            have hroom := q4.room
            have HI := hide q4
            have HQ3 := hide q3
            have hqb : ((q : Int) == 0) = false := by simp; omega
            clear q4 q3 hq0
            go_wp2_with fail
            go_loopw [10, 6] (fun x y wr' => ∃ m : Nat, x = .int .i64 m ∧ m ≤ ed.length ∧ Below w1.heap.size w1 wr' ∧ wr'.ownsRow w1.heap.size 38 2 y (part T l k m).length (cellsH (part T l k m))) (fun x _ _ => ed.length - (intOf x).toNat)
            case atStart => exact ⟨0, rfl, Nat.zero_le _, unhide BEL, by rw [part_zero]; exact unhide OWN⟩
            case round =>
              obtain ⟨m, rfl, hm, hbel, hown⟩ := hrel
              have BEL2 := hide hbel
              have OWN2 := hide hown
              have HI2 := hide ((unhide HI).below hbel)
              have hB2 : w1.heap.size ≤ _ := hbel.size
              have q3 := cell_below (unhide HQ3) hg3 hbel
              have hbx2 := cell_below (unhide HBX) (by rw [unhide HSZ]; omega) hbel
              clear hbel hown
              by_cases hml : m < ed.length
              · obtain ⟨z, hz⟩ : ∃ z, ed[m]? = some z := ⟨ed[m], List.getElem?_eq_getElem hml⟩
                obtain ⟨g4, off4, c4, he4, hg4, hcell⟩ := (unhide HI2).at_ (by intro e; rw [e] at hml; cases hml)
                have hload := hcell m z hz
                have HS : Hid (part T l k (m + 1) = part T l k m ++ [(z, ((k + 1 : Nat) : Int))]) := hide (part_succ (by rw [unhide HED]; exact hz))
                have hpl := part_len (T := T) (l := l) 1048576 (unhide HM) hpos k m (by rw [unhide HED]; omega)
                cases he4
                clear hcell hz
                obtain ⟨pl, hpl0⟩ : ∃ pl, (part T l k m).length = pl := ⟨_, rfl⟩
                have hkm : (k + 1) * 1048576 ≤ 8192 * 1048576 := Nat.mul_le_mul_right _ (by omega)
                rw [hpl0] at hpl OWN2
                have HPL := hide hpl0
                have b3 : pl + 1 ≤ maxLen := by unfold maxLen; omega
                have b4 : (pl + 1) * 16 ≤ 140737488355328 := by omega
                clear hpl0 hpl hkm
                go_wp2_with (at_builtin; refine wpList_append_own _ rfl _ _ 31 rfl w1.heap.size 38 i0 (.agg #[.int .i64 0, .int .i64 0]) 2 16 Try.underlying31 hi hz0 hz1 hz2 rfl (by decide) _ pl (cellsH (part T l k m)) rfl ((unhide OWN2).alloc _) _ 1 1 _ rfl rfl (cell_two_new _ _ _ _) (by simp [Value.oneCell']) b3 b4 (by simp; omega) ?_; intro v1 w3 own1 grow1 _)
                refine ⟨⟨m + 1, by go_num, by omega, ((unhide BEL2).alloc hB2 _).grown grow1 (by simp; omega) (own_lt (unhide OWN2)), ?_⟩, by simp [intOf]; omega⟩
                rw [unhide HS, List.length_append, unhide HPL, cellsH_append]; exact own1
              · have hmI : ¬ (m : Int) < ed.length := by omega
                have HP : Hid (part T l k m = hits T l (k + 1)) := hide (by rw [show m = ed.length by omega, ← unhide HED]; exact part_all T l k)
                go_wp2
                exact ⟨⟨k + 1, by go_num, by omega, by rw [← unhide HXQ], unhide BEL2, by rw [← unhide HP]; exact unhide OWN2⟩, by simp [intOf]; omega⟩
        · by_cases h1 : Kid T j c = 0
          · obtain ⟨g2, off2, cp2, e2, he2, _, hg2, _, _, k2, _, _⟩ := (unhide HT1).node hj
            cases he2
            have k2 := cell_below k2 hg2 (unhide BEL)
            obtain ⟨hfl, hfe⟩ := (unhide RT).fail_lt hj h0
            have HE := hide ((nxg_go h0 h1 hfl).symm.trans (unhide HXJ))
            rw [hfe] at k2
            clear hfe
            have HK1 := hide h1
            have hjb : ((j : Int) != 0) = true := by simp; exact h0
            clear h1
            go_wp2_with fail
            refine ((unhide HCH) _ _ _ (unhide BEL)).mono ?_
            rintro e w2 ⟨rfl, hw2⟩
            rw [hw2]; clear hw2
            rw [unhide HK1]
            go_wp2
            exact ⟨⟨fl T j, rfl, by omega, unhide HE⟩, by simp [intOf]; omega⟩
          · have HQ0 := hide ((nxg_stop (f := Kid T) (F := fl T) (c := c) (.inr h1)).symm.trans (unhide HXJ))
            obtain ⟨q, hq⟩ : ∃ q, Kid T j c = q := ⟨_, rfl⟩
            have HXQ : Hid (q = stt T l (k + 1)) := hide (hq.symm.trans (unhide HQ0))
            have hql : q < T.length := by rw [← hq]; exact Kid_lt T _ _ hpos
            have hq0 : ¬ q = 0 := by rw [← hq]; exact h1
            have HQ : Hid (Kid T j c = q) := hide hq
            have hjb : ((j : Int) != 0) = true := by simp; exact h0
            have hqb0 : ((q : Int) == 0) = false := by simp; omega
            clear hq h1
            go_wp2_with fail
            refine ((unhide HCH) _ _ _ (unhide BEL)).mono ?_
            rintro e w2 ⟨rfl, hw2⟩
            rw [hw2]; clear hw2
            rw [unhide HQ]
            go_wp2_with fail
            refine ((unhide HCH) _ _ _ (unhide BEL)).mono ?_
            rintro e w2 ⟨rfl, hw2⟩
            rw [hw2]; clear hw2
            rw [unhide HQ]
            obtain ⟨g3, off3, cp3, e3, he3, _, hg3, _, _, _, q3, q4⟩ := (unhide HT1).node hql
            cases he3
            obtain ⟨ed, hed⟩ : ∃ ed, (nd T q).ends = ed := ⟨_, rfl⟩
            rw [hed] at q4
            have HED : Hid (endsOf T (stt T l (k + 1)) = ed) := hide (by rw [← unhide HXQ]; unfold endsOf; rw [if_neg hq0]; exact hed)
            clear hed
            obtain ⟨oe, ce, rfl, hce⟩ := q4.form
            have hroom := q4.room
            have HI := hide q4
            have HQ3 := hide q3
            have hqb : ((q : Int) == 0) = false := by simp; omega
            clear q4 q3 hq0
            go_wp2_with fail
            go_loopw [10, 6] (fun x y wr' => ∃ m : Nat, x = .int .i64 m ∧ m ≤ ed.length ∧ Below w1.heap.size w1 wr' ∧ wr'.ownsRow w1.heap.size 38 2 y (part T l k m).length (cellsH (part T l k m))) (fun x _ _ => ed.length - (intOf x).toNat)
            case atStart => exact ⟨0, rfl, Nat.zero_le _, unhide BEL, by rw [part_zero]; exact unhide OWN⟩
            case round =>
              obtain ⟨m, rfl, hm, hbel, hown⟩ := hrel
              have BEL2 := hide hbel
              have OWN2 := hide hown
              have HI2 := hide ((unhide HI).below hbel)
              have hB2 : w1.heap.size ≤ _ := hbel.size
              have q3 := cell_below (unhide HQ3) hg3 hbel
              have hbx2 := cell_below (unhide HBX) (by rw [unhide HSZ]; omega) hbel
              clear hbel hown
              by_cases hml : m < ed.length
              · obtain ⟨z, hz⟩ : ∃ z, ed[m]? = some z := ⟨ed[m], List.getElem?_eq_getElem hml⟩
                obtain ⟨g4, off4, c4, he4, hg4, hcell⟩ := (unhide HI2).at_ (by intro e; rw [e] at hml; cases hml)
                have hload := hcell m z hz
                have HS : Hid (part T l k (m + 1) = part T l k m ++ [(z, ((k + 1 : Nat) : Int))]) := hide (part_succ (by rw [unhide HED]; exact hz))
                have hpl := part_len (T := T) (l := l) 1048576 (unhide HM) hpos k m (by rw [unhide HED]; omega)
                cases he4
                clear hcell hz
                obtain ⟨pl, hpl0⟩ : ∃ pl, (part T l k m).length = pl := ⟨_, rfl⟩
                have hkm : (k + 1) * 1048576 ≤ 8192 * 1048576 := Nat.mul_le_mul_right _ (by omega)
                rw [hpl0] at hpl OWN2
                have HPL := hide hpl0
                have b3 : pl + 1 ≤ maxLen := by unfold maxLen; omega
                have b4 : (pl + 1) * 16 ≤ 140737488355328 := by omega
                clear hpl0 hpl hkm
                go_wp2_with (at_builtin; refine wpList_append_own _ rfl _ _ 31 rfl w1.heap.size 38 i0 (.agg #[.int .i64 0, .int .i64 0]) 2 16 Try.underlying31 hi hz0 hz1 hz2 rfl (by decide) _ pl (cellsH (part T l k m)) rfl ((unhide OWN2).alloc _) _ 1 1 _ rfl rfl (cell_two_new _ _ _ _) (by simp [Value.oneCell']) b3 b4 (by simp; omega) ?_; intro v1 w3 own1 grow1 _)
                refine ⟨⟨m + 1, by go_num, by omega, ((unhide BEL2).alloc hB2 _).grown grow1 (by simp; omega) (own_lt (unhide OWN2)), ?_⟩, by simp [intOf]; omega⟩
                rw [unhide HS, List.length_append, unhide HPL, cellsH_append]; exact own1
              · have hmI : ¬ (m : Int) < ed.length := by omega
                have HP : Hid (part T l k m = hits T l (k + 1)) := hide (by rw [show m = ed.length by omega, ← unhide HED]; exact part_all T l k)
                go_wp2
                exact ⟨⟨k + 1, by go_num, by omega, by rw [← unhide HXQ], unhide BEL2, by rw [← unhide HP]; exact unhide OWN2⟩, by simp [intOf]; omega⟩
    · obtain rfl : k = s.size := by omega
      go_wp2
      go_ret
      exact ⟨_, rfl, bel_trans (unhide HB1) (unhide BEL), own_base (unhide OWN) (by rw [unhide HSZ]; omega)⟩
end Go.Proofs.Ytmmjcbfffcnfiaa
