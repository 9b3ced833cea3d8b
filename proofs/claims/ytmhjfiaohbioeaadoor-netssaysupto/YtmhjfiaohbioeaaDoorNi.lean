/- Walks of the document's answers on nets: lists of nets; is a text in another one. -/
import Derived.Test.YtmhjfiaohbioeaaDoorNh
import Derived.Test.YtmhjfiaohbioeaaDoorNf
namespace Go.Proofs.YtmhjfiaohbioeaaDoor
open Go.RowKit Kb
set_option linter.unusedVariables false
set_option maxRecDepth 20000

set_option maxHeartbeats 4000000 in
theorem rnets_any (s : ByteArray) (w : World) (hs : s.size ≤ 4294960000) (res : List (Nat × Nat) × Int) (hr : Nt.list s.data.toList = res) :
    Calls Tryd.prog 10 #[.string s] w fun e w' => ∃ v, e = .returned (.tuple #[v, .int .i64 res.2]) ∧ w'.ownsRow w.heap.size 24 2 v res.1.length (cellsNs res.1) ∧ Below w.heap.size w w' := by
  have H2 := hide (rpieces_any_c 44 s w hs)
  have hdr : ∀ p ∈ Cs.cut 44 s.data.toList, p.length ≤ s.size := fun p hp => by
    have h1 := Cs.wt_cut 44 s.data.toList
    have h2 := wt_mem hp
    rw [len_data] at h1; omega
  unfold Nt.list at hr
  obtain ⟨cs, hcs⟩ : ∃ cs, Cs.cut 44 s.data.toList = cs := ⟨_, rfl⟩
  have hpos : 0 < cs.length := by rw [← hcs]; exact List.length_pos_iff.2 (Cs.cut_ne 44 _)
  have hb : cs.length ≤ s.size + 1 := by
    have := Cp.len_wt (Cs.cut 44 s.data.toList); rw [Cs.wt_cut, hcs, len_data] at this; exact this
  rw [hcs] at H2 hr hdr
  clear hcs
  have HD := hide hdr
  clear hdr
  obtain ⟨i0, hi, hz0, hz1, hz2⟩ := info_parts infoN
  go_enter Tryd.func10, Tryd.ntmps10
  go_wp2_with fail
  refine (unhide H2).mono ?_; rintro e w1 ⟨v, rfl, own1, b1⟩
  obtain ⟨g9, c9, rfl, hc9⟩ := own_form own1 hpos
  have HB1 := hide b1
  have O1 := hide own1
  have hg1 := own1.lt g9 rfl
  have HC1 : Hid (∀ j p, cs[j]? = some p → w1.cell? ⟨g9, j, none⟩ = some (.string (mk p))) := hide (by
    intro j p hp
    have hj := (List.getElem?_eq_some_iff.1 hp).1
    rw [own1.cellAt j (by omega), cellsS, List.getElem?_map, hp]; rfl)
  clear own1 b1 H2
  by_cases h30 : 30 < cs.length
  · rw [if_pos h30] at hr
    subst hr
    have hI : (cs.length : Int) > 30 := by omega
    go_wp2_with fail
    go_ret2
    exact ⟨_, rfl, World.ownsRow_nil _ _ _ _, unhide HB1⟩
  · rw [if_neg h30] at hr
    have HR := hide hr
    have hI : ¬ (cs.length : Int) > 30 := by omega
    clear hr
    go_wp2_with fail
    go_loopw [5, 6] (fun v i wr => ∃ (k : Nat) (acc : List (Nat × Nat)), k ≤ cs.length ∧ i = .int .i64 k ∧ acc.length = k ∧ Nt.listR acc (cs.drop k) = res ∧ wr.ownsRow w1.heap.size 24 2 v k (cellsNs acc) ∧ Below w1.heap.size w1 wr) (fun _ i _ => cs.length - (intOf i).toNat)
    case atStart => exact ⟨0, [], Nat.zero_le _, rfl, rfl, unhide HR, World.ownsRow_nil _ _ _ _, Below.refl _ _⟩
    case round =>
      obtain ⟨k, acc, hk, rfl, hal, hres, hown, hbel⟩ := hrel
      have hB := hbel.size
      have OWN := hide hown
      have HB := hide hbel
      have HAL := hide hal
      clear hown hbel hal
      by_cases hlt : k < cs.length
      · obtain ⟨p, hp⟩ : ∃ p, cs[k]? = some p := ⟨cs[k], List.getElem?_eq_getElem hlt⟩
        have hload := cell_below ((unhide HC1) k p hp) hg1.2 (unhide HB)
        have hdrop : cs.drop k = p :: cs.drop (k + 1) := by
          rw [List.drop_eq_getElem_cons hlt]
          have := List.getElem?_eq_getElem hlt
          rw [hp] at this
          rw [← Option.some.inj this]
        have hps := unhide HD p (List.mem_of_getElem? hp)
        obtain ⟨⟨a, b, z⟩, hpa⟩ : ∃ q, Nt.parse p = q := ⟨_, rfl⟩
        rw [hdrop, Nt.listR, hpa] at hres
        dsimp only at hres
        have HP := hide (rnet_any (mk p) wr (by rw [szM]; omega) a b z (by rw [show (mk p).data.toList = p by simp [mk]]; exact hpa))
        have HRS := hide hres
        obtain ⟨x, hx⟩ : ∃ x, mk p = x := ⟨_, rfl⟩
        rw [hx] at hload HP
        clear hp hx hdrop hres hpa
        go_wp2_with fail
        refine (unhide HP).mono ?_; rintro e w2 ⟨rfl, b2⟩
        have bb := (Below.refl w2.heap.size w2).alloc (Nat.le_refl _) (.cells #[.int .u32 a, .int .i64 b] 24)
        have X2 := NX.new (base := w.heap.size) w2 (Nat.le_trans (unhide HB1).size (Nat.le_trans (unhide HB).size b2.size)) a b
        have B2 := hide (bel_trans (bel_trans (unhide HB) b2) bb)
        have OW2 := hide (own_below (own_below (unhide OWN) b2) bb)
        obtain ⟨g2, hg2⟩ : ∃ g2, w2.heap.size = g2 := ⟨_, rfl⟩
        obtain ⟨W2, hW2⟩ : ∃ W2, w2.alloc (.cells #[.int .u32 a, .int .i64 b] 24) = W2 := ⟨_, rfl⟩
        rw [hW2] at X2 B2 OW2
        rw [hg2] at X2
        obtain ⟨x0, x1⟩ := X2.cells
        have hlx := X2.lt
        clear bb b2 X2 HB HP OWN hload
        by_cases hz : z = 0
        · subst hz
          have HRR : Hid (Nt.listR (acc ++ [(a, b)]) (cs.drop (k + 1)) = res) := hide (by have := unhide HRS; rwa [if_pos rfl] at this)
          have b3 : k + 1 ≤ maxLen := by unfold maxLen; omega
          have b4 : (k + 1) * 16 ≤ 140737488355328 := by omega
          have hB2 := (unhide B2).size
          clear HRS
          go_wp2_with (at_builtin; refine wpList_append_own _ rfl _ _ 28 rfl w1.heap.size 24 i0 (.agg #[.int .u32 0, .int .i64 0]) 2 16 Tryd.underlying28 hi hz0 hz1 hz2 rfl (by decide) _ k (cellsNs acc) rfl ((unhide OW2).alloc _) _ 1 1 _ rfl rfl (cell_two_new _ _ _ _) (by simp [Value.oneCell']) b3 b4 (by simp; omega) ?_; intro v1 w3 own1 grow1 _)
          refine ⟨⟨k + 1, acc ++ [(a, b)], by omega, by go_num, by rw [List.length_append, unhide HAL]; rfl, unhide HRR, ?_, ((unhide B2).alloc hB2 _).grown grow1 (by simp; omega) (own_lt (unhide OW2))⟩, by simp [intOf]; omega⟩
          rw [cellsNs_append]; exact own1
        · have HRR : Hid ((([] : List (Nat × Nat)), z) = res) := hide (by have := unhide HRS; rwa [if_neg hz] at this)
          have hzn : (z != 0) = true := by simpa using hz
          go_wp2
          go_ret2
          have hre := unhide HRR
          subst hre
          exact ⟨_, rfl, World.ownsRow_nil _ _ _ _, (unhide HB1).trans ((unhide B2).mono (unhide HB1).size)⟩
      · obtain rfl : k = cs.length := by omega
        have HRR : Hid ((acc, (0 : Int)) = res) := hide (by rw [List.drop_length] at hres; exact hres)
        go_wp2
        go_ret2
        have hre := unhide HRR
        subst hre
        refine ⟨_, rfl, ?_, (unhide HB1).trans ((unhide HB).mono (unhide HB1).size)⟩
        dsimp only
        rw [unhide HAL]
        exact own_mono (unhide OWN) (unhide HB1).size
end Go.Proofs.YtmhjfiaohbioeaaDoor
