/- Walks: lists of nets (the program's), and that two are the same. -/
import Derived.Test.YtmhjfiaohbioeaaDoorNc
import Derived.OwnWalk
namespace Go.Proofs.YtmhjfiaohbioeaaDoor
open Go.RowKit Kb
set_option linter.unusedVariables false
set_option maxRecDepth 20000

theorem own_mono {w : World} {B B' e size n : Nat} {v : Value} {xs : List Value} (h : w.ownsRow B e size v n xs) (hB : B' ≤ B) : w.ownsRow B' e size v n xs := by
  obtain ⟨h1, h2⟩ := h
  refine ⟨h1, ?_⟩
  rcases h2 with h2 | ⟨b, cap, cur, h3, h4, h5⟩
  · exact .inl h2
  · exact .inr ⟨b, cap, cur, h3, Nat.le_trans hB h4, h5⟩
theorem wt_mem : ∀ {L : List (List UInt8)} {p : List UInt8}, p ∈ L → p.length + 1 ≤ Cp.wt L
  | a :: r, p, h => by
    rw [Cp.wt_cons]
    rcases List.mem_cons.1 h with e | e
    · rw [e]; omega
    · have := wt_mem e; omega
namespace Nt
def listR : List (Nat × Nat) → List (List UInt8) → List (Nat × Nat) × Int
  | acc, [] => (acc, 0)
  | acc, p :: ps => if (parse p).2.2 = 0 then listR (acc ++ [((parse p).1, (parse p).2.1)]) ps else ([], (parse p).2.2)
/-- the nets of which a text is the text, and what went wrong -/
def list (l : List UInt8) : List (Nat × Nat) × Int := if 30 < (Cs.cut 44 l).length then ([], 2) else listR [] (Cs.cut 44 l)
theorem listR_len : ∀ (ps : List (List UInt8)) (acc : List (Nat × Nat)), (listR acc ps).1.length ≤ acc.length + ps.length
  | [], acc => by simp [listR]
  | p :: ps, acc => by
    unfold listR
    split
    · have := listR_len ps (acc ++ [((parse p).1, (parse p).2.1)])
      rw [List.length_append] at this
      simp only [List.length_cons, List.length_nil] at this ⊢; omega
    · simp
theorem list_len (l : List UInt8) : (list l).1.length ≤ 30 := by
  unfold list
  split
  · simp
  · have := listR_len (Cs.cut 44 l) []
    simp only [List.length_nil] at this; omega
end Nt
/-- nets as cells -/
def cellsNs (l : List (Nat × Nat)) : List Value := l.flatMap fun x => [.int .u32 x.1, .int .i64 x.2]
theorem cellsNs_append (a b : List (Nat × Nat)) : cellsNs (a ++ b) = cellsNs a ++ cellsNs b := by simp [cellsNs]
theorem cellsNs_len (l : List (Nat × Nat)) : (cellsNs l).length = l.length * 2 := by
  induction l with
  | nil => rfl
  | cons a r ih =>
    have : (cellsNs (a :: r)).length = (cellsNs r).length + 2 := by simp [cellsNs]
    rw [this, ih, List.length_cons]; omega
theorem cellsNs_at {l : List (Nat × Nat)} {j : Nat} {h : Nat × Nat} (hj : l[j]? = some h) : (cellsNs l)[j * 2]? = some (.int .u32 h.1) ∧ (cellsNs l)[j * 2 + 1]? = some (.int .i64 h.2) := by
  induction l generalizing j with
  | nil => simp at hj
  | cons a r ih =>
    have e : cellsNs (a :: r) = .int .u32 a.1 :: .int .i64 a.2 :: cellsNs r := by simp [cellsNs]
    rw [e]
    cases j with
    | zero => simp at hj; subst hj; simp
    | succ j =>
      have := ih (j := j) (by simpa using hj)
      rw [show (j + 1) * 2 = j * 2 + 1 + 1 by omega]
      simpa using this
theorem own_net {w : World} {B : Nat} {v : Value} {l : List (Nat × Nat)} (h : w.ownsRow B 24 2 v l.length (cellsNs l)) {j : Nat} {x : Nat × Nat} (hj : l[j]? = some x) :
    ∃ g c, v = .slice (some ⟨g, 0, none⟩) l.length c ∧ w.cell? ⟨g, j * 2, none⟩ = some (.int .u32 x.1) ∧ w.cell? ⟨g, j * 2 + 1, none⟩ = some (.int .i64 x.2) := by
  have hjl : j < l.length := (List.getElem?_eq_some_iff.1 hj).1
  obtain ⟨k0, k1⟩ := cellsNs_at hj
  rcases h.2 with ⟨_, h0⟩ | ⟨g, cap, cur, rfl, _, hg, hc1, hc2, hc3, hc4⟩
  · omega
  · have cl : ∀ q y, q < l.length * 2 → (cellsNs l)[q]? = some y → w.cell? ⟨g, q, none⟩ = some y := by
      intro q y hq hy
      rw [← hc4, List.getElem?_take, if_pos hq] at hy
      simp only [World.cell?, hg]
      simpa using hy
    exact ⟨g, cap, rfl, cl _ _ (by omega) k0, cl _ _ (by omega) k1⟩
set_option maxHeartbeats 8000000 in
theorem equal_nets (w : World) (B C : Nat) (v u : Value) (l : List (Nat × Nat)) (h1 : w.ownsRow B 24 2 v l.length (cellsNs l)) (h2 : w.ownsRow C 24 2 u l.length (cellsNs l)) (hl : l.length ≤ 8796093022208) :
    Calls Tryd.prog 11 #[v, u] w fun e w' => e = .returned (.bool true) ∧ Below w.heap.size w w' := by
  obtain ⟨o1, c1, rfl, _⟩ := own_forms h1
  obtain ⟨o2, c2, rfl, _⟩ := own_forms h2
  have H1 := hide h1
  have H2 := hide h2
  clear h1 h2
  go_enter Tryd.func11, Tryd.ntmps11
  go_wp2_with fail
  go_loopw [13] (fun x wr => ∃ j : Nat, x = .int .i64 j ∧ j ≤ l.length ∧ Below w.heap.size w wr) (fun x _ => l.length - (intOf x).toNat)
  case atStart => exact ⟨0, rfl, Nat.zero_le _, Below.refl _ _⟩
  case round =>
    obtain ⟨j, rfl, hj, hb⟩ := hrel
    have HB := hide hb
    clear hb
    by_cases hlt : j < l.length
    · obtain ⟨x, hx⟩ : ∃ x, l[j]? = some x := ⟨l[j], List.getElem?_eq_getElem hlt⟩
      obtain ⟨g1, cc1, he1, a0, a1⟩ := own_net (own_below (unhide H1) (unhide HB)) hx
      obtain ⟨g2, cc2, he2, b0, b1⟩ := own_net (own_below (unhide H2) (unhide HB)) hx
      cases he1
      cases he2
      have hI : (j : Int) < l.length := by omega
      clear hx
      go_wp2_with fail
      go_quiet (fail)
      go_wp2
      exact ⟨⟨j + 1, by go_num, by omega, Go.below_drewN (unhide HB) _⟩, by simp [intOf]; omega⟩
    · obtain rfl : j = l.length := by omega
      go_wp2
      go_ret
      exact ⟨rfl, unhide HB⟩

theorem infoN : (Tryd.prog.info? 24).map (fun i => (i.zero, i.size, i.bytes)) = some (some (.agg #[.int .u32 0, .int .i64 0]), 2, 16) := by kernel_rfl
set_option maxHeartbeats 4000000 in
theorem List_any (s : ByteArray) (m : Int) (w : World) (hs : s.size ≤ 4294960000) (hm : MX m w) (res : List (Nat × Nat) × Int) (hr : Nt.list s.data.toList = res) :
    Calls Tryd.prog 9 #[.string s] w fun e w' => ∃ v, e = .returned (.tuple #[v, .int .i64 res.2]) ∧ w'.ownsRow w.heap.size 24 2 v res.1.length (cellsNs res.1) ∧ Below w.heap.size w w' := by
  have H1 := hide (count_c 44 s w)
  have H2 := hide (split_at_c 44 s m w hs hm)
  have hdr : ∀ p ∈ Cs.cut 44 s.data.toList, p.length ≤ s.size := fun p hp => by
    have h1 := Cs.wt_cut 44 s.data.toList
    have h2 := wt_mem hp
    rw [len_data] at h1; omega
  have HM := hide hm
  unfold Nt.list at hr
  obtain ⟨cs, hcs⟩ : ∃ cs, Cs.cut 44 s.data.toList = cs := ⟨_, rfl⟩
  have hpos : 0 < cs.length := by rw [← hcs]; exact List.length_pos_iff.2 (Cs.cut_ne 44 _)
  have hb : cs.length ≤ s.size + 1 := by
    have := Cp.len_wt (Cs.cut 44 s.data.toList); rw [Cs.wt_cut, hcs, len_data] at this; exact this
  rw [hcs] at H1 H2 hr hdr
  clear hcs hm
  have HD := hide hdr
  clear hdr
  by_cases h30 : 30 < cs.length
  · rw [if_pos h30] at hr
    subst hr
    clear H2
    go_enter Tryd.func9, Tryd.ntmps9
    go_wp2_with fail
    refine (unhide H1).mono ?_; rintro e wx ⟨rfl, hwx⟩; rw [hwx]; clear hwx wx
    go_wp2
    go_ret2
    exact ⟨_, rfl, World.ownsRow_nil _ _ _ _, Below.refl _ _⟩
  · rw [if_neg h30] at hr
    have HR := hide hr
    clear hr
    obtain ⟨i0, hi, hz0, hz1, hz2⟩ := info_parts infoN
    go_enter Tryd.func9, Tryd.ntmps9
    go_wp2_with fail
    refine (unhide H1).mono ?_; rintro e wx ⟨rfl, hwx⟩; rw [hwx]; clear hwx wx
    go_wp2_with fail
    refine (unhide H2).mono ?_; rintro e w1 ⟨rfl, hw1⟩
    have HB1 : Hid (Below w.heap.size w w1) := hide (by rw [hw1]; exact (Below.refl _ _).alloc (Nat.le_refl _) _)
    have HC1 : Hid (∀ j p, cs[j]? = some p → w1.cell? ⟨w.heap.size, j, none⟩ = some (.string (mk p))) := hide (by
      intro j p hp
      rw [hw1, World.cell?_alloc_new w _ _ j]; simp [cellsS, hp])
    have hg1 : w.heap.size < w1.heap.size := by rw [hw1]; simp
    have HM1 := hide ((unhide HM).below (unhide HB1))
    clear hw1 H1 H2 HM
    go_wp2
    go_loopw [4, 15] (fun v i wr => ∃ (k : Nat) (acc : List (Nat × Nat)), k ≤ cs.length ∧ i = .int .i64 k ∧ acc.length = k ∧ Nt.listR acc (cs.drop k) = res ∧ wr.ownsRow w1.heap.size 24 2 v k (cellsNs acc) ∧ Below w1.heap.size w1 wr) (fun _ i _ => cs.length - (intOf i).toNat)
    case atStart => exact ⟨0, [], Nat.zero_le _, rfl, rfl, unhide HR, World.ownsRow_nil _ _ _ _, Below.refl _ _⟩
    case round =>
      obtain ⟨k, acc, hk, rfl, hal, hres, hown, hbel⟩ := hrel
      have hB := hbel.size
      have OWN := hide hown
      have HB := hide hbel
      have HAL := hide hal
      clear hown hbel hal
      by_cases hlt : k < cs.length
      · obtain ⟨p, hp⟩ : ∃ p, cs[k]? = some p := ⟨cs[k], List.getElem?_eq_getElem hlt⟩
        have hload := cell_below ((unhide HC1) k p hp) hg1 (unhide HB)
        have hdrop : cs.drop k = p :: cs.drop (k + 1) := by
          rw [List.drop_eq_getElem_cons hlt]
          have := List.getElem?_eq_getElem hlt
          rw [hp] at this
          rw [← Option.some.inj this]
        have hps := unhide HD p (List.mem_of_getElem? hp)
        obtain ⟨⟨a, b, z⟩, hpa⟩ : ∃ q, Nt.parse p = q := ⟨_, rfl⟩
        rw [hdrop, Nt.listR, hpa] at hres
        dsimp only at hres
        have HP := hide (nparse_any (mk p) m wr (by rw [szM]; omega) ((unhide HM1).below (unhide HB)) a b z (by rw [show (mk p).data.toList = p by simp [mk]]; exact hpa))
        have HRS := hide hres
        obtain ⟨x, hx⟩ : ∃ x, mk p = x := ⟨_, rfl⟩
        rw [hx] at hload HP
        clear hp hx hdrop hres hpa
        go_wp2_with fail
        refine (unhide HP).mono ?_; rintro e w2 ⟨rfl, b2⟩
        have bb := (Below.refl w2.heap.size w2).alloc (Nat.le_refl _) (.cells #[.int .u32 a, .int .i64 b] 24)
        have X2 := NX.new (base := w.heap.size) w2 (Nat.le_trans (unhide HB1).size (Nat.le_trans (unhide HB).size b2.size)) a b
        have B2 := hide (bel_trans (bel_trans (unhide HB) b2) bb)
        have OW2 := hide (own_below (own_below (unhide OWN) b2) bb)
        obtain ⟨g2, hg2⟩ : ∃ g2, w2.heap.size = g2 := ⟨_, rfl⟩
        obtain ⟨W2, hW2⟩ : ∃ W2, w2.alloc (.cells #[.int .u32 a, .int .i64 b] 24) = W2 := ⟨_, rfl⟩
        rw [hW2] at X2 B2 OW2
        rw [hg2] at X2
        obtain ⟨x0, x1⟩ := X2.cells
        have hlx := X2.lt
        clear bb b2 X2 HB HP OWN hload
        by_cases hz : z = 0
        · subst hz
          have HRR : Hid (Nt.listR (acc ++ [(a, b)]) (cs.drop (k + 1)) = res) := hide (by have := unhide HRS; rwa [if_pos rfl] at this)
          have b3 : k + 1 ≤ maxLen := by unfold maxLen; omega
          have b4 : (k + 1) * 16 ≤ 140737488355328 := by omega
          have hB2 := (unhide B2).size
          clear HRS
          go_wp2_with (at_builtin; refine wpList_append_own _ rfl _ _ 28 rfl w1.heap.size 24 i0 (.agg #[.int .u32 0, .int .i64 0]) 2 16 Tryd.underlying28 hi hz0 hz1 hz2 rfl (by decide) _ k (cellsNs acc) rfl ((unhide OW2).alloc _) _ 1 1 _ rfl rfl (cell_two_new _ _ _ _) (by simp [Value.oneCell']) b3 b4 (by simp; omega) ?_; intro v1 w3 own1 grow1 _)
          refine ⟨⟨k + 1, acc ++ [(a, b)], by omega, by go_num, by rw [List.length_append, unhide HAL]; rfl, unhide HRR, ?_, ((unhide B2).alloc hB2 _).grown grow1 (by simp; omega) (own_lt (unhide OW2))⟩, by simp [intOf]; omega⟩
          rw [cellsNs_append]; exact own1
        · have HRR : Hid ((([] : List (Nat × Nat)), z) = res) := hide (by have := unhide HRS; rwa [if_neg hz] at this)
          have hzn : (z != 0) = true := by simpa using hz
          go_wp2
          go_ret2
          have hre := unhide HRR
          subst hre
          exact ⟨_, rfl, World.ownsRow_nil _ _ _ _, (unhide HB1).trans ((unhide B2).mono (unhide HB1).size)⟩
      · obtain rfl : k = cs.length := by omega
        have HRR : Hid ((acc, (0 : Int)) = res) := hide (by rw [List.drop_length] at hres; exact hres)
        go_wp2
        go_ret2
        have hre := unhide HRR
        subst hre
        refine ⟨_, rfl, ?_, (unhide HB1).trans ((unhide HB).mono (unhide HB1).size)⟩
        dsimp only
        rw [unhide HAL]
        exact own_mono (unhide OWN) (unhide HB1).size
end Go.Proofs.YtmhjfiaohbioeaaDoor
