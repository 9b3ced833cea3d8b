/- Rows of steps; the library's Compact of them. -/
import Derived.Test.YtmmjcbfffcnfiaaFb
import Derived.Lib.SliceRun
import Derived.Laws.OwnMore
namespace Go.Proofs.Ytmmjcbfffcnfiaa
open Go.RowKit Kb Ph
set_option linter.unusedVariables false
set_option maxRecDepth 20000

abbrev St := Int × Int
def cellsT (l : List St) : List Value := l.flatMap fun h => [.int .i64 h.1, .int .u8 h.2]
theorem cellsT_append (a b : List St) : cellsT (a ++ b) = cellsT a ++ cellsT b := by simp [cellsT]
theorem cellsT_length (l : List St) : (cellsT l).length = l.length * 2 := by
  induction l with
  | nil => rfl
  | cons a r ih =>
    have : (cellsT (a :: r)).length = (cellsT r).length + 2 := by simp [cellsT]
    rw [this, ih, List.length_cons]; omega
theorem cellsT_cons (a : St) (r : List St) : cellsT (a :: r) = .int .i64 a.1 :: .int .u8 a.2 :: cellsT r := by simp [cellsT]
theorem cellsT_at {l : List St} {j : Nat} {h : St} (hj : l[j]? = some h) : (cellsT l)[j * 2]? = some (.int .i64 h.1) ∧ (cellsT l)[j * 2 + 1]? = some (.int .u8 h.2) := by
  induction l generalizing j with
  | nil => simp at hj
  | cons a r ih =>
    rw [cellsT_cons]
    cases j with
    | zero => simp at hj; subst hj; simp
    | succ j =>
      have := ih (j := j) (by simpa using hj)
      rw [show (j + 1) * 2 = j * 2 + 1 + 1 by omega]
      simpa using this
theorem cellsT_set (l : List St) (j : Nat) (h : St) (hj : j < l.length) : ((cellsT l).set (j * 2) (.int .i64 h.1)).set (j * 2 + 1) (.int .u8 h.2) = cellsT (l.set j h) := by
  induction l generalizing j with
  | nil => simp at hj
  | cons a r ih =>
    cases j with
    | zero => simp [cellsT_cons]
    | succ j =>
      rw [List.set_cons_succ, cellsT_cons, cellsT_cons, show (j + 1) * 2 = j * 2 + 1 + 1 by omega, List.set_cons_succ, List.set_cons_succ, List.set_cons_succ, List.set_cons_succ, ih j (by simpa using hj)]
theorem cellsT_take (l : List St) (m : Nat) : (cellsT l).take (m * 2) = cellsT (l.take m) := by
  induction l generalizing m with
  | nil => simp [cellsT]
  | cons a r ih =>
    cases m with
    | zero => simp [cellsT]
    | succ m => rw [List.take_succ_cons, cellsT_cons, cellsT_cons, show (m + 1) * 2 = m * 2 + 1 + 1 by omega, List.take_succ_cons, List.take_succ_cons, ih]
theorem own_step {w : World} {B g n cap : Nat} {l : List St} (h : w.ownsRow B 74 2 (.slice (some ⟨g, 0, none⟩) n cap) n (cellsT l)) {j : Nat} {x : St} (hj : l[j]? = some x) :
    w.cell? ⟨g, j * 2, none⟩ = some (.int .i64 x.1) ∧ w.cell? ⟨g, j * 2 + 1, none⟩ = some (.int .u8 x.2) := by
  have hjl : j < l.length := (List.getElem?_eq_some_iff.1 hj).1
  have hl : l.length = n := by have := h.1; rw [cellsT_length] at this; omega
  obtain ⟨k0, k1⟩ := cellsT_at hj
  exact ⟨(h.cellAt _ (by omega)).trans k0, (h.cellAt _ (by omega)).trans k1⟩

/-- L's first p elements, none twice in a row -/
def ddt (L : List St) : Nat → List St
  | 0 => []
  | p + 1 => if 1 ≤ p ∧ L[p]? = L[p - 1]? then ddt L p else ddt L p ++ (L[p]?).toList
theorem ddt_dup {L : List St} {p : Nat} (h : 1 ≤ p ∧ L[p]? = L[p - 1]?) : ddt L (p + 1) = ddt L p := by rw [ddt, if_pos h]
theorem ddt_new {L : List St} {p : Nat} {x : St} (h : ¬ (1 ≤ p ∧ L[p]? = L[p - 1]?)) (hx : L[p]? = some x) : ddt L (p + 1) = ddt L p ++ [x] := by rw [ddt, if_neg h, hx]; rfl
theorem ddt_len (L : List St) (p : Nat) : (ddt L p).length ≤ p := by
  induction p with
  | zero => simp [ddt]
  | succ p ih =>
    rw [ddt]; split
    · omega
    · cases L[p]? <;> simp <;> omega

theorem eqS (a c a' c' : Int) (w : World) : (binOp .eql 74 (.agg #[.int .i64 a, .int .u8 c]) (.agg #[.int .i64 a', .int .u8 c'])).run Try.prog w = .ok (.bool (decide ((a, c) = (a', c')))) w := by
  by_cases h1 : a = a' <;> by_cases h2 : c = c' <;> go_simp <;> simp [h1, h2]

theorem own_shrink {w : World} {B g n cap size i : Nat} {e : TypeId} {xs : List Value} (h : w.ownsRow B e size (.slice (some ⟨g, 0, none⟩) n cap) n xs) (hi : i ≤ n) :
    w.ownsRow B e size (.slice (some ⟨g, 0, none⟩) i cap) i (xs.take (i * size)) := by
  have hm : i * size ≤ n * size := Nat.mul_le_mul_right _ hi
  refine ⟨by rw [List.length_take, h.1]; omega, ?_⟩
  rcases h.2 with ⟨h0, _⟩ | ⟨g', cap', cur, h0, h1, h2, h3, h4, h5, h6⟩
  · cases h0
  · cases h0
    exact .inr ⟨g, cap, cur, rfl, h1, h2, by omega, h4, h5, by rw [← h6, List.take_take, Nat.min_eq_left hm]⟩
theorem own_setCells {B g n cap size : Nat} {e : TypeId} (o0 : Nat) : ∀ (vs : List Value) (w : World) (xs : List Value) (o : Nat), o0 ≤ o → w.ownsRow B e size (.slice (some ⟨g, 0, none⟩) n cap) n xs →
    ∃ xs', (w.setCells g o vs).ownsRow B e size (.slice (some ⟨g, 0, none⟩) n cap) n xs' ∧ xs'.take o0 = xs.take o0 ∧ w.grownBy (w.setCells g o vs) (some g) := by
  intro vs
  induction vs with
  | nil => intro w xs o ho h; exact ⟨xs, h, rfl, World.grownBy.refl _ _⟩
  | cons v r ih =>
    intro w xs o ho h
    obtain ⟨h1, h2⟩ := h.stored o v
    obtain ⟨xs', h3, h4, h5⟩ := ih _ _ (o + 1) (by omega) h1
    refine ⟨xs', h3, ?_, h2.trans h5⟩
    rw [h4, List.take_set_of_le (by omega)]
theorem clear_any (w : World) (b o n c : Nat) (hn : 0 < n)
    (hc : ∀ j, j < n * 2 → (w.cell? ⟨b, o + j, none⟩).isSome = true) (hf : ∀ j, j < n * 2 → w.frozen? ⟨b, o + j, none⟩ = false) :
    ∃ vs, ∀ ty, (Builtin.clear_ #[71] ty #[.slice (some ⟨b, o, none⟩) n c]).run Try.prog w = .ok (.tuple #[]) (w.setCells b o vs) := by
  obtain ⟨vs, hvs⟩ : ∃ vs, (Builtin.zeroCells (Value.agg #[.int .i64 0, .int .u8 0]).cells n).toList = vs := ⟨_, rfl⟩
  have hl : vs.length = n * 2 := by rw [← hvs]; simp [Builtin.zeroCells, Value.cells]
  have hone : ∀ v ∈ vs, v.oneCell' = true := by
    intro v hv
    rw [← hvs] at hv
    simp [Builtin.zeroCells, Value.cells] at hv
    obtain ⟨i, _, hv⟩ := hv
    have hi : i % 2 = 0 ∨ i % 2 = 1 := by omega
    rcases hi with hi | hi
    · rw [hi] at hv; simp at hv; subst hv; rfl
    · rw [hi] at hv; simp at hv; subst hv; rfl
  have hst := run_storeCells_cells (P := Try.prog) b o vs 0 w (by simpa [hl] using hc) (by simpa [hl] using hf) hone
  simp only [Nat.add_zero] at hst
  obtain ⟨m, rfl⟩ : ∃ m, n = m + 1 := ⟨n - 1, by omega⟩
  exact ⟨vs, fun ty => by simp [Builtin.clear_, run_underlying Try.underlying71, hvs, hst]⟩
theorem own_set2 {w : World} {B g n cap i : Nat} {M : List St} (h : w.ownsRow B 74 2 (.slice (some ⟨g, 0, none⟩) n cap) n (cellsT M)) (x : St) (hi : i < M.length) :
    ((w.setCell ⟨g, i * 2, none⟩ (.int .i64 x.1)).setCell ⟨g, i * 2 + 1, none⟩ (.int .u8 x.2)).ownsRow B 74 2 (.slice (some ⟨g, 0, none⟩) n cap) n (cellsT (M.set i x)) ∧
    w.grownBy ((w.setCell ⟨g, i * 2, none⟩ (.int .i64 x.1)).setCell ⟨g, i * 2 + 1, none⟩ (.int .u8 x.2)) (some g) := by
  obtain ⟨h1, g1⟩ := h.stored (i * 2) (.int .i64 x.1)
  obtain ⟨h2, g2⟩ := h1.stored (i * 2 + 1) (.int .u8 x.2)
  rw [cellsT_set M i x hi] at h2
  exact ⟨h2, g1.trans g2⟩
theorem take_set_snoc {α : Type} (M : List α) (i : Nat) (x : α) (hi : i < M.length) : (M.set i x).take (i + 1) = M.take i ++ [x] := by
  rw [List.take_add_one, List.getElem?_set_self hi, List.take_set_of_le (Nat.le_refl _)]; rfl
theorem pair_cases {x y : St} (h : x ≠ y) : ((x.1 == y.1) = false) ∨ ((x.1 == y.1) = true ∧ (x.2 == y.2) = false) := by
  obtain ⟨a, c⟩ := x
  obtain ⟨a', c'⟩ := y
  by_cases h1 : a = a'
  · exact .inr ⟨by simp [h1], by simp; exact fun h2 => h (by rw [h1, h2])⟩
  · exact .inl (by simp [h1])
set_option maxHeartbeats 8000000 in
theorem compact_any (w : World) (B g cap : Nat) (L : List St) (h : w.ownsRow B 74 2 (.slice (some ⟨g, 0, none⟩) L.length cap) L.length (cellsT L)) (hn : L.length ≤ 1000) :
    Calls Try.prog 46 #[.slice (some ⟨g, 0, none⟩) L.length cap] w fun e w' =>
      ∃ x, e = .returned x ∧ Below B w w' ∧ w'.ownsRow B 74 2 x (ddt L L.length).length (cellsT (ddt L L.length)) := by
  have hcap : L.length ≤ cap ∧ cap ≤ maxLen := by
    rcases h.2 with ⟨h0, _⟩ | ⟨g', cap', cur, h0, _, _, h1, h2, _⟩
    · cases h0
    · cases h0; exact ⟨h1, h2⟩
  obtain ⟨hcap1, hcap2⟩ := hcap
  have hBg : B ≤ g ∧ g < w.heap.size := h.lt g rfl
  have HBG := hide hBg
  have HOWN := hide h
  clear h hBg
  by_cases h2 : L.length < 2
  · have HE : Hid (ddt L L.length = L) := hide (by
      match L, h2 with
      | [], _ => rfl
      | [x], _ => rfl)
    go_enter Try.func46, Try.ntmps46
    go_wp2_with fail
    go_ret
    exact ⟨_, rfl, Below.refl _ _, by rw [unhide HE]; exact unhide HOWN⟩
  · unfold maxLen at hcap2
    go_enter Try.func46, Try.ntmps46
    go_wp2_with fail
    go_loopw [3] (fun x wr => ∃ m : Nat, x = .int .i64 ((m + 1 : Nat) : Int) ∧ m + 1 ≤ L.length ∧ ddt L (m + 1) = L.take (m + 1) ∧ Below w.heap.size w wr ∧ wr.ownsRow B 74 2 (.slice (some ⟨g, 0, none⟩) L.length cap) L.length (cellsT L)) (fun x _ => L.length - (intOf x).toNat)
    case atStart =>
      refine ⟨0, rfl, by omega, ?_, Below.refl _ _, unhide HOWN⟩
      match L, h2 with
      | x :: r, _ => simp [ddt]
    case round =>
      obtain ⟨m, rfl, hm, hdd, hbel, hown⟩ := hrel
      have HDD := hide hdd
      have BEL := hide hbel
      have OWN := hide hown
      clear hdd hbel hown
      by_cases hlt : m + 1 < L.length
      · obtain ⟨x, hx⟩ : ∃ x, L[m + 1]? = some x := ⟨L[m + 1], List.getElem?_eq_getElem hlt⟩
        obtain ⟨y, hy⟩ : ∃ y, L[m]? = some y := ⟨L[m], List.getElem?_eq_getElem (by omega)⟩
        obtain ⟨x0, x1⟩ := own_step (unhide OWN) hx
        obtain ⟨y0, y1⟩ := own_step (unhide OWN) hy
        have hI1 : ((m : Int) + 1) < L.length := by omega
        have hI2 : (m : Int) < L.length := by omega
        have HX := hide hx
        have HY := hide hy
        clear hx hy
        by_cases hxy : x = y
        · subst hxy
          go_wp2_with fail
          go_quiet (fail)
          go_wp2_with fail
          obtain ⟨n2, hn2⟩ : ∃ n2, L.length - (m + 1) = n2 := ⟨_, rfl⟩
          rw [hn2]
          have hcc : n2 ≤ cap - (m + 1) := by omega
          clear x0 x1 y0 y1
          go_loopw [5, 3] (fun a b wr => ∃ (j i : Nat) (M : List St), a = .int .i64 ((j + 1 : Nat) : Int) ∧ b = .int .i64 (i : Int) ∧ j + 1 ≤ n2 ∧ 1 ≤ i ∧ i < m + 1 + (j + 1) ∧ M.length = L.length ∧
            M.take i = ddt L (m + 1 + (j + 1)) ∧ (∀ q, m + 1 + j ≤ q → M[q]? = L[q]?) ∧ Below B w wr ∧ wr.ownsRow B 74 2 (.slice (some ⟨g, 0, none⟩) L.length cap) L.length (cellsT M)) (fun a _ _ => n2 - (intOf a).toNat)
          case atStart =>
            refine ⟨0, m + 1, L, rfl, rfl, by omega, by omega, by omega, rfl, ?_, fun _ _ => rfl, ?_, unhide OWN⟩
            · rw [ddt_dup (p := m + 1) ⟨by omega, by rw [Nat.add_sub_cancel, unhide HX, unhide HY]⟩]; exact (unhide HDD).symm
            · exact Go.below_drewN ((unhide BEL).mono (Nat.le_of_lt (Nat.lt_of_le_of_lt (unhide HBG).1 (unhide HBG).2))) _
          case round =>
            obtain ⟨j, i, M, rfl, rfl, hj, hi1, hi2, hML, hMd, hMr, hbel2, hown2⟩ := hrel
            have HMD := hide hMd
            have HMR := hide hMr
            have BEL2 := hide hbel2
            have OWN2 := hide hown2
            have hgs := hown2.lt g rfl
            clear hMd hMr hbel2 hown2
            by_cases hjl : j + 1 < n2
            · obtain ⟨p, hp⟩ : ∃ p, L[m + 1 + (j + 1)]? = some p := ⟨L[m + 1 + (j + 1)]'(by omega), List.getElem?_eq_getElem (by omega)⟩
              obtain ⟨q, hq⟩ : ∃ q, L[m + 1 + j]? = some q := ⟨L[m + 1 + j]'(by omega), List.getElem?_eq_getElem (by omega)⟩
              obtain ⟨zz, hzz⟩ : ∃ zz, M[i]? = some zz := ⟨M[i]'(by omega), List.getElem?_eq_getElem (by omega)⟩
              obtain ⟨p0, p1⟩ := own_step (unhide OWN2) ((unhide HMR _ (by omega)).trans hp)
              obtain ⟨q0, q1⟩ := own_step (unhide OWN2) ((unhide HMR _ (Nat.le_refl _)).trans hq)
              obtain ⟨z0, z1⟩ := own_step (unhide OWN2) hzz
              have f0 := (unhide OWN2).frozenAt (i * 2)
              have f1 := (unhide OWN2).frozenAt (i * 2 + 1)
              rw [Nat.add_mul (m + 1)] at p0 p1 q0 q1
              have hI1 : ((j : Int) + 1) < n2 := by omega
              have hI2 : (j : Int) < n2 := by omega
              have HP := hide hp
              have HQ := hide hq
              clear hp hq hzz
              by_cases hpq : p = q
              · have HD : Hid (ddt L (m + 1 + (j + 1) + 1) = ddt L (m + 1 + (j + 1))) := hide (ddt_dup ⟨by omega, by rw [show m + 1 + (j + 1) - 1 = m + 1 + j by omega, unhide HP, unhide HQ, hpq]⟩)
                subst hpq
                go_wp2_with fail
                go_quiet (fail)
                go_wp2_with fail
                exact ⟨⟨j + 1, i, M, by go_num, rfl, by omega, hi1, by omega, hML, by rw [unhide HMD]; exact (unhide HD).symm, fun q hq => unhide HMR q (by omega), Go.below_drewN (unhide BEL2) _, unhide OWN2⟩, by simp [intOf]; omega⟩
              · have HD : Hid (ddt L (m + 1 + (j + 1) + 1) = ddt L (m + 1 + (j + 1)) ++ [p]) := hide (ddt_new (fun h => hpq (by have := h.2; rw [show m + 1 + (j + 1) - 1 = m + 1 + j by omega, unhide HP, unhide HQ] at this; exact Option.some.inj this)) (unhide HP))
                rcases pair_cases hpq with hq1 | ⟨hq1, hq2⟩
                · clear hpq
                  go_wp2_with fail
                  go_quiet (fail)
                  go_wp2_with fail
                  rename_i nq
                  obtain ⟨hs1, hg1⟩ := own_set2 (i := i) (show (wr.drewN nq).ownsRow B 74 2 (.slice (some ⟨g, 0, none⟩) L.length cap) L.length (cellsT M) from unhide OWN2) p (by omega)
                  refine ⟨⟨j + 1, i + 1, M.set i p, by go_num, by go_num, by omega, by omega, by omega, by rw [List.length_set]; exact hML, ?_, ?_, ?_, hs1⟩, by simp [intOf]; omega⟩
                  · rw [take_set_snoc _ _ _ (by omega), unhide HMD]; exact (unhide HD).symm
                  · intro q hq; rw [List.getElem?_set_ne (by omega)]; exact unhide HMR q (by omega)
                  · exact (Go.below_drewN (unhide BEL2) nq).grown hg1 (Nat.le_of_lt (Nat.lt_of_le_of_lt hgs.1 hgs.2)) (fun k hk => by cases hk; exact hgs.1)
                · clear hpq
                  go_wp2_with fail
                  go_quiet (fail)
                  go_wp2_with fail
                  rename_i nq
                  obtain ⟨hs1, hg1⟩ := own_set2 (i := i) (show (wr.drewN nq).ownsRow B 74 2 (.slice (some ⟨g, 0, none⟩) L.length cap) L.length (cellsT M) from unhide OWN2) p (by omega)
                  refine ⟨⟨j + 1, i + 1, M.set i p, by go_num, by go_num, by omega, by omega, by omega, by rw [List.length_set]; exact hML, ?_, ?_, ?_, hs1⟩, by simp [intOf]; omega⟩
                  · rw [take_set_snoc _ _ _ (by omega), unhide HMD]; exact (unhide HD).symm
                  · intro q hq; rw [List.getElem?_set_ne (by omega)]; exact unhide HMR q (by omega)
                  · exact (Go.below_drewN (unhide BEL2) nq).grown hg1 (Nat.le_of_lt (Nat.lt_of_le_of_lt hgs.1 hgs.2)) (fun k hk => by cases hk; exact hgs.1)
            · have hjI : ¬ ((j : Int) + 1) < n2 := by omega
              have hpn : m + 1 + (j + 1) = L.length := by omega
              obtain ⟨vs, hclear⟩ : ∃ vs, ∀ ty, (Builtin.clear_ #[71] ty #[.slice (some ⟨g, i * 2, none⟩) (L.length - i) (cap - i)]).run Try.prog wr = .ok (.tuple #[]) (wr.setCells g (i * 2) vs) := by
                refine clear_any wr g (i * 2) (L.length - i) (cap - i) (by omega) (fun q hq => ?_) (fun q hq => (unhide OWN2).frozenAt _)
                rw [(unhide OWN2).cellAt _ (by omega), List.getElem?_eq_getElem (by rw [cellsT_length]; omega)]; rfl
              obtain ⟨xs', hs1, hs2, hg1⟩ := own_setCells (i * 2) vs wr _ (i * 2) (Nat.le_refl _) (unhide OWN2)
              have HS := hide (own_shrink hs1 (i := i) (by omega))
              have HX2 : Hid (xs'.take (i * 2) = cellsT (ddt L L.length)) := hide (by rw [hs2, cellsT_take, unhide HMD, hpn])
              have HG1 := hide hg1
              have HLN : Hid (i = (ddt L L.length).length) := hide (by
                have := congrArg List.length (unhide HMD)
                rw [List.length_take, hpn] at this; omega)
              clear hs1 hs2 hg1
              have hci : L.length - i ≤ cap - i := by omega
              go_wp2_with fail
              go_ret
              exact ⟨_, rfl, (unhide BEL2).grown (unhide HG1) (Nat.le_of_lt (Nat.lt_of_le_of_lt hgs.1 hgs.2)) (fun k hk => by cases hk; exact hgs.1), by rw [← unhide HX2, ← unhide HLN]; exact unhide HS⟩
        · have HN : Hid (ddt L (m + 1 + 1) = L.take (m + 1 + 1)) := hide (by
            rw [ddt_new (fun h => hxy (by have := h.2; rw [Nat.add_sub_cancel, unhide HX, unhide HY] at this; exact Option.some.inj this)) (unhide HX), unhide HDD, List.take_add_one (l := L) (i := m + 1), unhide HX]; rfl)
          rcases pair_cases hxy with hq | ⟨hq, hq2⟩
          · clear hxy
            go_wp2_with fail
            go_quiet (fail)
            go_wp2_with fail
            exact ⟨⟨m + 1, by go_num, by omega, unhide HN, Go.below_drewN (unhide BEL) _, (unhide OWN)⟩, by simp [intOf]; omega⟩
          · clear hxy
            go_wp2_with fail
            go_quiet (fail)
            go_wp2_with fail
            exact ⟨⟨m + 1, by go_num, by omega, unhide HN, Go.below_drewN (unhide BEL) _, (unhide OWN)⟩, by simp [intOf]; omega⟩
      · have hmn : m + 1 = L.length := by omega
        have hI : ¬ ((m : Int) + 1) < L.length := by omega
        have HE : Hid (ddt L L.length = L) := hide (by have := unhide HDD; rw [hmn, List.take_length] at this; exact this)
        go_wp2_with fail
        go_ret
        exact ⟨_, rfl, (unhide BEL).mono (Nat.le_of_lt (Nat.lt_of_le_of_lt (unhide HBG).1 (unhide HBG).2)), by rw [unhide HE]; exact unhide OWN⟩
end Go.Proofs.Ytmmjcbfffcnfiaa
