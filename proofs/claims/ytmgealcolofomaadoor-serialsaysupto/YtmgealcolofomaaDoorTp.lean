/- Walks: how long a body is, the document's Framed. -/
import Derived.Test.YtmgealcolofomaaDoorTh
import Derived.Test.YtmgealcolofomaaDoorWn
import Derived.Deep.QuietTactic
import Derived.BigQuiet
namespace Go.Proofs.YtmgealcolofomaaDoor
open Go.RowKit Kb
set_option linter.unusedVariables false
set_option maxRecDepth 20000
open Mh (Fl)

theorem ans_err {l : List UInt8} {n e : Int} (h : Num.ans 10 9 l = (n, e)) : e = 0 ∨ e = 4 := by
  unfold Num.ans at h
  split at h
  · cases h; exact .inr rfl
  · split at h
    · cases h; exact .inr rfl
    · cases h; exact .inl rfl
/-- the error behind the first k values -/
def erk (A : List (List UInt8)) (a : List UInt8) (e : Int) (k : Nat) : Int := if (∀ x ∈ A.take k, x = a) then e else 4
theorem erk_zero (A : List (List UInt8)) (a : List UInt8) (e : Int) : erk A a e 0 = e := by unfold erk; rw [if_pos (by simp)]
theorem erk_yes {A : List (List UInt8)} {a x : List UInt8} {e : Int} {k : Nat} (h : A[k]? = some x) (hx : x = a) : erk A a e (k + 1) = erk A a e k := by
  unfold erk
  have : (∀ y ∈ A.take (k + 1), y = a) ↔ (∀ y ∈ A.take k, y = a) := by
    rw [List.take_add_one, h]
    constructor
    · intro g y hy; exact g y (List.mem_append.2 (.inl hy))
    · intro g y hy
      rcases List.mem_append.1 hy with hy | hy
      · exact g y hy
      · simp at hy; rw [hy, hx]
  simp only [this]
theorem erk_no {A : List (List UInt8)} {a x : List UInt8} {e : Int} {k : Nat} (h : A[k]? = some x) (hx : ¬ x = a) : erk A a e (k + 1) = 4 := by
  unfold erk
  rw [if_neg]
  intro g
  apply hx
  apply g
  rw [List.take_add_one, h]; simp
theorem erk_all {A : List (List UInt8)} {a : List UInt8} {n e : Int} (he : e = 0 ∨ e = 4) :
    (if (∀ x ∈ A, x = a) then (if e ≠ 0 then ((0 : Int), (0 : Int), e) else (2, n, 0)) else (0, 0, 4)) = if erk A a e A.length ≠ 0 then (0, 0, 4) else (2, n, 0) := by
  unfold erk
  rw [List.take_length]
  by_cases h : ∀ x ∈ A, x = a
  · rw [if_pos h, if_pos h]
    rcases he with rfl | rfl <;> rfl
  · rw [if_neg h, if_neg h]; rfl
set_option maxHeartbeats 4000000 in
theorem rof_any (m t : List UInt8) (u : Value) (fs : List Fl) (w : World) (hu : Flds w u fs) (hfs : ∀ f ∈ fs, f.1.length + f.2.length ≤ 68719476736) (hn : fs.length ≤ 1099511627776) (r : Int × Int × Int) (hr : Cu.sizeOf fs = r) :
    Calls Tryd.prog 25 #[headV m t u] w fun e w' => e = .returned (.tuple #[.agg #[.int .i64 r.1, .int .i64 r.2.1], .int .i64 r.2.2]) ∧ Below w.heap.size w w' := by
  have HGET := hide (fun (name : ByteArray) (hz : name.size ≤ 68719476736) W (h : Below w.heap.size w W) => rget_any m t u fs name W (hu.below h) hz hfs _ rfl)
  unfold headV at HGET ⊢
  obtain ⟨o, c, rfl, hc⟩ := hu.form
  obtain ⟨x, hx⟩ : ∃ x, mk m = x := ⟨_, rfl⟩
  obtain ⟨y, hy⟩ : ∃ y, mk t = y := ⟨_, rfl⟩
  rw [hx, hy] at HGET ⊢
  clear hx hy hu
  unfold Cu.sizeOf at hr
  have hbL : ∀ n, (∀ x ∈ Mh.gets n fs, x.length ≤ 1099511627776) ∧ (Mh.gets n fs).length ≤ 1099511627776 := fun n => ⟨fun x hx => by
    obtain ⟨f, hf, rfl⟩ := gets_from hx
    have := hfs f hf; omega, Nat.le_trans (Mh.gets_len _ _) hn⟩
  obtain ⟨W0, hW0, bb, hX, hlt0, z0, z1, z2⟩ := two_allocs w (.string x) (.string y) (.slice o fs.length c)
  have B0 := hide bb
  have X0 := hide hX
  have hsz0 := bb.size
  have HN : ∀ (N : ByteArray) (hz : N.size ≤ 68719476736) (G : List (List UInt8)) (hG : Mh.gets (lower N.data.toList) fs = G), ∀ W, Below W0.heap.size W0 W → Calls Tryd.prog 31 #[.agg #[.string x, .string y, .slice o fs.length c], .string N] W fun e w' => ∃ oo cc, e = .returned (.slice oo G.length cc) ∧ w'.ownsRow W0.heap.size 9 1 (.slice oo G.length cc) G.length (cellsS G) ∧ Below W0.heap.size W0 w' ∧ Below W.heap.size W w'
      ∧ w'.cell? ⟨w.heap.size, 0, none⟩ = some (.string x) ∧ w'.cell? ⟨w.heap.size, 1, none⟩ = some (.string y) ∧ w'.cell? ⟨w.heap.size, 2, none⟩ = some (.slice o fs.length c) := by
    intro N hz G hG W hW
    subst hG
    refine ((unhide HGET) N hz W (bel_trans bb hW)).mono ?_
    rintro e w' ⟨v, rfl, own, b⟩
    obtain ⟨oo, cc, rfl⟩ := own_forms own
    have b2 := bel_trans hW b
    exact ⟨oo, cc, rfl, own_mono2 own hW.size, b2, b, cell_below z0 (by omega) b2, cell_below z1 (by omega) b2, cell_below z2 (by omega) b2⟩
  obtain ⟨A, hA⟩ : ∃ A, Cu.valsL fs = A := ⟨_, rfl⟩
  obtain ⟨B, hB⟩ : ∃ B, Cu.valsC fs = B := ⟨_, rfl⟩
  have HL := hide (HN ⟨#[67, 111, 110, 116, 101, 110, 116, 45, 76, 101, 110, 103, 116, 104]⟩ (by decide) A hA)
  have HC := hide (HN ⟨#[84, 114, 97, 110, 115, 102, 101, 114, 45, 69, 110, 99, 111, 100, 105, 110, 103]⟩ (by decide) B hB)
  have hbA := hbL (lower Cu.nameL)
  have hbB := hbL (lower Cu.nameC)
  rw [show Mh.gets (lower Cu.nameL) fs = A from hA] at hbA
  rw [show Mh.gets (lower Cu.nameC) fs = B from hB] at hbB
  rw [hA, hB] at hr
  have HR := hide hr
  have HDN : Hid (∀ (W : World) (a b : Int), BX W w.heap.size (w.heap.size + 1) a b → Below w.heap.size w W → ∀ x' y' : Int, Below w.heap.size w (putB W (w.heap.size + 1) x' y')) := hide (fun W a b hx hB x' y' => hB.grown (hx.put x' y').2 hB.size (fun q hq => by have := Option.some.inj hq; omega))
  have hR0 := Below.refl W0.heap.size W0
  clear HN HGET hbL hfs hr bb hX hA hB
  have HBA := hide hbA
  have HBB := hide hbB
  clear hbA hbB
  have HB0 := hide hR0
  clear hR0
  go_enter Tryd.func25, Tryd.ntmps25
  go_wp2_with fail
  clear hW0
  go_region_with (first
    | (go_at_call_of 31 ({ data := #[67, 111, 110, 116, 101, 110, 116, 45, 76, 101, 110, 103, 116, 104] } : ByteArray); refine ((unhide HL) _ ?_).mono ?_; (first | assumption | exact (unhide HB0).drew | exact unhide HB0); rintro e wA ⟨oA, cA, rfl, ownA, BA, bA, z0, z1, z2⟩)
    | (go_at_call_of 31 ({ data := #[84, 114, 97, 110, 115, 102, 101, 114, 45, 69, 110, 99, 111, 100, 105, 110, 103] } : ByteArray); refine ((unhide HC) _ ?_).mono ?_; (first | assumption | exact (unhide HB0).drew | exact unhide HB0); rintro e wB ⟨oB, cB, rfl, ownB, BB, bB, z0, z1, z2⟩))
  all_goals (
    first
    | (have OA := hide (own_below ownA bB); have OB := hide ownB; have BF := hide BB)
    | (have OA := hide ownA; have OB := hide (own_below ownB bA); have BF := hide BA)
    clear ownA ownB bA bB BA BB HL HC HB0
    have X1 := hide ((unhide X0).below (unhide BF))
    have BW := hide (bel_trans (unhide B0) (unhide BF))
    obtain ⟨y0, y1⟩ := (unhide X1).cells
    obtain ⟨g0, g1⟩ := (unhide X1).frozen
    by_cases ha : A = []
    · subst ha
      by_cases hb : B = []
      · subst hb
        have HP : Hid (r = (1, 0, 0)) := hide (by rw [← unhide HR]; rfl)
        have P1 := hide ((unhide X1).loaded 1 0)
        have P2 := hide ((unhide HDN) _ _ _ (unhide X1) (unhide BW) 1 0)
        go_wp2_with fail
        (try simp only [Exit.inBlock, Exit.then])
        refine bodyPost_ret_by (v := .tuple #[.agg #[.int .i64 1, .int .i64 0], .int .i64 0]) ?_ rfl ⟨by rw [unhide HP], unhide P2⟩
        refine results_cb (p := 2) (u := 3) (ty := 52) ?_ _ _ (w.heap.size + 1) _ ?_ (unhide P1) _ ?_ <;> rfl
      · have hbp := List.length_pos_iff.2 hb
        have hb0 : ¬ ((B.length : Int) = 0) := by omega
        have hbg : (B.length : Int) > 0 := by omega
        have HQ : Hid (Cu.cods B = r) := hide (by rw [← unhide HR]; unfold Cu.sizeE; rw [if_neg (fun h => hb h.2), if_neg hb, if_pos rfl])
        obtain ⟨b0, hbd⟩ : ∃ a, B.headD [] = a := ⟨_, rfl⟩
        have hB0 : B[0]? = some b0 := by
          cases B with
          | nil => exact absurd rfl hb
          | cons y r => rw [← hbd]; rfl
        have hbs := (unhide HBB).1 b0 (List.mem_of_getElem? hB0)
        obtain ⟨gB, cB', hvB, _⟩ := own_form (unhide OB) hbp
        cases hvB
        have z0 := row_at (unhide OB) 0 b0 hB0
        have HCD := hide HQ
        unfold Cu.cods at HQ
        rw [hbd] at HQ
        by_cases h1 : B.length = 1
        · obtain ⟨q, hq⟩ : ∃ q, mk b0 = q := ⟨_, rfl⟩
          have hqa : q.data.toList = b0 := by rw [← hq]; simp [mk]
          have hqs : q.size ≤ 1099511627776 := by rw [← len_data, hqa]; exact hbs
          rw [hq] at z0
          have HL := hide (fun W => rlow_any q W (by omega))
          rw [hqa] at HL
          obtain ⟨p, hp⟩ := ex_list (lower b0)
          rw [back_list p _ hp] at HL
          rw [← hp] at HQ
          have h1' : (B.length : Int) = 1 := by omega
          by_cases h2 : p.data.toList = Cu.chunkedT
          · have HP : Hid (r = (3, 0, 0)) := hide (by rw [← unhide HQ, if_pos ⟨h1, h2⟩])
            have e2 : (p.toList == [99, 104, 117, 110, 107, 101, 100]) = true := by rw [Lib.toList_data, h2]; rfl
            clear hp h2 hq hqa HQ HCD hB0 hbd h1
            go_wp2_with fail
            refine ((unhide HL) _).mono ?_; rintro e w5 ⟨rfl, b5⟩
            have X5 := hide ((unhide X1).below b5)
            have P1 := hide ((unhide X5).loaded 3 0)
            have P2 := hide ((unhide HDN) _ _ _ (unhide X5) (bel_trans (unhide BW) b5) 3 0)
            clear b5 y0 y1 g0 g1
            obtain ⟨y0, y1⟩ := (unhide X5).cells
            obtain ⟨g0, g1⟩ := (unhide X5).frozen
            go_wp2_with fail
            (try simp only [Exit.inBlock, Exit.then])
            refine bodyPost_ret_by (v := .tuple #[.agg #[.int .i64 3, .int .i64 0], .int .i64 0]) ?_ rfl ⟨by rw [unhide HP], unhide P2⟩
            refine results_cb (p := 2) (u := 3) (ty := 52) ?_ _ _ (w.heap.size + 1) _ ?_ (unhide P1) _ ?_ <;> rfl
          · have HP : Hid (r = (0, 0, 4)) := hide (by rw [← unhide HQ, if_neg (fun h => h2 h.2)])
            have e2 : (p.toList == [99, 104, 117, 110, 107, 101, 100]) = false := str_fl (fun e => h2 (by rw [e]; rfl))
            clear hp h2 hq hqa HQ HCD hB0 hbd h1
            go_wp2_with fail
            refine ((unhide HL) _).mono ?_; rintro e w5 ⟨rfl, b5⟩
            have X5 := hide ((unhide X1).below b5)
            have P1 := hide ((unhide X5).loaded 0 0)
            have P2 := hide ((unhide HDN) _ _ _ (unhide X5) (bel_trans (unhide BW) b5) 0 0)
            clear b5 y0 y1 g0 g1
            obtain ⟨y0, y1⟩ := (unhide X5).cells
            obtain ⟨g0, g1⟩ := (unhide X5).frozen
            go_wp2_with fail
            (try simp only [Exit.inBlock, Exit.then])
            refine bodyPost_ret_by (v := .tuple #[.agg #[.int .i64 0, .int .i64 0], .int .i64 4]) ?_ rfl ⟨by rw [unhide HP], unhide P2⟩
            refine results_cb (p := 2) (u := 3) (ty := 52) ?_ _ _ (w.heap.size + 1) _ ?_ (unhide P1) _ ?_ <;> rfl
        · have HP : Hid (r = (0, 0, 4)) := hide (by rw [← unhide HQ, if_neg (fun h => h1 h.1)])
          have h1' : ¬ ((B.length : Int) = 1) := by omega
          clear HQ HCD hB0 hbd
          have P1 := hide ((unhide X1).loaded 0 0)
          have P2 := hide ((unhide HDN) _ _ _ (unhide X1) (unhide BW) 0 0)
          go_wp2_with fail
          (try simp only [Exit.inBlock, Exit.then])
          refine bodyPost_ret_by (v := .tuple #[.agg #[.int .i64 0, .int .i64 0], .int .i64 4]) ?_ rfl ⟨by rw [unhide HP], unhide P2⟩
          refine results_cb (p := 2) (u := 3) (ty := 52) ?_ _ _ (w.heap.size + 1) _ ?_ (unhide P1) _ ?_ <;> rfl
    · have ha0 : ¬ ((A.length : Int) = 0) := by have := List.length_pos_iff.2 ha; omega
      by_cases hb : B = []
      · subst hb
        have HQ : Hid (Cu.lens A = r) := hide (by rw [← unhide HR]; unfold Cu.sizeE; rw [if_neg (fun h => ha h.1), if_pos rfl])
        have hap := List.length_pos_iff.2 ha
        obtain ⟨a0, had⟩ : ∃ a, A.headD [] = a := ⟨_, rfl⟩
        have hA0 : A[0]? = some a0 := by
          cases A with
          | nil => exact absurd rfl ha
          | cons y r => rw [← had]; rfl
        have has := (unhide HBA).1 a0 (List.mem_of_getElem? hA0)
        have hal := (unhide HBA).2
        obtain ⟨gA, cA', hvA, _⟩ := own_form (unhide OA) hap
        cases hvA
        have z0 := row_at (unhide OA) 0 a0 hA0
        obtain ⟨q, hq⟩ : ∃ q, mk a0 = q := ⟨_, rfl⟩
        have hqa : q.data.toList = a0 := by rw [← hq]; simp [mk]
        have hqs : q.size ≤ 1099511627776 := by rw [← len_data, hqa]; exact has
        rw [hq] at z0
        have HC := hide (fun W => ref_number_any q 10 9 W (by unfold maxLen; omega) (by omega) (by omega) (by omega))
        rw [hqa] at HC
        rcases hab : Num.ans 10 9 a0 with ⟨n, e⟩
        rw [hab] at HC
        have he4 := ans_err hab
        have HLN : Hid (r = if (∀ x ∈ A, x = a0) then (if e ≠ 0 then (0, 0, e) else (2, n, 0)) else (0, 0, 4)) := hide (by
          rw [← unhide HQ]; unfold Cu.lens; rw [had, hab])
        have HAB := hide hab
        have HHD := hide had
        have HQA := hide hqa
        have HQQ := hide hq
        have HA0 := hide hA0
        clear hab had hqa hq hA0 HQ
        dsimp only at HC
        go_wp2_with fail
        refine ((unhide HC) _).mono ?_; rintro e1 wx ⟨rfl, rfl⟩
        go_wp2_with fail
        go_loopw [7, 8] (fun v i wr => ∃ k : Nat, i = .int .i64 k ∧ k ≤ A.length ∧ v = .int .i64 (erk A a0 e k) ∧ Below wx.heap.size wx wr) (fun _ i _ => A.length - (intOf i).toNat)
        case atStart => exact ⟨0, rfl, Nat.zero_le _, by rw [erk_zero], Below.refl _ _⟩
        case round =>
          obtain ⟨k, rfl, hk, rfl, hbel⟩ := hrel
          have HBL := hide hbel
          have z0' := cell_below z0 (by have := (unhide OA).lt gA rfl; exact this.2) hbel
          clear hbel
          obtain ⟨ek, hek⟩ : ∃ z, erk A a0 e k = z := ⟨_, rfl⟩
          rw [hek]
          have HEK := hide hek
          clear hek
          by_cases hlt : k < A.length
          · obtain ⟨x', hx'⟩ : ∃ x, A[k]? = some x := ⟨A[k], List.getElem?_eq_getElem hlt⟩
            have z1 := cell_below (row_at (unhide OA) k x' hx') (by have := (unhide OA).lt gA rfl; exact this.2) (unhide HBL)
            obtain ⟨y', hy'⟩ : ∃ y, mk x' = y := ⟨_, rfl⟩
            have hyx : y'.data.toList = x' := by rw [← hy']; simp [mk]
            rw [hy'] at z1
            have hlt' : (k : Int) < A.length := by omega
            by_cases hxa : x' = a0
            · have hyq : y' = q := eq_of_lists (by rw [hyx, unhide HQA, hxa])
              have HS : Hid (erk A a0 e (k + 1) = ek) := hide (by rw [erk_yes hx' hxa, unhide HEK])
              have hbq := eq_t hyq
              clear hx' hy' hyx hxa hyq z0
              go_wp2_with fail
              go_quiet (fail)
              go_wp2_with fail
              exact ⟨⟨k + 1, by go_num, by omega, by rw [unhide HS], Go.below_drewN (unhide HBL) _⟩, by simp [intOf]; omega⟩
            · have hbq := str_f (show y' ≠ q from fun e => hxa (by rw [← hyx, ← unhide HQA, e]))
              have HS : Hid (erk A a0 e (k + 1) = 4) := hide (erk_no hx' hxa)
              clear hx' hy' hyx hxa z0
              go_wp2_with fail
              go_quiet (fail)
              go_wp2_with fail
              exact ⟨⟨k + 1, by go_num, by omega, by rw [unhide HS], Go.below_drewN (unhide HBL) _⟩, by simp [intOf]; omega⟩
          · obtain rfl : k = A.length := by omega
            have hfin : r = if ek ≠ 0 then (0, 0, 4) else (2, n, 0) := by
              rw [unhide HLN, ← unhide HEK]; exact erk_all he4
            have X5 := hide ((unhide X1).below (unhide HBL))
            have BW5 := hide (bel_trans (unhide BW) (unhide HBL))
            clear y0 y1 g0 g1 z0 z0'
            obtain ⟨y0, y1⟩ := (unhide X5).cells
            obtain ⟨g0, g1⟩ := (unhide X5).frozen
            by_cases hz : ek = 0
            · subst hz
              have HP : Hid (r = (2, n, 0)) := hide (by rw [hfin, if_neg (by decide)])
              have P1 := hide ((unhide X5).loaded 2 n)
              have P2 := hide ((unhide HDN) _ _ _ (unhide X5) (unhide BW5) 2 n)
              clear hfin
              go_wp2_with fail
              (try simp only [Exit.inBlock, Exit.then])
              refine bodyPost_ret_by (v := .tuple #[.agg #[.int .i64 2, .int .i64 n], .int .i64 0]) ?_ rfl ⟨by rw [unhide HP], unhide P2⟩
              refine results_cb (p := 2) (u := 3) (ty := 52) ?_ _ _ (w.heap.size + 1) _ ?_ (unhide P1) _ ?_ <;> rfl
            · have HP : Hid (r = (0, 0, 4)) := hide (by rw [hfin, if_pos hz])
              have P1 := hide ((unhide X5).loaded 0 0)
              have P2 := hide ((unhide HDN) _ _ _ (unhide X5) (unhide BW5) 0 0)
              clear hfin
              go_wp2_with fail
              (try simp only [Exit.inBlock, Exit.then])
              refine bodyPost_ret_by (v := .tuple #[.agg #[.int .i64 0, .int .i64 0], .int .i64 4]) ?_ rfl ⟨by rw [unhide HP], unhide P2⟩
              refine results_cb (p := 2) (u := 3) (ty := 52) ?_ _ _ (w.heap.size + 1) _ ?_ (unhide P1) _ ?_ <;> rfl
      · have hb0 : ¬ ((B.length : Int) = 0) := by have := List.length_pos_iff.2 hb; omega
        have hbg : (B.length : Int) > 0 := by have := List.length_pos_iff.2 hb; omega
        have HP : Hid (r = (0, 0, 4)) := hide (by rw [← unhide HR]; unfold Cu.sizeE; rw [if_neg (fun h => ha h.1), if_neg hb, if_neg ha])
        have P1 := hide ((unhide X1).loaded 0 0)
        have P2 := hide ((unhide HDN) _ _ _ (unhide X1) (unhide BW) 0 0)
        go_wp2_with fail
        (try simp only [Exit.inBlock, Exit.then])
        refine bodyPost_ret_by (v := .tuple #[.agg #[.int .i64 0, .int .i64 0], .int .i64 4]) ?_ rfl ⟨by rw [unhide HP], unhide P2⟩
        refine results_cb (p := 2) (u := 3) (ty := 52) ?_ _ _ (w.heap.size + 1) _ ?_ (unhide P1) _ ?_ <;> rfl
  )
end Go.Proofs.YtmgealcolofomaaDoor
