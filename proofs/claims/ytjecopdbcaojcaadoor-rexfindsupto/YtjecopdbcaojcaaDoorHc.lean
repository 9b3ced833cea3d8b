/- What is wrong with an expression: the document's look. -/
import Derived.Test.YtjecopdbcaojcaaDoorHa
import Derived.Lib.BufferOwn
import Derived.Lib.HexFns2
namespace Go.Proofs.YtjecopdbcaojcaaDoor
open Go.RowKit Kb
set_option linter.unusedVariables false
set_option maxRecDepth 20000

def wantK (k : Int) : Int := if k = 4 ∨ k = 5 then 2 else if k = 6 then 1 else 0
def noSet : Se := ⟨0, 0, 0, 0⟩
/-- a node by itself is wrong -/
def badN (k : Int) (s : Se) (n : Nat) : Prop := k < 1 ∨ k > 8 ∨ (n : Int) ≠ wantK k ∨ (decide (s ≠ noSet) ≠ decide (k = 3))
instance (k : Int) (s : Se) (n : Nat) : Decidable (badN k s n) := by unfold badN; infer_instance
mutual
/-- how many nodes were counted, and what is wrong -/
def lookR : Rx → Nat → Nat → Nat × Int
  | .mk k s ks, deep, n => if 80 < n + 1 then (n + 1, 2) else if 20 < deep then (n + 1, 11) else if badN k s ks.length then (n + 1, 1) else lookL ks (deep + 1) (n + 1)
def lookL : List Rx → Nat → Nat → Nat × Int
  | [], _, n => (n, 0)
  | x :: xs, deep, n => if (lookR x deep n).2 ≠ 0 then lookR x deep n else lookL xs deep (lookR x deep n).1
end
/-- what is wrong with an expression -/
def chkR (r : Rx) : Int := (lookR r 1 0).2
theorem store_func {P : Program} (w : World) (a : Addr) (m : Mode) (f : Fn) (x y : Array Value) : (store a (.func f x y) m).run P w = stored P w a (.func f x y) m := run_store P w a _ m rfl
theorem own_base' {w : World} {B B' e size n : Nat} {v : Value} {xs : List Value} (h : w.ownsRow B e size v n xs) (hB : B' ≤ B) : w.ownsRow B' e size v n xs := by
  refine ⟨h.1, ?_⟩
  rcases h.2 with h1 | ⟨g, cap, cur, h1, h2, h3⟩
  · exact .inl h1
  · exact .inr ⟨g, cap, cur, h1, by omega, h3⟩
/-- a number in a block of its own -/
def Num1 (w : World) (B nb : Nat) (n : Int) : Prop := w.ownsRow B 3 1 (.slice (some ⟨nb, 0, none⟩) 1 1) 1 (cellsZ [n])
theorem num1_new (w : World) (n : Int) {B : Nat} (hB : B ≤ w.heap.size) : Num1 (w.alloc (.cells #[.int .i64 n] 3)) B w.heap.size n :=
  own_base' (World.ownsRow_lit w #[.int .i64 n] 1 (Nat.le_refl _) (by unfold maxLen; omega) rfl) hB
def clo (nb lb : Nat) : Value := .func (.func 23) #[] #[.pointer (some ⟨nb, 0, none⟩), .pointer (some ⟨lb, 0, none⟩)]
theorem Num1.cell {w : World} {B nb : Nat} {n : Int} (h : Num1 w B nb n) : w.cell? ⟨nb, 0, none⟩ = some (.int .i64 n) := by
  have := World.ownsRow.cellAt h 0 (by omega); simpa [cellsZ] using this
theorem Num1.lt {w : World} {B nb : Nat} {n : Int} (h : Num1 w B nb n) : B ≤ nb ∧ nb < w.heap.size := World.ownsRow.lt h nb rfl
theorem Num1.set {w : World} {B nb : Nat} {n : Int} (h : Num1 w B nb n) (m : Int) : Num1 (w.setCell ⟨nb, 0, none⟩ (.int .i64 m)) B nb m ∧ w.grownBy (w.setCell ⟨nb, 0, none⟩ (.int .i64 m)) (some nb) := World.ownsRow.stored h 0 (.int .i64 m)
theorem Num1.alloc {w : World} {B nb : Nat} {n : Int} (h : Num1 w B nb n) (o : Obj) : Num1 (w.alloc o) B nb n := World.ownsRow.alloc h o
theorem Num1.drew {w : World} {B nb : Nat} {n : Int} (h : Num1 w B nb n) : Num1 w.drew B nb n := World.ownsRow.drew h
theorem grown_drew (w : World) (row : Option Nat) : w.grownBy w.drew row := ⟨rfl, rfl, rfl, Nat.le_refl _, fun _ _ _ => rfl⟩
theorem below_of {w0 w w' : World} {nb : Nat} (h : Below w0.heap.size w0 w) (g : w.grownBy w' (some nb)) (hn : w0.heap.size ≤ nb) : Below w0.heap.size w0 w' := h.grown g h.size (fun q hq => by cases hq; exact hn)
set_option maxHeartbeats 3000000 in
theorem look_any (w0 : World) (nb lb : Nat) (hlb : w0.heap.size ≤ lb) (hne : lb ≠ nb) (r : Rx) : ∀ (v : Value) (deep n : Nat) (W : World), RexV w0 v r → Below w0.heap.size w0 W → Num1 W w0.heap.size nb n → W.cell? ⟨lb, 0, none⟩ = some (clo nb lb) → n ≤ 80 → deep ≤ 21 →
    Calls Tryd.prog 23 #[v, .int .i64 deep, .pointer (some ⟨nb, 0, none⟩), .pointer (some ⟨lb, 0, none⟩)] W fun e W' => e = .returned (.int .i64 (lookR r deep n).2) ∧ W.grownBy W' (some nb) ∧ Num1 W' w0.heap.size nb (lookR r deep n).1 ∧ ((lookR r deep n).2 = 0 → (lookR r deep n).1 ≤ 80) := by
  induction r using Rx.ind with
  | h k s ks ih =>
    intro v deep n W hV hB hN hL hn hd
    obtain ⟨e, rfl, hk⟩ := hV.val
    obtain ⟨o, c, rfl, _⟩ := hk.form
    have hf := hV.fit
    have hroom := hk.room
    obtain ⟨s1, s2, s3, s4⟩ := s
    have KD := hide hk
    have IH := hide ih
    have B := hide hB
    have NB := hide hN
    have heq := eqSet s1 s2 s3 s4 0 0 0 0
    unfold Fit at hf
    unfold rexV
    simp only [Rx.k, Rx.s, Rx.ks] at *
    have hc := hN.cell
    have hfz := World.ownsRow.frozenAt hN 0
    have hlt := hN.lt
    clear hk ih hB hN hV
    obtain ⟨res, hres⟩ : ∃ res, lookR (.mk k ⟨s1, s2, s3, s4⟩ ks) deep n = res := ⟨_, rfl⟩
    rw [hres]
    have HLR : Hid (res = if 80 < n + 1 then (n + 1, 2) else if 20 < deep then (n + 1, 11) else if badN k ⟨s1, s2, s3, s4⟩ ks.length then (n + 1, 1) else lookL ks (deep + 1) (n + 1)) := hide (by rw [← hres, lookR])
    clear hres
    obtain ⟨st, gt⟩ := (unhide NB).set ((n : Int) + 1)
    obtain ⟨P, hP⟩ : ∃ P, Obj.cells #[.int .i64 k, .int .u64 s1, .int .u64 s2, .int .u64 s3, .int .u64 s4, .slice o ks.length c] 27 = P := ⟨_, rfl⟩
    have N1 := hide (st.alloc P)
    have G1 := hide (Go.Lib.grownBy_allocR gt P)
    rw [← hP] at N1 G1
    clear st gt hP
    go_enter Tryd.func23, Tryd.ntmps23
    by_cases h80 : 80 < n + 1
    · have hI : (n : Int) + 1 > 80 := by omega
      rw [if_pos h80] at HLR
      go_wp2_with fail
      go_ret
      obtain rfl := unhide HLR
      exact ⟨rfl, unhide G1, unhide N1, fun h => by cases h⟩
    · have hI : ¬ ((n : Int) + 1 > 80) := by omega
      rw [if_neg h80] at HLR
      by_cases h20 : 20 < deep
      · have hJ : (deep : Int) > 20 := by omega
        rw [if_pos h20] at HLR
        go_wp2_with fail
        go_ret
        obtain rfl := unhide HLR
        exact ⟨rfl, unhide G1, unhide N1, fun h => by cases h⟩
      · have hJ : ¬ ((deep : Int) > 20) := by omega
        rw [if_neg h20] at HLR
        have HB : Hid (badN k ⟨s1, s2, s3, s4⟩ ks.length → res = (n + 1, 1)) := hide (fun h => by have := unhide HLR; rwa [if_pos h] at this)
        have HG : Hid (¬ badN k ⟨s1, s2, s3, s4⟩ ks.length → res = lookL ks (deep + 1) (n + 1)) := hide (fun h => by have := unhide HLR; rwa [if_neg h] at this)
        clear HLR
        have hcases : ∃ wv : Int, wantK k = wv ∧ ((((k == 4) = true ∨ (k == 4) = false ∧ (k == 5) = true) ∧ wv = 2) ∨ (((k == 4) = false ∧ (k == 5) = false ∧ (k == 6) = true) ∧ wv = 1) ∨ (((k == 4) = false ∧ (k == 5) = false ∧ (k == 6) = false) ∧ wv = 0)) := by
          unfold wantK
          simp only [beq_iff_eq, beq_eq_false_iff_ne, ne_eq]
          refine ⟨_, rfl, ?_⟩
          by_cases h4 : k = 4
          · left; exact ⟨.inl h4, by rw [if_pos (.inl h4)]⟩
          by_cases h5 : k = 5
          · left; exact ⟨.inr ⟨h4, h5⟩, by rw [if_pos (.inr h5)]⟩
          right
          rw [if_neg (fun h => h.elim h4 h5)]
          by_cases h6 : k = 6
          · left; exact ⟨⟨h4, h5, h6⟩, by rw [if_pos h6]⟩
          · right; exact ⟨⟨h4, h5, h6⟩, by rw [if_neg h6]⟩
        obtain ⟨wv, hwv, hcs⟩ := hcases
        have HBAD : Hid (badN k ⟨s1, s2, s3, s4⟩ ks.length ↔ (k < 1 ∨ k > 8 ∨ (ks.length : Int) ≠ wv ∨ ((!decide ((⟨s1, s2, s3, s4⟩ : Se) = ⟨0, 0, 0, 0⟩)) != (k == 3)) = true)) := hide (by
          unfold badN noSet
          rw [hwv]
          have : ((!decide ((⟨s1, s2, s3, s4⟩ : Se) = ⟨0, 0, 0, 0⟩)) != (k == 3)) = true ↔ decide ((⟨s1, s2, s3, s4⟩ : Se) ≠ ⟨0, 0, 0, 0⟩) ≠ decide (k = 3) := by
            by_cases h1 : (⟨s1, s2, s3, s4⟩ : Se) = ⟨0, 0, 0, 0⟩ <;> by_cases h2 : k = 3 <;> simp [h1, h2]
          rw [this])
        have hk3 : (k == 3) = true → (k == 4) = false ∧ (k == 5) = false ∧ (k == 6) = false := by
          intro h
          have : k = 3 := by simpa using h
          subst this; decide
        generalize hsb : decide ((⟨s1, s2, s3, s4⟩ : Se) = ⟨0, 0, 0, 0⟩) = sb at *
        generalize hkb : (k == 3) = kb at *
        clear hsb hwv
        rcases hcs with ⟨h4 | ⟨h4, h5⟩, hwv⟩ | ⟨⟨h4, h5, h6⟩, hwv⟩ | ⟨⟨h4, h5, h6⟩, hwv⟩
        all_goals (
          have HWV := hide hwv
          clear hwv
          by_cases hlo : k < 1
          · have HQ := hide ((unhide HB) ((unhide HBAD).2 (.inl hlo)))
            go_wp2_with fail
            go_ret
            obtain rfl := unhide HQ
            exact ⟨rfl, unhide G1, unhide N1, fun h => by cases h⟩
          by_cases hhi : k > 8
          · have HQ := hide ((unhide HB) ((unhide HBAD).2 (.inr (.inl hhi))))
            go_wp2_with fail
            go_ret
            obtain rfl := unhide HQ
            exact ⟨rfl, unhide G1, unhide N1, fun h => by cases h⟩
          by_cases hln : (ks.length : Int) = wv
          · by_cases hsk : ((!sb) != kb) = true
            · have HQ := hide ((unhide HB) ((unhide HBAD).2 (.inr (.inr (.inr hsk)))))
              have hlb' : ((ks.length : Int) != wv) = false := by rw [hln]; simp
              rw [unhide HWV] at hlb'
              cases sb <;> cases kb <;> first | (exfalso; revert hsk; decide) | skip
              all_goals (
                go_wp2_with fail
                go_ret
                obtain rfl := unhide HQ
                exact ⟨rfl, unhide G1, unhide N1, fun h => by cases h⟩)
            · have HQ := hide ((unhide HG) (fun h => by rcases (unhide HBAD).1 h with h | h | h | h; exact hlo h; exact hhi h; exact h hln; exact hsk h))
              have hlb' : ((ks.length : Int) != wv) = false := by rw [hln]; simp
              rw [unhide HWV] at hlb'
              have hkl : ks.length ≤ 2 := by have := unhide HWV; omega
              have HLN := hide hln
              clear HB HG HBAD hln
              cases sb <;> cases kb <;> first | (exfalso; revert hsk; decide) | (exfalso; have h3 := hk3 rfl; simp_all; done) | skip
              all_goals clear hk3
              all_goals (
                clear hsk
                go_wp2_with fail
                obtain ⟨W1, hW1⟩ : ∃ W1, (W.setCell ⟨nb, 0, none⟩ (.int .i64 ((n : Int) + 1))).alloc (.cells #[.int .i64 k, .int .u64 s1, .int .u64 s2, .int .u64 s3, .int .u64 s4, .slice o ks.length c] 27) = W1 := ⟨_, rfl⟩
                have hpk : W1.cell? ⟨W.heap.size, 5, none⟩ = some (.slice o ks.length c) := by
                  rw [← hW1, World.cell?_alloc_at _ _ _ _ (by simp)]; rfl
                have hpl : W.heap.size < W1.heap.size := by rw [← hW1]; simp
                rw [hW1] at N1 G1 ⊢
                have hlk : W1.cell? ⟨lb, 0, none⟩ = some (clo nb lb) := (unhide G1).cell hL (fun h => by cases h; exact hne rfl)
                have HPK := hide hpk
                have HLK := hide hlk
                clear hW1 hpk hlk hc hfz heq hL
                go_loopw [9] (fun x wr => ∃ i m : Nat, x = .int .i64 i ∧ i ≤ ks.length ∧ W1.grownBy wr (some nb) ∧ Num1 wr w0.heap.size nb m ∧ m ≤ 80 ∧ res = lookL (ks.drop i) (deep + 1) m) (fun x _ => ks.length - (intOf x).toNat)
                case atStart => exact ⟨0, n + 1, rfl, Nat.zero_le _, World.grownBy.refl _ _, by have := unhide N1; rwa [show ((n + 1 : Nat) : Int) = (n : Int) + 1 by omega], by omega, unhide HQ⟩
                case round =>
                  obtain ⟨i, m, rfl, hi, hg, hnm, hm80, hres⟩ := hrel
                  have G := hide hg
                  have NM := hide hnm
                  have RES := hide hres
                  have hpc := hg.cell (unhide HPK) (fun h => by have h1 := hlt.2; have h2 : W.heap.size = nb := Option.some.inj h; omega)
                  have hlc := hg.cell (unhide HLK) (fun h => by cases h; exact hne rfl)
                  have BR := hide (below_of (unhide B) (Go.Lib.grownBy_trans (unhide G1) hg) hlt.1)
                  clear hg hnm hres
                  by_cases hil : i < ks.length
                  · obtain ⟨x, hx⟩ : ∃ x, ks[i]? = some x := ⟨ks[i], List.getElem?_eq_getElem hil⟩
                    obtain ⟨g1, f1, d1, e1, he1, hg1, fx, a0, a1, a2, a3, a4, a5, kx⟩ := (unhide KD).at_ hx
                    have hgr : g1 < wr.heap.size := Nat.lt_of_lt_of_le hg1 (unhide BR).size
                    have a0 := cell_below a0 hg1 (unhide BR)
                    have a1 := cell_below a1 hg1 (unhide BR)
                    have a2 := cell_below a2 hg1 (unhide BR)
                    have a3 := cell_below a3 hg1 (unhide BR)
                    have a4 := cell_below a4 hg1 (unhide BR)
                    have a5 := cell_below a5 hg1 (unhide BR)
                    have hrec := (unhide IH) x (List.mem_of_getElem? hx) (rexV x e1) (deep + 1) m wr.drew ⟨⟨e1, rfl, kx⟩, fx⟩ (unhide BR).drew (unhide NM).drew hlc hm80 (by omega)
                    rw [show ((deep + 1 : Nat) : Int) = (deep : Int) + 1 by omega] at hrec
                    unfold rexV at hrec
                    have HDR : Hid (ks.drop i = x :: ks.drop (i + 1)) := hide (by
                      rw [List.drop_eq_getElem_cons hil, (List.getElem?_eq_some_iff.1 hx).2])
                    obtain ⟨pr, hpr⟩ : ∃ pr, lookR x (deep + 1) m = pr := ⟨_, rfl⟩
                    rw [hpr] at hrec
                    have HPR := hide hpr
                    have HR := hide hrec
                    obtain ⟨oe1, ce1, hfe1, _⟩ := kx.form
                    subst hfe1
                    clear hrec hpr kx fx hx
                    cases he1
                    have hiI : (i : Int) < ks.length := by omega
                    have hib : 0 ≤ (i : Int) ∧ (i : Int) < ks.length := by omega
                    obtain ⟨l1, hl1⟩ : ∃ l1, x.ks.length = l1 := ⟨_, rfl⟩
                    obtain ⟨x0, hx0⟩ : ∃ z, x.k = z := ⟨_, rfl⟩
                    obtain ⟨⟨x1, x2, x3, x4⟩, hx1⟩ : ∃ z, x.s = z := ⟨_, rfl⟩
                    rw [hl1] at a5
                    rw [hx0] at a0
                    rw [hx1] at a1 a2 a3 a4
                    rw [hl1, hx0, hx1] at HR
                    dsimp only at a1 a2 a3 a4 HR
                    clear hl1 hx0 hx1
                    unfold clo at hlc
                    have hwd : IntKind.i64.wrap ((deep : Int) + 1) = (deep : Int) + 1 := Kb.wr64 _ (by omega) (by omega)
                    go_wp2_with fail
                    go_region_with (go_at_call 23; refine (unhide HR).mono ?_; rintro e w3 ⟨rfl, hg3, hn3, h80⟩)
                    all_goals (
                      have G3 := hide (Go.Lib.grownBy_trans (unhide G) (Go.Lib.grownBy_trans (grown_drew wr _) hg3))
                      have N3 := hide hn3
                      have H80 := hide h80
                      clear hg3 hn3 h80
                      by_cases hp0 : pr.2 = 0
                      · have hm' := (unhide H80) hp0
                        have HRES : Hid (res = lookL (ks.drop (i + 1)) (deep + 1) pr.1) := hide (by
                          rw [unhide RES, unhide HDR, lookL, unhide HPR, if_neg (fun h => h hp0)])
                        have hb0 : (pr.2 != 0) = false := by rw [hp0]; rfl
                        clear hp0
                        go_wp2_with fail
                        exact ⟨⟨i + 1, pr.1, by go_num, by omega, unhide G3, unhide N3, hm', unhide HRES⟩, by simp [intOf]; omega⟩
                      · have HRES : Hid (res = pr) := hide (by
                          rw [unhide RES, unhide HDR, lookL, unhide HPR, if_pos hp0])
                        have hb0 : (pr.2 != 0) = true := by simp; exact hp0
                        go_wp2_with fail
                        go_ret
                        obtain rfl := unhide HRES
                        exact ⟨rfl, Go.Lib.grownBy_trans (unhide G1) (unhide G3), unhide N3, fun h => absurd h hp0⟩)
                  · obtain rfl : i = ks.length := by omega
                    have hr0 : res = (m, 0) := by rw [unhide RES, List.drop_length, lookL]
                    have HR0 := hide hr0
                    clear hr0
                    go_wp2_with fail
                    go_ret
                    obtain rfl := unhide HR0
                    exact ⟨rfl, Go.Lib.grownBy_trans (unhide G1) (unhide G), unhide NM, fun _ => hm80⟩)
          · have HQ := hide ((unhide HB) ((unhide HBAD).2 (.inr (.inr (.inl hln)))))
            have hlb' : ((ks.length : Int) != wv) = true := by simp; exact hln
            rw [unhide HWV] at hlb'
            go_wp2_with fail
            go_ret
            obtain rfl := unhide HQ
            exact ⟨rfl, unhide G1, unhide N1, fun h => by cases h⟩)
set_option maxHeartbeats 400000 in
theorem rexC_any (r : Rx) (v : Value) (w : World) (h : RexV w v r) :
    Calls Tryd.prog 8 #[v] w fun e w' => e = .returned (.int .i64 (chkR r)) ∧ Below w.heap.size w w' := by
  have HL := hide (fun W (h1 : Below w.heap.size w W) h2 h3 => look_any w (w.heap.size + 1) (w.heap.size + 1 + 1) (by omega) (by omega) r v 1 0 W h h1 h2 h3 (by omega) (by omega))
  obtain ⟨e, rfl, hk⟩ := h.val
  obtain ⟨o, c, rfl, _⟩ := hk.form
  clear hk h
  unfold rexV at *
  have hst := @store_func Tryd.prog
  go_enter Tryd.func8, Tryd.ntmps8
  go_wp2_with fail
  have b0 : Below w.heap.size w (((w.alloc (.cells #[.int .i64 r.k, .int .u64 r.s.a, .int .u64 r.s.b, .int .u64 r.s.c, .int .u64 r.s.d, .slice o r.ks.length c] 27)).alloc (.cells #[.int .i64 0] 3)).alloc (.cells #[clo (w.heap.size + 1) (w.heap.size + 1 + 1)] 58)) := (((Below.refl _ _).alloc (Nat.le_refl _) _).alloc (by simp) _).alloc (by simp; omega) _
  refine ((unhide HL) _ b0 ?_ ?_).mono ?_
  · have := num1_new (w.alloc (.cells #[.int .i64 r.k, .int .u64 r.s.a, .int .u64 r.s.b, .int .u64 r.s.c, .int .u64 r.s.d, .slice o r.ks.length c] 27)) 0 (B := w.heap.size) (by simp)
    rw [show (w.alloc (.cells #[.int .i64 r.k, .int .u64 r.s.a, .int .u64 r.s.b, .int .u64 r.s.c, .int .u64 r.s.d, .slice o r.ks.length c] 27)).heap.size = w.heap.size + 1 by simp] at this
    exact this.alloc _
  · rw [World.cell?_alloc_at _ _ _ _ (by simp)]; rfl
  · rintro e W' ⟨rfl, hg, _, _⟩
    have B3 := hide (below_of b0 hg (by omega))
    clear hg b0 HL
    go_wp2_with fail
    go_ret
    exact ⟨rfl, unhide B3⟩
end Go.Proofs.YtjecopdbcaojcaaDoor
