/- Walks: how long a body is, the program's: ofLengths, ofCodings. -/
import Derived.Test.YtmgealcolofomaaDoorTx
import Derived.Test.YtmgealcolofomaaDoorWb
import Derived.Test.YtmgealcolofomaaDoorMe
namespace Go.Proofs.YtmgealcolofomaaDoor
open Go.RowKit Kb
set_option linter.unusedVariables false
set_option maxRecDepth 20000

namespace Cu
abbrev L8' := List UInt8
/-- by the fields that tell a length -/
def lens (l : List L8') : Int × Int × Int :=
  if (∀ x ∈ l, x = l.headD []) then (if (Num.ans 10 9 (l.headD [])).2 ≠ 0 then (0, 0, (Num.ans 10 9 (l.headD [])).2) else (2, (Num.ans 10 9 (l.headD [])).1, 0)) else (0, 0, 4)
def chunkedT : L8' := [99, 104, 117, 110, 107, 101, 100]
def cods (l : List L8') : Int × Int × Int := if l.length = 1 ∧ lower (l.headD []) = chunkedT then (3, 0, 0) else (0, 0, 4)
/-- how long a body is, by the values of the two fields -/
def sizeE (a b : List L8') : Int × Int × Int :=
  if a = [] ∧ b = [] then (1, 0, 0) else if b = [] then lens a else if a = [] then cods b else (0, 0, 4)
theorem lens_no {l : List L8'} {x : L8'} (h : x ∈ l) (hx : x ≠ l.headD []) : lens l = (0, 0, 4) := if_neg (fun e => hx (e x h))
end Cu
theorem row_at {w : World} {B : Nat} {g c : Nat} {l : List (List UInt8)} (h : w.ownsRow B 9 1 (.slice (some ⟨g, 0, none⟩) l.length c) l.length (cellsS l)) (j : Nat) (x : List UInt8) (hj : l[j]? = some x) : w.cell? ⟨g, j, none⟩ = some (.string (mk x)) := by
  have hj2 : j < l.length := (List.getElem?_eq_some_iff.1 hj).1
  have := h.cellAt j (by omega)
  rw [this, cellsS, List.getElem?_map, hj]; rfl
set_option maxHeartbeats 4000000 in
theorem ofLengths_any (v : Value) (l : List (List UInt8)) (B : Nat) (w : World) (h : w.ownsRow B 9 1 v l.length (cellsS l)) (hne : l ≠ []) (hs : ∀ x ∈ l, x.length ≤ 1099511627776) (hl : l.length ≤ 1099511627776) (o : Int × Int × Int) (ho : Cu.lens l = o) :
    Calls Tryd.prog 47 #[v] w fun e w' => e = .returned (.tuple #[.agg #[.int .i64 o.1, .int .i64 o.2.1], .int .i64 o.2.2]) ∧ Below w.heap.size w w' := by
  obtain ⟨g, c, rfl, hc⟩ := own_form h (List.length_pos_iff.2 hne)
  obtain ⟨a, hd⟩ : ∃ a, l.headD [] = a := ⟨_, rfl⟩
  have h0 : l[0]? = some a := by
    cases l with
    | nil => exact absurd rfl hne
    | cons y r => rw [← hd]; rfl
  have hg := (h.lt g rfl).2
  have RW := hide h
  have hpos := List.length_pos_iff.2 hne
  have HS := hide hs
  have HO := hide ho
  have HD := hide hd
  clear h ho hs hd
  have has := (unhide HS) a (List.mem_of_getElem? h0)
  have X0 := hide (BX.new (base := w.heap.size) w (Nat.le_refl _) 0 0)
  have B0 := hide ((Below.refl w.heap.size w).alloc (Nat.le_refl _) (.cells #[.int .i64 0, .int .i64 0] 52))
  obtain ⟨W0, hW0⟩ : ∃ W0, w.alloc (.cells #[.int .i64 0, .int .i64 0] 52) = W0 := ⟨_, rfl⟩
  rw [hW0] at X0 B0
  have ROW := hide (own_below (unhide RW) (unhide B0))
  have z0 := row_at (unhide ROW) 0 a h0
  have done : ∀ x' y' : Int, Below w.heap.size w (putB W0 w.heap.size x' y') := fun x' y' => (unhide B0).grown ((unhide X0).put x' y').2 (unhide B0).size (fun q hq => by have := Option.some.inj hq; omega)
  obtain ⟨p0, p1⟩ := (unhide X0).cells
  obtain ⟨f0, f1⟩ := (unhide X0).frozen
  have DN := hide done
  clear done h0 hne
  obtain ⟨q, hq⟩ : ∃ q, mk a = q := ⟨_, rfl⟩
  have hqa : q.data.toList = a := by rw [← hq]; simp [mk]
  have hqs : q.size ≤ 1099511627776 := by rw [← len_data, hqa]; exact has
  rw [hq] at z0
  go_enter Tryd.func47, Tryd.ntmps47
  go_wp2_with fail
  clear hW0
  go_loop [10] (fun i => ∃ k : Nat, i = .int .i64 k ∧ k ≤ l.length ∧ ∀ x ∈ l.take k, x = a) (fun i => l.length - (intOf i).toNat)
  case atStart => exact ⟨0, rfl, Nat.zero_le _, by simp⟩
  case round =>
    obtain ⟨k, rfl, hk, hall⟩ := hrel
    have HA := hide hall
    clear hall
    by_cases hlt : k < l.length
    · obtain ⟨x, hx⟩ : ∃ x, l[k]? = some x := ⟨l[k], List.getElem?_eq_getElem hlt⟩
      have z1 := row_at (unhide ROW) k x hx
      obtain ⟨y, hy⟩ : ∃ y, mk x = y := ⟨_, rfl⟩
      have hyx : y.data.toList = x := by rw [← hy]; simp [mk]
      rw [hy] at z1
      by_cases hxa : x = a
      · have hyq : y = q := eq_of_lists (by rw [hyx, hqa, hxa])
        have HN : Hid (∀ z ∈ l.take (k + 1), z = a) := hide (by
          rw [List.take_add_one, hx]
          intro z hz
          rcases List.mem_append.1 hz with hz | hz
          · exact (unhide HA) z hz
          · simp at hz; rw [hz, hxa])
        clear hx hy hyx hxa hq hqa
        subst hyq
        go_wp2_with fail
        go_round
        case rel => exact ⟨k + 1, by go_num, by omega, unhide HN⟩
        case measure => simp [intOf]; omega
      · have hyq := str_f (show y ≠ q from fun e => hxa (by rw [← hyx, ← hqa, e]))
        have HP : Hid ((0, 0, 4) = o) := hide (by rw [← unhide HO, Cu.lens_no (List.mem_of_getElem? hx) (by rw [unhide HD]; exact hxa)])
        have P1 := hide ((unhide X0).loaded 0 0)
        have P2 := hide ((unhide DN) 0 0)
        clear hx hy hyx hxa hq hqa
        go_wp2_with fail
        (try simp only [Exit.inBlock, Exit.then])
        refine bodyPost_ret_by (v := .tuple #[.agg #[.int .i64 0, .int .i64 0], .int .i64 4]) ?_ rfl ⟨by rw [← unhide HP], unhide P2⟩
        refine results_cb (p := 2) (u := 3) (ty := 52) ?_ _ _ w.heap.size _ ?_ (unhide P1) _ ?_ <;> rfl
    · obtain rfl : k = l.length := by omega
      have HC := hide (fun W => dec_any q W (by unfold maxLen; omega))
      rw [hqa] at HC
      have hlen : Cu.lens l = (if (Num.ans 10 9 a).2 ≠ 0 then (0, 0, (Num.ans 10 9 a).2) else (2, (Num.ans 10 9 a).1, 0)) := by
        unfold Cu.lens
        rw [unhide HD, if_pos (by have := unhide HA; rwa [List.take_length] at this)]
      rw [unhide HO] at hlen
      rcases hab : Num.ans 10 9 a with ⟨n, e⟩
      rw [hab] at HC hlen
      dsimp only at HC hlen
      by_cases he : e = 0
      · subst he
        have HP : Hid (o = (2, n, 0)) := hide (by rw [hlen, if_neg (by decide)])
        have P1 := hide ((unhide X0).loaded 2 n)
        have P2 := hide ((unhide DN) 2 n)
        clear hq hqa hlen hab
        go_wp2_with fail
        refine ((unhide HC) _).mono ?_; rintro e wx ⟨rfl, rfl⟩
        go_wp2_with fail
        (try simp only [Exit.inBlock, Exit.then])
        refine bodyPost_ret_by (v := .tuple #[.agg #[.int .i64 2, .int .i64 n], .int .i64 0]) ?_ rfl ⟨by rw [unhide HP], unhide P2⟩
        refine results_cb (p := 2) (u := 3) (ty := 52) ?_ _ _ w.heap.size _ ?_ (unhide P1) _ ?_ <;> rfl
      · have HP : Hid (o = (0, 0, e)) := hide (by rw [hlen, if_pos he])
        have P1 := hide ((unhide X0).loaded 0 0)
        have P2 := hide ((unhide DN) 0 0)
        clear hq hqa hlen hab
        go_wp2_with fail
        refine ((unhide HC) _).mono ?_; rintro e1 wx ⟨rfl, rfl⟩
        go_wp2_with fail
        (try simp only [Exit.inBlock, Exit.then])
        refine bodyPost_ret_by (v := .tuple #[.agg #[.int .i64 0, .int .i64 0], .int .i64 e]) ?_ rfl ⟨by rw [unhide HP], unhide P2⟩
        refine results_cb (p := 2) (u := 3) (ty := 52) ?_ _ _ w.heap.size _ ?_ (unhide P1) _ ?_ <;> rfl
set_option maxHeartbeats 4000000 in
theorem ofCodings_any (v : Value) (l : List (List UInt8)) (B : Nat) (w : World) (h : w.ownsRow B 9 1 v l.length (cellsS l)) (hne : l ≠ []) (hs : ∀ x ∈ l, x.length ≤ 1099511627776) (hl : l.length ≤ 1099511627776) (o : Int × Int × Int) (ho : Cu.cods l = o) :
    Calls Tryd.prog 48 #[v] w fun e w' => e = .returned (.tuple #[.agg #[.int .i64 o.1, .int .i64 o.2.1], .int .i64 o.2.2]) ∧ Below w.heap.size w w' := by
  obtain ⟨g, c, rfl, hc⟩ := own_form h (List.length_pos_iff.2 hne)
  obtain ⟨a, hd⟩ : ∃ a, l.headD [] = a := ⟨_, rfl⟩
  have h0 : l[0]? = some a := by
    cases l with
    | nil => exact absurd rfl hne
    | cons y r => rw [← hd]; rfl
  have hg := (h.lt g rfl).2
  have RW := hide h
  have hpos := List.length_pos_iff.2 hne
  have has := hs a (List.mem_of_getElem? h0)
  unfold Cu.cods at ho
  rw [hd] at ho
  have HO := hide ho
  clear h ho hs hd
  have X0 := hide (BX.new (base := w.heap.size) w (Nat.le_refl _) 0 0)
  have B0 := hide ((Below.refl w.heap.size w).alloc (Nat.le_refl _) (.cells #[.int .i64 0, .int .i64 0] 52))
  obtain ⟨W0, hW0⟩ : ∃ W0, w.alloc (.cells #[.int .i64 0, .int .i64 0] 52) = W0 := ⟨_, rfl⟩
  rw [hW0] at X0 B0
  have ROW := hide (own_below (unhide RW) (unhide B0))
  have z0 := row_at (unhide ROW) 0 a h0
  have HDN : Hid (∀ (W : World), BX W w.heap.size w.heap.size 0 0 → Below w.heap.size w W → ∀ x' y' : Int, Below w.heap.size w (putB W w.heap.size x' y')) := hide (fun W hx hB x' y' => hB.grown (hx.put x' y').2 hB.size (fun q hq => by have := Option.some.inj hq; omega))
  clear h0 hne
  obtain ⟨q, hq⟩ : ∃ q, mk a = q := ⟨_, rfl⟩
  have hqa : q.data.toList = a := by rw [← hq]; simp [mk]
  have hqs : q.size ≤ 1099511627776 := by rw [← len_data, hqa]; exact has
  rw [hq] at z0
  obtain ⟨n, hn⟩ : ∃ n, l.length = n := ⟨_, rfl⟩
  rw [hn] at hpos hl hc HO ⊢
  by_cases h1 : n = 1
  · subst h1
    have HL := hide (fun W => lower_any q W (by omega))
    rw [hqa] at HL
    obtain ⟨p, hp⟩ := ex_list (lower a)
    rw [back_list p _ hp] at HL
    rw [← hp] at HO
    by_cases h2 : p.data.toList = Cu.chunkedT
    · have HP : Hid (o = (3, 0, 0)) := hide (by rw [← unhide HO, if_pos ⟨rfl, h2⟩])
      have e2 : (p.toList == [99, 104, 117, 110, 107, 101, 100]) = true := by rw [Lib.toList_data, h2]; rfl
      clear hn hp h2 hq hqa HO
      obtain ⟨f0, f1⟩ := (unhide X0).frozen
      go_enter Tryd.func48, Tryd.ntmps48
      go_wp2_with fail
      clear hW0
      refine ((unhide HL) W0).mono ?_; rintro e w1 ⟨rfl, b1⟩
      have X1 := (unhide X0).below b1
      have P1 := hide (X1.loaded 3 0)
      have P2 := hide ((unhide HDN) w1 X1 (bel_trans (unhide B0) b1) 3 0)
      obtain ⟨y0, y1⟩ := X1.cells
      obtain ⟨g0, g1⟩ := X1.frozen
      clear b1 X1
      go_wp2_with fail
      (try simp only [Exit.inBlock, Exit.then])
      refine bodyPost_ret_by (v := .tuple #[.agg #[.int .i64 3, .int .i64 0], .int .i64 0]) ?_ rfl ⟨by rw [unhide HP], unhide P2⟩
      refine results_cb (p := 2) (u := 3) (ty := 52) ?_ _ _ w.heap.size _ ?_ (unhide P1) _ ?_ <;> rfl
    · have HP : Hid (o = (0, 0, 4)) := hide (by rw [← unhide HO, if_neg (fun h => h2 h.2)])
      have e2 : (p.toList == [99, 104, 117, 110, 107, 101, 100]) = false := str_fl (fun e => h2 (by rw [e]; rfl))
      clear hn hp h2 hq hqa HO
      obtain ⟨f0, f1⟩ := (unhide X0).frozen
      go_enter Tryd.func48, Tryd.ntmps48
      go_wp2_with fail
      clear hW0
      refine ((unhide HL) W0).mono ?_; rintro e w1 ⟨rfl, b1⟩
      have X1 := (unhide X0).below b1
      have P1 := hide (X1.loaded 0 0)
      have P2 := hide ((unhide HDN) w1 X1 (bel_trans (unhide B0) b1) 0 0)
      obtain ⟨y0, y1⟩ := X1.cells
      obtain ⟨g0, g1⟩ := X1.frozen
      clear b1 X1
      go_wp2_with fail
      (try simp only [Exit.inBlock, Exit.then])
      refine bodyPost_ret_by (v := .tuple #[.agg #[.int .i64 0, .int .i64 0], .int .i64 4]) ?_ rfl ⟨by rw [unhide HP], unhide P2⟩
      refine results_cb (p := 2) (u := 3) (ty := 52) ?_ _ _ w.heap.size _ ?_ (unhide P1) _ ?_ <;> rfl
  · have HP : Hid (o = (0, 0, 4)) := hide (by rw [← unhide HO, if_neg (fun h => h1 h.1)])
    obtain ⟨y0, y1⟩ := (unhide X0).cells
    obtain ⟨g0, g1⟩ := (unhide X0).frozen
    have P1 := hide ((unhide X0).loaded 0 0)
    have P2 := hide ((unhide HDN) W0 (unhide X0) (unhide B0) 0 0)
    clear hn hq hqa HO
    go_enter Tryd.func48, Tryd.ntmps48
    go_wp2_with fail
    (try simp only [Exit.inBlock, Exit.then])
    refine bodyPost_ret_by (v := .tuple #[.agg #[.int .i64 0, .int .i64 0], .int .i64 4]) ?_ rfl ⟨by rw [unhide HP], unhide P2⟩
    refine results_cb (p := 2) (u := 3) (ty := 52) ?_ _ _ w.heap.size _ ?_ (unhide P1) _ ?_ <;> rfl
end Go.Proofs.YtmgealcolofomaaDoor
