/- The program's reading of an item of a class. -/
import Derived.Test.YtjecopdbcaojcaaKh
namespace Go.Proofs.Ytjecopdbcaojcaa
open Go.RowKit Kb
set_option linter.unusedVariables false
set_option maxRecDepth 20000

theorem charR_le (s : ByteArray) (a : Nat) (ha : a ≤ s.size) : (charR s a).2 ≤ s.size ∧ (∀ m, (charR s a).1 = some m → m < 256) := by
  unfold charR
  by_cases h1 : pkB s a = 92
  · have l1 := pk_lt (s := s) (a := a) (by rw [h1]; decide)
    rw [if_pos h1]
    unfold escR
    by_cases h2 : pkB s (a + 1) = 120
    · have l2 := pk_lt (s := s) (a := a + 1) (by rw [h2]; decide)
      rw [if_pos h2]; exact hexR_le s (a + 1 + 1) (by omega)
    rw [if_neg h2]
    by_cases h3 : pkB s (a + 1) = 110
    · have l2 := pk_lt (s := s) (a := a + 1) (by rw [h3]; decide)
      rw [if_pos h3]; exact ⟨by show a + 1 + 1 ≤ _; omega, fun m h => by cases h; decide⟩
    rw [if_neg h3]
    by_cases h4 : pkB s (a + 1) = 116
    · have l2 := pk_lt (s := s) (a := a + 1) (by rw [h4]; decide)
      rw [if_pos h4]; exact ⟨by show a + 1 + 1 ≤ _; omega, fun m h => by cases h; decide⟩
    rw [if_neg h4]
    by_cases h5 : pkB s (a + 1) = 114
    · have l2 := pk_lt (s := s) (a := a + 1) (by rw [h5]; decide)
      rw [if_pos h5]; exact ⟨by show a + 1 + 1 ≤ _; omega, fun m h => by cases h; decide⟩
    rw [if_neg h5]
    by_cases h6 : has specs (pkB s (a + 1)) = true
    · have l2 := pk_lt (s := s) (a := a + 1) (fun e => by rw [e] at h6; exact absurd h6 (by decide))
      rw [if_pos h6]; exact ⟨by show a + 1 + 1 ≤ _; omega, fun m h => by cases h; exact (pkB s (a + 1)).toNat_lt⟩
    · rw [if_neg h6]; exact ⟨by show a + 1 ≤ _; omega, fun m h => by cases h⟩
  · rw [if_neg h1]
    by_cases h2 : plR (pkB s a) = true
    · have l1 := pk_lt (s := s) (a := a) (fun e => by rw [e] at h2; exact absurd h2 (by decide))
      rw [if_pos h2]; exact ⟨by show a + 1 ≤ _; omega, fun m h => by cases h; exact (pkB s a).toNat_lt⟩
    · rw [if_neg h2]; exact ⟨ha, fun m h => by cases h⟩
/-- an item: its bytes, or none, and where it leaves off -/
def itemR (s : ByteArray) (a : Nat) : Option (Nat → Bool) × Nat :=
  match clsP s a with
  | some p => (some p, a + 2)
  | none => match charR s a with
    | (none, b) => (none, b)
    | (some x, b) => if pkB s b = 45 then (match charR s (b + 1) with
        | (none, c) => (none, c)
        | (some y, c) => if y < x then (none, b + 1) else (some (betw x y), c)) else (some (fun j => decide (j = x)), b)
/-- what an item that is read, or not, answers -/
def ItemP (t : Se) (e : Int) (r : Option (Nat → Bool)) : Prop := (∀ p, r = some p → e = 0 ∧ ∀ j, j < 256 → bit t j = p j) ∧ (r = none → e = 3)
set_option maxHeartbeats 4000000 in
theorem item_any (w : World) (B g : Nat) (s : ByteArray) (a op : Nat) (h : Rd w B g s a op) (hs : s.size ≤ 100000) (ha : a ≤ s.size) :
    Calls Try.prog 60 #[.pointer (some ⟨g, 0, none⟩)] w fun e w' => ∃ (t : Se) (z : Int), e = .returned (.tuple #[setV t, .int .i64 z]) ∧ FitS t ∧ w.grownBy w' (some g) ∧ ItemP t z (itemR s a).1 ∧ Rd w' B g s (itemR s a).2 op := by
  have HCL := hide (fun W (r : Rd W B g s a op) => class_any W B g s a op r hs ha)
  have HCH := hide (fun W (r : Rd W B g s a op) => charR_any W B g s a op r hs ha)
  have hlt := h.lt
  have BA0 := hide (World.ownsRow_lit (e := 24) (size := 4) w #[.int .u64 0, .int .u64 0, .int .u64 0, .int .u64 0] 1 (Nat.le_refl w.heap.size) (by unfold maxLen; omega) rfl)
  have R0 := hide (h.below ((Below.refl _ w).alloc (Nat.le_refl _) (.cells #[.int .u64 0, .int .u64 0, .int .u64 0, .int .u64 0] 24)))
  have G0 := hide (World.grownBy_alloc w (.cells #[.int .u64 0, .int .u64 0, .int .u64 0, .int .u64 0] 24) (some g))
  have hne : w.heap.size ≠ g := by omega
  obtain ⟨res, hres⟩ : ∃ res, itemR s a = res := ⟨_, rfl⟩
  rw [hres]
  have HRES := hide hres
  clear hres h
  unfold setV at *
  go_enter Try.func60, Try.ntmps60
  go_wp2_with fail
  refine ((unhide HCL) _ (unhide R0)).mono ?_
  rintro e w1 ⟨t, ok, rfl, ft, g1, hcase⟩
  have BA1 := hide ((unhide BA0).kept g1 (.inr (by simp [Value.ownBlock]; exact hne)))
  have G1 := hide ((unhide G0).trans g1)
  have hw1 : w.heap.size < w1.heap.size := by have := g1.size; simp at this; omega
  clear HCL R0 BA0 G0 g1
  obtain ⟨t1, t2, t3, t4⟩ := t
  dsimp only
  rcases hcase with ⟨p, hp, rfl, hb, r1⟩ | ⟨hp, rfl, r1⟩
  · have HE : Hid (res = (some p, a + 2)) := hide (by rw [← unhide HRES]; unfold itemR; rw [hp])
    have HB := hide hb
    have R1 := hide (r1.below ((Below.refl _ w1).alloc (Nat.le_refl _) (.cells #[.int .u64 t1, .int .u64 t2, .int .u64 t3, .int .u64 t4] 24)))
    have BA2 := hide ((unhide BA1).alloc (.cells #[.int .u64 t1, .int .u64 t2, .int .u64 t3, .int .u64 t4] 24))
    have G2 := hide ((unhide G1).trans (World.grownBy_alloc w1 (.cells #[.int .u64 t1, .int .u64 t2, .int .u64 t3, .int .u64 t4] 24) (some g)))
    obtain ⟨W2, hW2⟩ : ∃ W2, w1.alloc (.cells #[.int .u64 t1, .int .u64 t2, .int .u64 t3, .int .u64 t4] 24) = W2 := ⟨_, rfl⟩
    have HC : Hid (∀ j x, (#[.int .u64 t1, .int .u64 t2, .int .u64 t3, .int .u64 t4] : Array Value)[j]? = some x → W2.cell? ⟨w1.heap.size, j, none⟩ = some x) := hide (fun j x h => by rw [← hW2, World.cell?_alloc_new]; exact h)
    rw [hW2] at R1 BA2 G2
    have c0 := (unhide HC) 0 _ rfl
    have c1 := (unhide HC) 1 _ rfl
    have c2 := (unhide HC) 2 _ rfl
    have c3 := (unhide HC) 3 _ rfl
    have y0 := (unhide BA2).cellAt 0 (by omega)
    have y1 := (unhide BA2).cellAt 1 (by omega)
    have y2 := (unhide BA2).cellAt 2 (by omega)
    have y3 := (unhide BA2).cellAt 3 (by omega)
    have f0 := (unhide BA2).frozenAt 0
    have f1 := (unhide BA2).frozenAt 1
    have f2 := (unhide BA2).frozenAt 2
    have f3 := (unhide BA2).frozenAt 3
    have FT := hide ft
    clear hp hb r1 HRES HCH ft HC
    go_wp2_with fail
    obtain ⟨v1, m1⟩ := (unhide BA2).stored 0 (.int .u64 t1)
    obtain ⟨v2, m2⟩ := v1.stored 1 (.int .u64 t2)
    obtain ⟨v3, m3⟩ := v2.stored 2 (.int .u64 t3)
    obtain ⟨v4, m4⟩ := v3.stored 3 (.int .u64 t4)
    have mm := ((m1.trans m2).trans m3).trans m4
    obtain ⟨fr, hh⟩ := own_one v4
    (try simp only [Exit.inBlock, Exit.then])
    obtain rfl := unhide HE
    refine bodyPost_ret_by (v := .tuple #[setV ⟨t1, t2, t3, t4⟩, .int .i64 0]) ?_ rfl ⟨_, _, rfl, unhide FT, World.grownBy.andThen (unhide G2) mm (fun j hj => by cases hj; exact .inl (Nat.le_refl _)), ⟨fun q hq => by cases hq; exact ⟨rfl, unhide HB⟩, fun h => by cases h⟩, World.ownsRow.kept (unhide R1) mm (.inr (by simp [Value.ownBlock]; omega))⟩
    exact results_ct (ty := 24) rfl _ _ w.heap.size _ rfl (load_set hh) _ rfl
  · have R1 := hide (r1.below ((Below.refl _ w1).alloc (Nat.le_refl _) (.cells #[.int .u64 t1, .int .u64 t2, .int .u64 t3, .int .u64 t4] 24)))
    have BA2 := hide ((unhide BA1).alloc (.cells #[.int .u64 t1, .int .u64 t2, .int .u64 t3, .int .u64 t4] 24))
    have G2 := hide ((unhide G1).trans (World.grownBy_alloc w1 (.cells #[.int .u64 t1, .int .u64 t2, .int .u64 t3, .int .u64 t4] 24) (some g)))
    obtain ⟨W2, hW2⟩ : ∃ W2, w1.alloc (.cells #[.int .u64 t1, .int .u64 t2, .int .u64 t3, .int .u64 t4] 24) = W2 := ⟨_, rfl⟩
    rw [hW2] at R1 BA2 G2
    have hle := charR_le s a ha
    obtain ⟨⟨o1, b1⟩, ho1⟩ : ∃ z, charR s a = z := ⟨_, rfl⟩
    rw [ho1] at HCH hle
    have HE0 : Hid (res = match (o1, b1) with | (none, b) => (none, b) | (some x, b) => if pkB s b = 45 then (match charR s (b + 1) with | (none, c) => (none, c) | (some y, c) => if y < x then (none, b + 1) else (some (betw x y), c)) else (some (fun j => decide (j = x)), b)) := hide (by rw [← unhide HRES]; unfold itemR; rw [hp, ho1])
    have HC1 := hide ((unhide HCH) W2 (unhide R1))
    have HON := hide (fun c (hc : c < 256) W => only_any c W hc)
    have HWI := hide (fun x y (hx : x < 256) (hy : y < 256) W => with_any ⟨0, 0, 0, 0⟩ x y W fit0 hx hy)
    clear hp r1 HRES HCH ft ho1
    unfold retB setV at *
    dsimp only at HC1 hle HWI
    cases o1 with
    | none =>
      have HE : Hid (res = (none, b1)) := HE0
      clear HE0
      have HO0 := hide (fun W => (unhide HON) 0 (by omega) W)
      go_wp2_with fail
      clear hW2
      refine (unhide HC1).mono ?_
      rintro e w3 ⟨rfl, g3, r3⟩
      have R3 := hide r3
      have G3 := hide ((unhide G2).trans g3)
      have BA3 := hide ((unhide BA2).kept g3 (.inr (by simp [Value.ownBlock]; exact hne)))
      clear g3 r3 HC1
      go_wp2_with fail
      refine ((unhide HO0) _).mono ?_
      rintro e w9 ⟨q, rfl, fq, hq, b9⟩
      have R9 := hide ((unhide R3).below b9)
      have G9 := hide ((unhide G3).trans (grown_below' b9 (some g)))
      have BA9 := hide (own_below (unhide BA3) b9)
      have FQ := hide fq
      have HQ := hide hq
      clear b9 fq hq
      obtain ⟨q1, q2, q3, q4⟩ := q
      dsimp only
      have y0 := (unhide BA9).cellAt 0 (by omega)
      have y1 := (unhide BA9).cellAt 1 (by omega)
      have y2 := (unhide BA9).cellAt 2 (by omega)
      have y3 := (unhide BA9).cellAt 3 (by omega)
      have f0 := (unhide BA9).frozenAt 0
      have f1 := (unhide BA9).frozenAt 1
      have f2 := (unhide BA9).frozenAt 2
      have f3 := (unhide BA9).frozenAt 3
      go_wp2_with fail
      obtain ⟨v1, m1⟩ := (unhide BA9).stored 0 (.int .u64 q1)
      obtain ⟨v2, m2⟩ := v1.stored 1 (.int .u64 q2)
      obtain ⟨v3, m3⟩ := v2.stored 2 (.int .u64 q3)
      obtain ⟨v4, m4⟩ := v3.stored 3 (.int .u64 q4)
      have mm := ((m1.trans m2).trans m3).trans m4
      obtain ⟨fr, hh⟩ := own_one v4
      (try simp only [Exit.inBlock, Exit.then])
      obtain rfl := unhide HE
      refine bodyPost_ret_by (v := .tuple #[setV ⟨q1, q2, q3, q4⟩, .int .i64 3]) ?_ rfl ⟨_, _, rfl, unhide FQ, World.grownBy.andThen (unhide G9) mm (fun j hj => by cases hj; exact .inl (Nat.le_refl _)), ⟨fun q hq => (by cases hq), fun _ => rfl⟩, World.ownsRow.kept (unhide R9) mm (.inr (by simp [Value.ownBlock]; omega))⟩
      exact results_ct (ty := 24) rfl _ _ w.heap.size _ rfl (load_set hh) _ rfl
    | some x =>
      have hx256 := hle.2 x rfl
      have hb1 := hle.1
      have HTK := hide (fun W (r : Rd W B g s b1 op) => take_any W B g s b1 op 45 r hs hb1)
      have HCH2 : Hid (∀ W, pkB s b1 = 45 → Rd W B g s (b1 + 1) op → Calls Try.prog 53 #[.pointer (some ⟨g, 0, none⟩)] W fun e w' => e = .returned (retB (charR s (b1 + 1)).1) ∧ W.grownBy w' (some g) ∧ Rd w' B g s (charR s (b1 + 1)).2 op) := hide (fun W he r => charR_any W B g s (b1 + 1) op r hs (by have := pk_lt (s := s) (a := b1) (by rw [he]; decide); omega))
      have HLE2 : Hid (pkB s b1 = 45 → ∀ m, (charR s (b1 + 1)).1 = some m → m < 256) := hide (fun he => (charR_le s (b1 + 1) (by have := pk_lt (s := s) (a := b1) (by rw [he]; decide); omega)).2)
      go_wp2_with fail
      clear hW2
      refine (unhide HC1).mono ?_
      rintro e w3 ⟨rfl, g3, r3⟩
      have HT3 := hide ((unhide HTK) w3 r3)
      have G3 := hide ((unhide G2).trans g3)
      have BA3 := hide ((unhide BA2).kept g3 (.inr (by simp [Value.ownBlock]; exact hne)))
      clear g3 r3 HC1 HTK
      by_cases h45 : pkB s b1 = 45
      · have HTA : Hid (tkA s b1 45 = b1 + 1) := hide (by unfold tkA; rw [if_pos h45])
        rw [unhide HTA, decide_eq_true h45] at HT3
        obtain ⟨⟨o2, c2⟩, ho2⟩ : ∃ z, charR s (b1 + 1) = z := ⟨_, rfl⟩
        have HE1 : Hid (res = match (o2, c2) with | (none, c) => (none, c) | (some y, c) => if y < x then (none, b1 + 1) else (some (betw x y), c)) := hide (by
          have := unhide HE0
          (try dsimp only at this)
          rw [if_pos h45, ho2] at this
          exact this)
        have HC2 := hide (fun W r => (unhide HCH2) W h45 r)
        have HL2 := (unhide HLE2) h45
        rw [ho2] at HC2 HL2
        clear HE0 HTA HCH2 HLE2 ho2 h45
        unfold retB at HC2
        dsimp only at HC2 HL2
        go_wp2_with fail
        refine (unhide HT3).mono ?_
        rintro e w4 ⟨rfl, g4, r4⟩
        have HC3 := hide ((unhide HC2) w4 r4)
        have G4 := hide ((unhide G3).trans g4)
        have BA4 := hide ((unhide BA3).kept g4 (.inr (by simp [Value.ownBlock]; exact hne)))
        obtain ⟨k0, k1, k2⟩ := r4.cells
        rw [show ((b1 + 1 : Nat) : Int) = (b1 : Int) + 1 by omega] at k1
        clear g4 r4 HC2 HT3
        cases o2 with
        | none =>
          have HE : Hid (res = (none, c2)) := HE1
          clear HE1
          have HW0 := hide (fun W => (unhide HWI) x 0 hx256 (by omega) W)
          go_wp2_with fail
          refine (unhide HC3).mono ?_
          rintro e w5 ⟨rfl, g5, r5⟩
          have R5 := hide r5
          have G5 := hide ((unhide G4).trans g5)
          have BA5 := hide ((unhide BA4).kept g5 (.inr (by simp [Value.ownBlock]; exact hne)))
          clear g5 r5 HC3 k0 k1 k2
          go_wp2_with fail
          refine ((unhide HW0) _).mono ?_
          rintro e w9 ⟨q, rfl, fq, hq, b9⟩
          have R9 := hide ((unhide R5).below b9)
          have G9 := hide ((unhide G5).trans (grown_below' b9 (some g)))
          have BA9 := hide (own_below (unhide BA5) b9)
          have FQ := hide fq
          have HQ := hide hq
          clear b9 fq hq
          obtain ⟨q1, q2, q3, q4⟩ := q
          dsimp only
          have y0 := (unhide BA9).cellAt 0 (by omega)
          have y1 := (unhide BA9).cellAt 1 (by omega)
          have y2 := (unhide BA9).cellAt 2 (by omega)
          have y3 := (unhide BA9).cellAt 3 (by omega)
          have f0 := (unhide BA9).frozenAt 0
          have f1 := (unhide BA9).frozenAt 1
          have f2 := (unhide BA9).frozenAt 2
          have f3 := (unhide BA9).frozenAt 3
          go_wp2_with fail
          obtain ⟨v1, m1⟩ := (unhide BA9).stored 0 (.int .u64 q1)
          obtain ⟨v2, m2⟩ := v1.stored 1 (.int .u64 q2)
          obtain ⟨v3, m3⟩ := v2.stored 2 (.int .u64 q3)
          obtain ⟨v4, m4⟩ := v3.stored 3 (.int .u64 q4)
          have mm := ((m1.trans m2).trans m3).trans m4
          obtain ⟨fr, hh⟩ := own_one v4
          (try simp only [Exit.inBlock, Exit.then])
          obtain rfl := unhide HE
          refine bodyPost_ret_by (v := .tuple #[setV ⟨q1, q2, q3, q4⟩, .int .i64 3]) ?_ rfl ⟨_, _, rfl, unhide FQ, World.grownBy.andThen (unhide G9) mm (fun j hj => by cases hj; exact .inl (Nat.le_refl _)), ⟨fun q hq => (by cases hq), fun _ => rfl⟩, World.ownsRow.kept (unhide R9) mm (.inr (by simp [Value.ownBlock]; omega))⟩
          exact results_ct (ty := 24) rfl _ _ w.heap.size _ rfl (load_set hh) _ rfl
        | some y =>
          have hy256 := HL2 y rfl
          have HW0 := hide (fun W => (unhide HWI) x y hx256 hy256 W)
          by_cases hyx : y < x
          · have HE : Hid (res = (none, b1 + 1)) := hide (by have := unhide HE1; dsimp only at this; rwa [if_pos hyx] at this)
            have hI : (x : Int) > y := by omega
            clear HE1
            go_wp2_with fail
            refine (unhide HC3).mono ?_
            rintro e w5 ⟨rfl, g5, r5⟩
            obtain ⟨l0, l1, l2⟩ := r5.cells
            have lf := r5.frozen 1
            obtain ⟨r6, g6⟩ := r5.setAt (b1 + 1)
            rw [show ((b1 + 1 : Nat) : Int) = (b1 : Int) + 1 by omega] at r6 g6
            have R6 := hide r6
            have G6 := hide (((unhide G4).trans g5).trans g6)
            have BA6 := hide (((unhide BA4).kept g5 (.inr (by simp [Value.ownBlock]; exact hne))).kept g6 (.inr (by simp [Value.ownBlock]; exact hne)))
            clear g5 r5 g6 r6 HC3 k0 k1 k2
            go_wp2_with fail
            refine ((unhide HW0) _).mono ?_
            rintro e w9 ⟨q, rfl, fq, hq, b9⟩
            have R9 := hide ((unhide R6).below b9)
            have G9 := hide ((unhide G6).trans (grown_below' b9 (some g)))
            have BA9 := hide (own_below (unhide BA6) b9)
            have FQ := hide fq
            have HQ := hide hq
            clear b9 fq hq
            obtain ⟨q1, q2, q3, q4⟩ := q
            dsimp only
            have y0 := (unhide BA9).cellAt 0 (by omega)
            have y1 := (unhide BA9).cellAt 1 (by omega)
            have y2 := (unhide BA9).cellAt 2 (by omega)
            have y3 := (unhide BA9).cellAt 3 (by omega)
            have f0 := (unhide BA9).frozenAt 0
            have f1 := (unhide BA9).frozenAt 1
            have f2 := (unhide BA9).frozenAt 2
            have f3 := (unhide BA9).frozenAt 3
            go_wp2_with fail
            obtain ⟨v1, m1⟩ := (unhide BA9).stored 0 (.int .u64 q1)
            obtain ⟨v2, m2⟩ := v1.stored 1 (.int .u64 q2)
            obtain ⟨v3, m3⟩ := v2.stored 2 (.int .u64 q3)
            obtain ⟨v4, m4⟩ := v3.stored 3 (.int .u64 q4)
            have mm := ((m1.trans m2).trans m3).trans m4
            obtain ⟨fr, hh⟩ := own_one v4
            (try simp only [Exit.inBlock, Exit.then])
            obtain rfl := unhide HE
            refine bodyPost_ret_by (v := .tuple #[setV ⟨q1, q2, q3, q4⟩, .int .i64 3]) ?_ rfl ⟨_, _, rfl, unhide FQ, World.grownBy.andThen (unhide G9) mm (fun j hj => by cases hj; exact .inl (Nat.le_refl _)), ⟨fun q hq => (by cases hq), fun _ => rfl⟩, World.ownsRow.kept (unhide R9) mm (.inr (by simp [Value.ownBlock]; omega))⟩
            exact results_ct (ty := 24) rfl _ _ w.heap.size _ rfl (load_set hh) _ rfl
          · have HE : Hid (res = (some (betw x y), c2)) := hide (by have := unhide HE1; dsimp only at this; rwa [if_neg hyx] at this)
            have hI : ¬ ((x : Int) > y) := by omega
            clear HE1
            go_wp2_with fail
            refine (unhide HC3).mono ?_
            rintro e w5 ⟨rfl, g5, r5⟩
            have R5 := hide r5
            have G5 := hide ((unhide G4).trans g5)
            have BA5 := hide ((unhide BA4).kept g5 (.inr (by simp [Value.ownBlock]; exact hne)))
            clear g5 r5 HC3 k0 k1 k2
            go_wp2_with fail
            refine ((unhide HW0) _).mono ?_
            rintro e w9 ⟨q, rfl, fq, hq, b9⟩
            have R9 := hide ((unhide R5).below b9)
            have G9 := hide ((unhide G5).trans (grown_below' b9 (some g)))
            have BA9 := hide (own_below (unhide BA5) b9)
            have FQ := hide fq
            have HQ := hide hq
            clear b9 fq hq
            obtain ⟨q1, q2, q3, q4⟩ := q
            dsimp only
            have y0 := (unhide BA9).cellAt 0 (by omega)
            have y1 := (unhide BA9).cellAt 1 (by omega)
            have y2 := (unhide BA9).cellAt 2 (by omega)
            have y3 := (unhide BA9).cellAt 3 (by omega)
            have f0 := (unhide BA9).frozenAt 0
            have f1 := (unhide BA9).frozenAt 1
            have f2 := (unhide BA9).frozenAt 2
            have f3 := (unhide BA9).frozenAt 3
            go_wp2_with fail
            obtain ⟨v1, m1⟩ := (unhide BA9).stored 0 (.int .u64 q1)
            obtain ⟨v2, m2⟩ := v1.stored 1 (.int .u64 q2)
            obtain ⟨v3, m3⟩ := v2.stored 2 (.int .u64 q3)
            obtain ⟨v4, m4⟩ := v3.stored 3 (.int .u64 q4)
            have mm := ((m1.trans m2).trans m3).trans m4
            obtain ⟨fr, hh⟩ := own_one v4
            (try simp only [Exit.inBlock, Exit.then])
            obtain rfl := unhide HE
            refine bodyPost_ret_by (v := .tuple #[setV ⟨q1, q2, q3, q4⟩, .int .i64 0]) ?_ rfl ⟨_, _, rfl, unhide FQ, World.grownBy.andThen (unhide G9) mm (fun j hj => by cases hj; exact .inl (Nat.le_refl _)), ⟨fun q hq => by cases hq; exact ⟨rfl, fun j hj => by rw [(unhide HQ) j hj, bit0, Bool.false_or]⟩, fun h => by cases h⟩, World.ownsRow.kept (unhide R9) mm (.inr (by simp [Value.ownBlock]; omega))⟩
            exact results_ct (ty := 24) rfl _ _ w.heap.size _ rfl (load_set hh) _ rfl
      · have HTA : Hid (tkA s b1 45 = b1) := hide (by unfold tkA; rw [if_neg h45])
        rw [unhide HTA, decide_eq_false h45] at HT3
        have HE : Hid (res = (some (fun j => decide (j = x)), b1)) := hide (by
          have := unhide HE0
          (try dsimp only at this)
          rwa [if_neg h45] at this)
        have HO0 := hide (fun W => (unhide HON) x hx256 W)
        clear HE0 HTA HCH2 HLE2 h45
        go_wp2_with fail
        refine (unhide HT3).mono ?_
        rintro e w4 ⟨rfl, g4, r4⟩
        have R4 := hide r4
        have G4 := hide ((unhide G3).trans g4)
        have BA4 := hide ((unhide BA3).kept g4 (.inr (by simp [Value.ownBlock]; exact hne)))
        clear g4 r4 HT3
        go_wp2_with fail
        refine ((unhide HO0) _).mono ?_
        rintro e w9 ⟨q, rfl, fq, hq, b9⟩
        have R9 := hide ((unhide R4).below b9)
        have G9 := hide ((unhide G4).trans (grown_below' b9 (some g)))
        have BA9 := hide (own_below (unhide BA4) b9)
        have FQ := hide fq
        have HQ := hide hq
        clear b9 fq hq
        obtain ⟨q1, q2, q3, q4⟩ := q
        dsimp only
        have y0 := (unhide BA9).cellAt 0 (by omega)
        have y1 := (unhide BA9).cellAt 1 (by omega)
        have y2 := (unhide BA9).cellAt 2 (by omega)
        have y3 := (unhide BA9).cellAt 3 (by omega)
        have f0 := (unhide BA9).frozenAt 0
        have f1 := (unhide BA9).frozenAt 1
        have f2 := (unhide BA9).frozenAt 2
        have f3 := (unhide BA9).frozenAt 3
        go_wp2_with fail
        obtain ⟨v1, m1⟩ := (unhide BA9).stored 0 (.int .u64 q1)
        obtain ⟨v2, m2⟩ := v1.stored 1 (.int .u64 q2)
        obtain ⟨v3, m3⟩ := v2.stored 2 (.int .u64 q3)
        obtain ⟨v4, m4⟩ := v3.stored 3 (.int .u64 q4)
        have mm := ((m1.trans m2).trans m3).trans m4
        obtain ⟨fr, hh⟩ := own_one v4
        (try simp only [Exit.inBlock, Exit.then])
        obtain rfl := unhide HE
        refine bodyPost_ret_by (v := .tuple #[setV ⟨q1, q2, q3, q4⟩, .int .i64 0]) ?_ rfl ⟨_, _, rfl, unhide FQ, World.grownBy.andThen (unhide G9) mm (fun j hj => by cases hj; exact .inl (Nat.le_refl _)), ⟨fun q hq => by cases hq; exact ⟨rfl, unhide HQ⟩, fun h => by cases h⟩, World.ownsRow.kept (unhide R9) mm (.inr (by simp [Value.ownBlock]; omega))⟩
        exact results_ct (ty := 24) rfl _ _ w.heap.size _ rfl (load_set hh) _ rfl
end Go.Proofs.Ytjecopdbcaojcaa
