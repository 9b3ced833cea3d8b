/- Walks: a head's text is read (the program's); are two heads the same? -/
import Derived.Test.YtmgealcolofomaaGreatDoorMl
namespace Go.Proofs.YtmgealcolofomaaGreatDoor
open Go.RowKit Kb
set_option linter.unusedVariables false
set_option maxRecDepth 20000
open Mh (Fl)

namespace Mh
theorem first_bounds {l : L8} {p : Fl} (h : firstOf l = some p) : p.1.length ≤ l.length ∧ p.2.length ≤ l.length := by
  unfold firstOf at h
  split at h
  · rename_i hc
    cases h
    have hm : ∀ (i : Nat), i < 3 → ((Cs.cut 32 l)[i]?.getD []).length ≤ l.length := fun i hi => by
      have hl : i < (Cs.cut 32 l).length := by rw [hc.1]; exact hi
      rw [List.getElem?_eq_getElem hl, Option.getD_some]
      have := pc_mem_len (t := [32]) (by simp) l (Cs.cut 32 l)[i] (by rw [pc_one]; exact List.getElem_mem hl)
      exact this
    exact ⟨hm 0 (by omega), hm 1 (by omega)⟩
  · cases h
theorem field_bounds {l : L8} {p : Fl} (h : fieldOf l = some p) : p.1.length ≤ l.length ∧ p.2.length ≤ l.length := by
  unfold fieldOf at h
  split at h
  · cases h
    have := cut_len l [58]
    exact ⟨this.1, Nat.le_trans (trim_len _) this.2⟩
  · cases h
theorem fields_bounds (n : Nat) : ∀ (L : List L8) (acc fs : List Fl), fieldsOf acc L = some fs → (∀ p ∈ L, p.length ≤ n) → (∀ f ∈ acc, f.1.length ≤ n ∧ f.2.length ≤ n) → fs.length = acc.length + L.length ∧ ∀ f ∈ fs, f.1.length ≤ n ∧ f.2.length ≤ n
  | [], acc, fs, h, _, ha => by
    rw [fieldsOf] at h
    cases h; exact ⟨rfl, ha⟩
  | l :: r, acc, fs, h, hl, ha => by
    rw [fieldsOf] at h
    cases hf : fieldOf l with
    | none => rw [hf] at h; cases h
    | some f =>
      rw [hf] at h
      have hb := field_bounds hf
      have hln := hl l (by simp)
      obtain ⟨h1, h2⟩ := fields_bounds n r (acc ++ [f]) fs h (fun p hp => hl p (List.mem_cons_of_mem _ hp)) (fun x hx => by
        rcases List.mem_append.1 hx with h | h
        · exact ha x h
        · have : x = f := by simpa using h
          rw [this]; omega)
      refine ⟨?_, h2⟩
      rw [h1, List.length_append, List.length_cons]; simp; omega
theorem read_bounds {s m t : L8} {fs : List Fl} (h : readH s = some (m, t, fs)) : m.length ≤ s.length ∧ t.length ≤ s.length ∧ fs.length ≤ s.length ∧ ∀ f ∈ fs, f.1.length ≤ s.length ∧ f.2.length ≤ s.length := by
  unfold readH at h
  split at h
  · have hn : (s.take (s.length - 4)).length ≤ s.length := by rw [List.length_take]; omega
    have hm : ∀ p ∈ pc crlf (s.take (s.length - 4)), p.length ≤ s.length := fun p hp => Nat.le_trans (pc_mem_len crlf_ne _ p hp) hn
    have hl := pc_len crlf_ne (s.take (s.length - 4))
    obtain ⟨x, r, hx⟩ := List.exists_cons_of_ne_nil (pc_ne crlf (s.take (s.length - 4)) crlf_ne)
    unfold readL at h
    rw [hx] at h hm hl
    split at h
    · cases h
    · rw [List.head?_cons, Option.getD_some, List.tail_cons] at h
      cases h1 : firstOf x with
      | none => rw [h1] at h; cases h
      | some q =>
        rw [h1] at h
        dsimp only at h
        cases h2 : fieldsOf [] r with
        | none => rw [h2] at h; cases h
        | some fs' =>
          rw [h2] at h
          dsimp only at h
          have h3 := Option.some.inj h
          injection h3 with e1 e2; injection e2 with e2 e3
          subst e1 e2 e3
          have hb := first_bounds h1
          have hxl := hm x (by simp)
          obtain ⟨g1, g2⟩ := fields_bounds s.length r [] fs' h2 (fun p hp => hm p (List.mem_cons_of_mem _ hp)) (by simp)
          rw [List.length_cons] at hl
          exact ⟨by omega, by omega, by rw [g1]; simp; omega, g2⟩
  · cases h
end Mh
set_option maxHeartbeats 4000000 in
theorem hparse_any (s : ByteArray) (m : Int) (w : World) (hs : s.size ≤ 1048576) (hm : MH m w) (a b : List UInt8) (fs : List Fl) (z : Int) (hp : Mh.parse s.data.toList = (a, b, fs, z)) :
    Calls Tryz.prog 29 #[.string s] w fun e w' => ∃ v, e = .returned (.tuple #[.agg #[.string (mk a), .string (mk b), v], .int .i64 z]) ∧ w'.ownsRow w.heap.size 39 2 v fs.length (cellsF fs) ∧ Below w.heap.size w w' := by
  have HR := hide (fun W (hW : MH m W) => read_any s m W hs hW _ rfl)
  unfold Mh.parse at hp
  rw [len_data] at hp
  have X0 := hide (HX.new (base := w.heap.size) w (Nat.le_refl _) ⟨#[]⟩ ⟨#[]⟩ none 0 0)
  have b0 := (Below.refl w.heap.size w).alloc (Nat.le_refl _) (.cells #[.string ⟨#[]⟩, .string ⟨#[]⟩, .slice none 0 0] 24)
  have HM0 := hide (hm.below b0)
  have B0 := hide b0
  have hwW : w.heap.size < (w.alloc (.cells #[.string ⟨#[]⟩, .string ⟨#[]⟩, .slice none 0 0] 24)).heap.size := by simp
  obtain ⟨W0, hW0⟩ : ∃ W0, w.alloc (.cells #[.string ⟨#[]⟩, .string ⟨#[]⟩, .slice none 0 0] 24) = W0 := ⟨_, rfl⟩
  rw [hW0] at X0 B0 HM0 hwW
  have HZ : Hid (∀ (W : World) (a b : ByteArray) (v : Value), HX W w.heap.size w.heap.size a b v → Below w.heap.size w W → (loadVar 24 ⟨w.heap.size, 0, none⟩).run Tryz.prog (putH W w.heap.size ⟨#[]⟩ ⟨#[]⟩ (.slice none 0 0)) = .ok (.agg #[.string ⟨#[]⟩, .string ⟨#[]⟩, .slice none 0 0]) (putH W w.heap.size ⟨#[]⟩ ⟨#[]⟩ (.slice none 0 0)) ∧ (putH W w.heap.size ⟨#[]⟩ ⟨#[]⟩ (.slice none 0 0)).ownsRow w.heap.size 39 2 (.slice none 0 0) 0 [] ∧ Below w.heap.size w (putH W w.heap.size ⟨#[]⟩ ⟨#[]⟩ (.slice none 0 0))) :=
    hide (fun W a b v hX hB => ⟨hX.loaded _ _ none 0 0, World.ownsRow_nil _ _ _ _, hB.grown (hX.put _ _ _ rfl).2 hB.size (fun q hq => by have := Option.some.inj hq; omega)⟩)
  have HZE : Hid (∀ y : Int, (([] : List UInt8), ([] : List UInt8), ([] : List Fl), y) = (a, b, fs, z) → mk a = ⟨#[]⟩ ∧ mk b = ⟨#[]⟩ ∧ fs.length = 0 ∧ cellsF fs = [] ∧ z = y) := hide (fun y e => by
    injection e with e1 e2; injection e2 with e2 e3; injection e3 with e3 e4
    subst e1 e2 e3 e4; exact ⟨rfl, rfl, rfl, rfl, rfl⟩)
  have HP := hide hp
  clear b0 hm hp
  by_cases hbig : 4096 < s.size
  · have HEE := hide ((unhide HZE) 5 (by have := unhide HP; rw [if_pos hbig] at this; exact this))
    have hbig' : (4096 : Int) < s.size := by omega
    obtain ⟨y0, y1, y2⟩ := (unhide X0).cells
    obtain ⟨f0, f1, f2⟩ := (unhide X0).frozen
    have P1 := hide ((unhide HZ) W0 _ _ _ (unhide X0) (unhide B0))
    clear HP HZ HZE
    go_enter Tryz.func29, Tryz.ntmps29
    go_wp2_with fail
    (try simp only [Exit.inBlock, Exit.then])
    refine bodyPost_ret_by (v := .tuple #[.agg #[.string ⟨#[]⟩, .string ⟨#[]⟩, .slice none 0 0], .int .i64 5]) ?_ rfl ⟨.slice none 0 0, by rw [(unhide HEE).1, (unhide HEE).2.1, (unhide HEE).2.2.2.2], by rw [(unhide HEE).2.2.1, (unhide HEE).2.2.2.1]; exact (unhide P1).2.1, (unhide P1).2.2⟩
    refine results_ct (p := 2) (u := 3) (ty := 24) ?_ _ _ w.heap.size _ ?_ (unhide P1).1 _ ?_ <;> rfl
  · have hbig' : ¬ (4096 : Int) < s.size := by omega
    have HBD : Hid (∀ h, Mh.readH s.data.toList = some h → h.1.length + h.2.1.length ≤ 68719476736 ∧ h.2.2.length ≤ 4398046511104 ∧ ∀ f ∈ h.2.2, f.1.length + f.2.length ≤ 68719476736) := hide (fun h e => by
      obtain ⟨h1, h2, h3⟩ := h
      obtain ⟨g1, g2, g3, g4⟩ := Mh.read_bounds e
      rw [len_data] at g1 g2 g3 g4
      exact ⟨by dsimp only; omega, by dsimp only; omega, fun f hf => by have := g4 f hf; omega⟩)
    have hp := unhide HP
    rw [if_neg hbig] at hp
    obtain ⟨o, ho⟩ : ∃ o, Mh.readH s.data.toList = o := ⟨_, rfl⟩
    rw [ho] at HR HBD hp
    clear ho HP
    have HP2 := hide hp
    clear hp
    go_enter Tryz.func29, Tryz.ntmps29
    go_wp2_with fail
    clear hW0
    refine ((unhide HR) W0 (unhide HM0)).mono ?_; rintro e w1 ⟨v, rfl, own1, b1⟩
    obtain ⟨vo, vc, rfl⟩ := own_forms own1
    have B1 := hide (bel_trans (unhide B0) b1)
    have X1 := hide ((unhide X0).below b1)
    have O1 := hide own1
    clear b1 own1 B0 X0 HM0 HR
    have HFL : Hid (Flds w1 (.slice vo (hfOf o).length vc) (hfOf o) ∨ o = none) := hide (by
      cases o with
      | none => exact .inr rfl
      | some h => exact .inl (Flds.own (unhide O1) ((unhide HBD) h rfl).2.1))
    have HCK : Hid (∀ h, o = some h → ∀ W, Below w1.heap.size w1 W → Calls Tryz.prog 23 #[headV (hmOf o) (htOf o) (.slice vo (hfOf o).length vc)] W fun e w' => e = .returned (.int .i64 (Mh.check (hmOf o) (htOf o) (hfOf o))) ∧ Below W.heap.size W w') := hide (fun h e W b => by
      have hbd := (unhide HBD) h e
      rcases unhide HFL with hf | hf
      · subst e
        exact hcheck_any _ _ _ _ W (hf.below b) hbd.1 hbd.2.2
      · rw [hf] at e; cases e)
    have HP3 : Hid ((o = none → (([] : List UInt8), ([] : List UInt8), ([] : List Fl), (4 : Int)) = (a, b, fs, z)) ∧ (∀ h, o = some h → (if Mh.check (hmOf o) (htOf o) (hfOf o) = 0 then (hmOf o, htOf o, hfOf o, (0 : Int)) else ([], [], [], Mh.check (hmOf o) (htOf o) (hfOf o))) = (a, b, fs, z))) := hide (by
      refine ⟨fun e => by subst e; exact unhide HP2, fun h e => by subst e; exact unhide HP2⟩)
    clear HP2 HBD HFL
    unfold headV at HCK
    obtain ⟨n, hn⟩ : ∃ n, (hfOf o).length = n := ⟨_, rfl⟩
    obtain ⟨x, hx⟩ : ∃ x, mk (hmOf o) = x := ⟨_, rfl⟩
    obtain ⟨y, hy⟩ : ∃ y, mk (htOf o) = y := ⟨_, rfl⟩
    rw [hx, hy, hn] at HCK
    rw [hn] at O1
    have HXY : Hid (mk (hmOf o) = x ∧ mk (htOf o) = y ∧ (hfOf o).length = n) := hide ⟨hx, hy, hn⟩
    rw [hx, hy, hn]
    have Y := HX.new (base := w1.heap.size) w1 (Nat.le_refl _) x y vo n vc
    have bb := (Below.refl w1.heap.size w1).alloc (Nat.le_refl _) (.cells #[.string x, .string y, .slice vo n vc] 24)
    have hgX : w.heap.size < w1.heap.size := (unhide X1).lt.2
    obtain ⟨g4, hg4⟩ : ∃ g, w1.heap.size = g := ⟨_, rfl⟩
    obtain ⟨W2, hW2⟩ : ∃ W, w1.alloc (.cells #[.string x, .string y, .slice vo n vc] 24) = W := ⟨_, rfl⟩
    have B2 := hide (bel_trans (unhide B1) bb)
    have X2 := hide ((unhide X1).below bb)
    have O2 := hide (own_below (unhide O1) bb)
    rw [hW2] at Y bb B2 X2 O2
    have BB := hide bb
    rw [hg4] at Y hgX
    obtain ⟨v0, v1, v2⟩ := Y.cells
    have hl4 := Y.lt.2
    clear bb Y B1 X1 O1 hx hy hn
    cases hoo : o with
    | none =>
      have HEE := hide ((unhide HZE) 4 ((unhide HP3).1 hoo))
      obtain ⟨y0, y1, y2⟩ := (unhide X2).cells
      obtain ⟨f0, f1, f2⟩ := (unhide X2).frozen
      have P1 := hide ((unhide HZ) W2 _ _ _ (unhide X2) (unhide B2))
      clear HP3 HZ HZE HCK HXY hoo
      go_wp2_with fail
      (try simp only [Exit.inBlock, Exit.then])
      refine bodyPost_ret_by (v := .tuple #[.agg #[.string ⟨#[]⟩, .string ⟨#[]⟩, .slice none 0 0], .int .i64 4]) ?_ rfl ⟨.slice none 0 0, by rw [(unhide HEE).1, (unhide HEE).2.1, (unhide HEE).2.2.2.2], by rw [(unhide HEE).2.2.1, (unhide HEE).2.2.2.1]; exact (unhide P1).2.1, (unhide P1).2.2⟩
      refine results_ct (p := 2) (u := 3) (ty := 24) ?_ _ _ w.heap.size _ ?_ (unhide P1).1 _ ?_ <;> rfl
    | some h =>
      have HC := hide ((unhide HCK) h hoo W2 (unhide BB))
      have HP4 := hide ((unhide HP3).2 h hoo)
      obtain ⟨q, hq⟩ : ∃ q, Mh.check (hmOf o) (htOf o) (hfOf o) = q := ⟨_, rfl⟩
      rw [hq] at HC HP4
      clear HP3 HCK hoo hq
      go_wp2_with fail
      clear hW2 hg4
      refine (unhide HC).mono ?_; rintro e w3 ⟨rfl, b3⟩
      have B3 := hide (bel_trans (unhide B2) b3)
      have X3 := hide ((unhide X2).below b3)
      have O3 := hide (own_below (unhide O2) b3)
      have u0 := cell_below v0 hl4 b3
      have u1 := cell_below v1 hl4 b3
      have u2 := cell_below v2 hl4 b3
      have hl43 : g4 < w3.heap.size := Nat.lt_of_lt_of_le hl4 b3.size
      clear b3 B2 X2 O2 HC v0 v1 v2
      obtain ⟨y0, y1, y2⟩ := (unhide X3).cells
      obtain ⟨f0, f1, f2⟩ := (unhide X3).frozen
      by_cases h0 : q = 0
      · have HEE : Hid (mk a = x ∧ mk b = y ∧ fs = hfOf o ∧ z = 0) := hide (by
          have := unhide HP4
          rw [if_pos h0] at this
          injection this with e1 e2; injection e2 with e2 e3; injection e3 with e3 e4
          exact ⟨by rw [← e1]; exact (unhide HXY).1, by rw [← e2]; exact (unhide HXY).2.1, e3.symm, e4.symm⟩)
        have hqb : (q != 0) = false := by rw [h0]; rfl
        have P1 := hide ((unhide X3).loaded x y vo n vc)
        have PK := ((unhide X3).put x y (.slice vo n vc) rfl).2
        have P2 := hide ((unhide B3).grown PK (unhide B3).size (fun q hq => by have := Option.some.inj hq; omega))
        have P3 := hide (World.ownsRow.kept (unhide O3) PK (.inr (fun e => by have := ((unhide O3).lt w.heap.size e).1; omega)))
        have HNB : Hid (w.heap.size ≤ W0.heap.size ∧ (hfOf o).length = n) := hide ⟨by omega, (unhide HXY).2.2⟩
        clear HP4 HXY HZ HZE PK h0
        go_wp2_with fail
        (try simp only [Exit.inBlock, Exit.then])
        refine bodyPost_ret_by (v := .tuple #[.agg #[.string x, .string y, .slice vo n vc], .int .i64 0]) ?_ rfl ⟨.slice vo n vc, by rw [(unhide HEE).1, (unhide HEE).2.1, (unhide HEE).2.2.2], by rw [(unhide HEE).2.2.1, (unhide HNB).2]; exact own_mono2 (unhide P3) (unhide HNB).1, unhide P2⟩
        refine results_ct (p := 2) (u := 3) (ty := 24) ?_ _ _ w.heap.size _ ?_ (unhide P1) _ ?_ <;> rfl
      · have HEE := hide ((unhide HZE) q (by have := unhide HP4; rw [if_neg h0] at this; exact this))
        have hqb : (q != 0) = true := by simpa using h0
        have P1 := hide ((unhide HZ) w3 _ _ _ (unhide X3) (unhide B3))
        clear HP4 HZ HZE HXY h0
        go_wp2_with fail
        (try simp only [Exit.inBlock, Exit.then])
        refine bodyPost_ret_by (v := .tuple #[.agg #[.string ⟨#[]⟩, .string ⟨#[]⟩, .slice none 0 0], .int .i64 q]) ?_ rfl ⟨.slice none 0 0, by rw [(unhide HEE).1, (unhide HEE).2.1, (unhide HEE).2.2.2.2], by rw [(unhide HEE).2.2.1, (unhide HEE).2.2.2.1]; exact (unhide P1).2.1, (unhide P1).2.2⟩
        refine results_ct (p := 2) (u := 3) (ty := 24) ?_ _ _ w.heap.size _ ?_ (unhide P1).1 _ ?_ <;> rfl
set_option maxHeartbeats 4000000 in
theorem equal_flds (w : World) (v u : Value) (l : List Fl) (h1 : Flds w v l) (h2 : Flds w u l) :
    Calls Tryz.prog 11 #[v, u] w fun e w' => e = .returned (.bool true) ∧ Below w.heap.size w w' := by
  obtain ⟨o1, c1, rfl, _⟩ := h1.form
  obtain ⟨o2, c2, rfl, _⟩ := h2.form
  have hroom := h1.room
  have H1 := hide h1
  have H2 := hide h2
  clear h1 h2
  go_enter Tryz.func11, Tryz.ntmps11
  go_wp2_with fail
  go_loopw [13] (fun x wr => ∃ j : Nat, x = .int .i64 j ∧ j ≤ l.length ∧ Below w.heap.size w wr) (fun x _ => l.length - (intOf x).toNat)
  case atStart => exact ⟨0, rfl, Nat.zero_le _, Below.refl _ _⟩
  case round =>
    obtain ⟨j, rfl, hj, hb⟩ := hrel
    have HB := hide hb
    clear hb
    by_cases hlt : j < l.length
    · obtain ⟨x, hx⟩ : ∃ x, l[j]? = some x := ⟨l[j], List.getElem?_eq_getElem hlt⟩
      have hne : l ≠ [] := by intro e; rw [e] at hlt; cases hlt
      obtain ⟨g1, off1, cc1, he1, hg1, hc1⟩ := ((unhide H1).below (unhide HB)).at_ hne
      obtain ⟨g2, off2, cc2, he2, hg2, hc2⟩ := ((unhide H2).below (unhide HB)).at_ hne
      cases he1
      cases he2
      obtain ⟨a0, a1⟩ := hc1 j x hx
      obtain ⟨b0, b1⟩ := hc2 j x hx
      obtain ⟨p, hp⟩ : ∃ p, mk x.1 = p := ⟨_, rfl⟩
      obtain ⟨q, hq⟩ : ∃ q, mk x.2 = q := ⟨_, rfl⟩
      rw [hp] at a0 b0
      rw [hq] at a1 b1
      have hI : (j : Int) < l.length := by omega
      clear hx hp hq hc1 hc2
      go_wp2_with fail
      go_quiet (fail)
      go_wp2
      exact ⟨⟨j + 1, by go_num, by omega, Go.below_drewN (unhide HB) _⟩, by simp [intOf]; omega⟩
    · obtain rfl : j = l.length := by omega
      go_wp2
      go_ret
      exact ⟨rfl, unhide HB⟩
set_option maxHeartbeats 4000000 in
theorem same_any (m t : List UInt8) (v u : Value) (fs : List Fl) (w : World) (h1 : Flds w v fs) (h2 : Flds w u fs) :
    Calls Tryz.prog 12 #[headV m t v, headV m t u] w fun e w' => e = .returned (.bool true) ∧ Below w.heap.size w w' := by
  unfold headV
  have HE := hide (fun W (b : Below w.heap.size w W) => equal_flds W v u fs (h1.below b) (h2.below b))
  obtain ⟨o1, c1, rfl, _⟩ := h1.form
  obtain ⟨o2, c2, rfl, _⟩ := h2.form
  clear h1 h2
  obtain ⟨x, hx⟩ : ∃ x, mk m = x := ⟨_, rfl⟩
  obtain ⟨y, hy⟩ : ∃ y, mk t = y := ⟨_, rfl⟩
  rw [hx, hy]
  clear hx hy
  have X1 := HX.new (base := w.heap.size) w (Nat.le_refl _) x y o1 fs.length c1
  have bb1 := (Below.refl w.heap.size w).alloc (Nat.le_refl _) (.cells #[.string x, .string y, .slice o1 fs.length c1] 24)
  obtain ⟨W1, hW1⟩ : ∃ W, w.alloc (.cells #[.string x, .string y, .slice o1 fs.length c1] 24) = W := ⟨_, rfl⟩
  rw [hW1] at X1 bb1
  have X2 := HX.new (base := W1.heap.size) W1 (Nat.le_refl _) x y o2 fs.length c2
  have bb2 := (Below.refl W1.heap.size W1).alloc (Nat.le_refl _) (.cells #[.string x, .string y, .slice o2 fs.length c2] 24)
  obtain ⟨g2, hg2⟩ : ∃ g, W1.heap.size = g := ⟨_, rfl⟩
  obtain ⟨W2, hW2⟩ : ∃ W, W1.alloc (.cells #[.string x, .string y, .slice o2 fs.length c2] 24) = W := ⟨_, rfl⟩
  have Y1 := X1.below bb2
  rw [hW2] at X2 bb2 Y1
  have B2 := hide (bel_trans bb1 bb2)
  rw [hg2] at X2
  obtain ⟨a0, a1, a2⟩ := Y1.cells
  obtain ⟨b0, b1, b2⟩ := X2.cells
  clear X1 X2 Y1 bb1 bb2
  go_enter Tryz.func12, Tryz.ntmps12
  go_wp2_with fail
  clear hW1 hW2 hg2
  refine ((unhide HE) W2 (unhide B2)).mono ?_; rintro e w3 ⟨rfl, b3⟩
  go_wp2_with fail
  go_ret
  exact ⟨rfl, bel_trans (unhide B2) b3⟩
end Go.Proofs.YtmgealcolofomaaGreatDoor
