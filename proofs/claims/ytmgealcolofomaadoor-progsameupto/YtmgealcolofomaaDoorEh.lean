/- Walks: the machine goes on at a place (step); is it done? -/
import Derived.Test.YtmgealcolofomaaDoorEg
namespace Go.Proofs.YtmgealcolofomaaDoor
open Go.RowKit Kb
set_option linter.unusedVariables false
set_option maxRecDepth 20000
theorem own_zero {w : World} {B e size n c : Nat} {o : Option Addr} {xs : List Value} (h : w.ownsRow B e size (.slice o n c) n xs) : w.ownsRow B e size (.slice o 0 c) 0 [] := by
  refine ⟨by simp, ?_⟩
  rcases h.2 with ⟨h1, h2⟩ | ⟨g, cap, cur, h1, h2, h3, h4, h5, h6, h7⟩
  · cases h1; exact .inl ⟨rfl, rfl⟩
  · cases h1; exact .inr ⟨g, _, cur, rfl, h2, h3, Nat.zero_le _, h5, h6, by simp⟩
theorem MX.swap {W0 w : World} {N : Nat} {pv : Value} {s : ByteArray} {st : Pm.St} {nl : List (Nat × Nat)} {no xo : Option Addr} {nc xc : Nat} (h : MX W0 w N pv s st (.slice no nl.length nc) nl (.slice xo st.next.length xc)) :
    MX W0 ((w.setCell ⟨N, 402, none⟩ (.slice xo st.next.length xc)).setCell ⟨N, 403, none⟩ (.slice no 0 nc)) N pv s { st with next := [] } (.slice xo st.next.length xc) st.next (.slice no 0 nc) := by
  obtain ⟨v0, m0⟩ := World.ownsRow.stored h.own 402 (.slice xo st.next.length xc)
  obtain ⟨v1, m1⟩ := v0.stored 403 (.slice no 0 nc)
  have m := m0.trans m1
  unfold mCells at v1
  rw [show (402 : Nat) = 402 + 0 from rfl, show (403 : Nat) = 402 + 1 from rfl, mCells_tail _ _ _ h.len, mCells_tail _ _ _ h.len] at v1
  have hN := h.lt
  have hb : ∀ o n c, (Value.slice o n c).ownBlock = (Value.slice o 0 c).ownBlock := fun o n c => by cases o <;> rfl
  refine ⟨h.bel.grown m h.bel.size (fun q hq => by have := Option.some.inj hq; omega), v1, h.len, World.ownsRow.kept h.next m (.inr h.nN.2), own_zero (World.ownsRow.kept h.now m (.inr h.nN.1)), ?_⟩
  rw [← hb no nl.length nc]
  rcases h.apart with e | e
  · rw [e]
    cases hx : (Value.slice xo st.next.length xc).ownBlock with
    | none => exact .inl rfl
    | some q => exact .inr (by simp)
  · exact .inr (fun e2 => e e2.symm)
theorem proc_nil (p : List In) (s : List UInt8) (a : Nat) (st : Pm.St) : Pm.proc p s a [] st = st := rfl
theorem proc_cons (p : List In) (s : List UInt8) (a : Nat) (e : Nat × Nat) (r : List (Nat × Nat)) (st : Pm.St) : Pm.proc p s a (e :: r) st = if Pm.stop st e.2 = true then st else Pm.proc p s a r (Pm.fol p s (p.length + 1) e.1 e.2 a st) := rfl
set_option maxHeartbeats 4000000 in
theorem step_any (W0 : World) (N : Nat) (pv : Value) (p : List In) (s : ByteArray) (hins : Insts W0 pv p) (g : Pm.Good p) (hs : s.size ≤ 8192) (a : Nat) (st : Pm.St) (nv : Value) (nl : List (Nat × Nat)) (xv : Value) (w : World) (hM : MX W0 w N pv s st nv nl xv) (ha : a ≤ s.size) (hw : ∀ e ∈ st.next, e.1 < p.length ∧ e.2 ≤ 8192) (hnl : st.next.length ≤ 800) :
    Calls Tryd.prog 44 #[.pointer (some ⟨N, 0, none⟩), .int .i64 a] w fun e w' => (∃ v, e = .returned v) ∧ (∃ nv' nl' xv', MX W0 w' N pv s (Pm.step p s.data.toList a st) nv' nl' xv') ∧ (Pm.step p s.data.toList a st).next.length ≤ 400 := by
  have HF := hide (follow_any W0 N pv p s hins g hs (follow_byte W0 N pv p s hins g hs) (p.length + 1))
  obtain ⟨no, nc, rfl⟩ := own_forms hM.now
  obtain ⟨xo, xc, rfl⟩ := own_forms hM.next
  obtain ⟨_, _, k2, k3, _, _, _⟩ := hM.fields
  have f2 := hM.froz 402
  have f3 := hM.froz 403
  have M1h := hM.swap
  obtain ⟨W1, hW1⟩ : ∃ W, ((w.setCell ⟨N, 402, none⟩ (.slice xo st.next.length xc)).setCell ⟨N, 403, none⟩ (.slice no 0 nc)) = W := ⟨_, rfl⟩
  rw [hW1] at M1h
  obtain ⟨_, _, j2, j3, _, _, _⟩ := M1h.fields
  have M1 := hide M1h
  have HW := hide hw
  clear hM M1h hw
  go_enter Tryd.func44, Tryd.ntmps44
  go_wp2_with fail
  go_region
  have M1d := (unhide M1).below (Below.refl _ _).drew
  obtain ⟨Wd, hWd⟩ : ∃ W, W1.drew = W := ⟨_, rfl⟩
  rw [hWd] at M1d ⊢
  obtain ⟨_, _, i2, _, _, _, _⟩ := M1d.fields
  have MD := hide M1d
  obtain ⟨st0, hst0⟩ : ∃ st0, ({ st with next := [] } : Pm.St) = st0 := ⟨_, rfl⟩
  have hun0 : st0.next.length + Pm.un p st0 a ≤ 400 := by rw [← hst0]; have := Pm.un_le p { st with next := [] } a; have := g.small; simp; omega
  have HSTEP : Hid (∀ r, Pm.proc p s.data.toList a st.next st0 = r → Pm.step p s.data.toList a st = if r.found = none then Pm.fol p s.data.toList (p.length + 1) 0 a a r else r) := hide (fun r hr => by
    unfold Pm.step; rw [hst0, hr])
  rw [hst0] at MD
  clear hW1 M1d M1 k2 k3 f2 f3 j2 j3 hWd hst0
  go_wp2_with fail
  go_loopw [26] (fun x wr => ∃ (k : Nat) (st' : Pm.St) (xv' : Value), x = .int .i64 k ∧ k ≤ st.next.length ∧ MX W0 wr N pv s st' (.slice xo st.next.length xc) st.next xv' ∧ Pm.proc p s.data.toList a st.next st0 = Pm.proc p s.data.toList a (st.next.drop k) st' ∧ st'.next.length + Pm.un p st' a ≤ 400) (fun x _ => st.next.length - (intOf x).toNat)
  case atStart => exact ⟨0, st0, _, rfl, Nat.zero_le _, unhide MD, rfl, hun0⟩
  case round =>
    obtain ⟨k, st', xv', rfl, hk, hM, hpr, hun⟩ := hrel
    obtain ⟨_, _, _, _, k4, k5, k6⟩ := hM.fields
    have MR := hide hM
    have HPR := hide hpr
    by_cases hlt : k < st.next.length
    · obtain ⟨⟨e1, e2⟩, he⟩ : ∃ e, st.next[k]? = some e := ⟨st.next[k], List.getElem?_eq_getElem hlt⟩
      obtain ⟨he1, he2⟩ := (unhide HW) (e1, e2) (List.mem_of_getElem? he)
      have hdrop : st.next.drop k = (e1, e2) :: st.next.drop (k + 1) := by
        rw [List.drop_eq_getElem_cons hlt]
        have := List.getElem?_eq_getElem hlt
        rw [he] at this
        rw [← Option.some.inj this]
      rw [hdrop, proc_cons] at hpr
      have HP2 := hide hpr
      obtain ⟨gx, gc, hgx, hgc⟩ := own_form hM.now (by omega)
      cases hgx
      have hgl := (hM.now.lt gx rfl).2
      obtain ⟨c0, c1⟩ := cellsWy_at he
      rw [← hM.now.cellAt (k * 2) (by omega)] at c0
      rw [← hM.now.cellAt (k * 2 + 1) (by omega)] at c1
      dsimp only at c0 c1 he1 he2
      have hkI : (k : Int) < st.next.length := by omega
      have bb := (Below.refl wr.heap.size wr).alloc (Nat.le_refl _) (.cells #[.int .i64 e1, .int .i64 e2] 117)
      have q0 := World.cell?_alloc_new wr #[.int .i64 (e1 : Int), .int .i64 (e2 : Int)] 117
      have hM2 := hM.below bb
      obtain ⟨g5, hg5⟩ : ∃ q, wr.heap.size = q := ⟨_, rfl⟩
      obtain ⟨W5, hW5⟩ : ∃ W, wr.alloc (.cells #[.int .i64 (e1 : Int), .int .i64 (e2 : Int)] 117) = W := ⟨_, rfl⟩
      rw [hW5] at hM2 q0
      rw [hg5] at q0
      have d0 := q0 0
      have d1 := q0 1
      obtain ⟨_, _, _, _, l4, l5, l6⟩ := hM2.fields
      have M5 := hide hM2
      clear hM hM2 bb q0 hpr he hdrop
      cases hfo : st'.found with
      | none =>
        have HC := hide (fun n => (unhide HF) e1 e2 a st' _ _ xv' (W5.drewN n) ((unhide M5).below (Go.below_drewN (Below.refl _ _) n)) he1 he2 ha (by have := Pm.un_le p st' a; omega) (by omega))
        have hfl := Pm.fol_len g (s := s.data.toList) (p.length + 1) e1 e2 a st' (by rw [(unhide M5).len]; exact g.small) he1
        have HNX : Hid (Pm.proc p s.data.toList a st.next st0 = Pm.proc p s.data.toList a (st.next.drop (k + 1)) (Pm.fol p s.data.toList (p.length + 1) e1 e2 a st')) := hide (by
          rw [unhide HP2, if_neg (by unfold Pm.stop; rw [hfo]; simp)])
        rw [hfo] at l6 k6
        rw [show (none : Option (Nat × Nat)).isSome = false from rfl] at l6 k6
        clear HP2 HPR
        go_wp2_with fail
        clear hW5 hg5 c0 c1 k4 k5 k6
        go_quiet (fail)
        go_wp2_with fail
        refine ((unhide HC) _).mono ?_; rintro e w6 ⟨⟨v6, rfl⟩, xv6, M6, K6⟩
        have M6' := hide M6
        clear M6 K6 d0 d1 l4 l5 l6 HC
        go_wp2_with fail
        exact ⟨⟨k + 1, _, xv6, by go_num, by omega, unhide M6', unhide HNX, by omega⟩, by simp [intOf]; omega⟩
      | some q =>
        obtain ⟨F, T⟩ := q
        by_cases hst : F < e2
        · have hstI : (F : Int) < e2 := by omega
          have HNX : Hid (Pm.proc p s.data.toList a st.next st0 = st') := hide (by
            rw [unhide HP2, if_pos (by unfold Pm.stop; rw [hfo]; simpa using hst)])
          have HE : Hid (Pm.step p s.data.toList a st = st') := hide (by rw [(unhide HSTEP) _ (unhide HNX), if_neg (by rw [hfo]; simp)])
          rw [hfo] at l6 k6
          rw [show (some (F, T) : Option (Nat × Nat)).isSome = true from rfl] at l6 k6
          rw [hfo, show fF (some (F, T)) = (F : Int) from rfl] at l4
          clear HP2 HPR HSTEP
          go_wp2_with fail
          clear hW5 hg5 c0 c1 k4 k5 k6
          go_quiet (fail)
          go_wp2_with fail
          (try simp only [Exit.inBlock, Exit.then])
          refine bodyPost_ret (results_none (by rfl) _ _ _) rfl ⟨⟨_, rfl⟩, ⟨_, _, xv', by rw [unhide HE]; exact (unhide M5).below (Go.below_drewN (Below.refl _ _) _)⟩, by rw [unhide HE]; omega⟩
        · have hstI : ¬ (F : Int) < e2 := by omega
          have HC := hide (fun n => (unhide HF) e1 e2 a st' _ _ xv' (W5.drewN n) ((unhide M5).below (Go.below_drewN (Below.refl _ _) n)) he1 he2 ha (by have := Pm.un_le p st' a; omega) (by omega))
          have hfl := Pm.fol_len g (s := s.data.toList) (p.length + 1) e1 e2 a st' (by rw [(unhide M5).len]; exact g.small) he1
          have HNX : Hid (Pm.proc p s.data.toList a st.next st0 = Pm.proc p s.data.toList a (st.next.drop (k + 1)) (Pm.fol p s.data.toList (p.length + 1) e1 e2 a st')) := hide (by
            rw [unhide HP2, if_neg (by unfold Pm.stop; rw [hfo]; simp; omega)])
          rw [hfo] at l6 k6
          rw [show (some (F, T) : Option (Nat × Nat)).isSome = true from rfl] at l6 k6
          rw [hfo, show fF (some (F, T)) = (F : Int) from rfl] at l4
          clear HP2 HPR
          go_wp2_with fail
          clear hW5 hg5 c0 c1 k4 k5 k6
          go_quiet (fail)
          go_wp2_with fail
          refine ((unhide HC) _).mono ?_; rintro e w6 ⟨⟨v6, rfl⟩, xv6, M6, K6⟩
          have M6' := hide M6
          clear M6 K6 d0 d1 l4 l5 l6 HC
          go_wp2_with fail
          exact ⟨⟨k + 1, _, xv6, by go_num, by omega, unhide M6', unhide HNX, by omega⟩, by simp [intOf]; omega⟩
    · obtain rfl : k = st.next.length := by omega
      have HNX : Hid (Pm.proc p s.data.toList a st.next st0 = st') := hide (by rw [unhide HPR, List.drop_length]; rfl)
      clear hM hpr HPR
      cases hfo : st'.found with
      | none =>
        have HE : Hid (Pm.step p s.data.toList a st = Pm.fol p s.data.toList (p.length + 1) 0 a a st') := hide (by rw [(unhide HSTEP) _ (unhide HNX), if_pos hfo])
        have HC := hide (fun n => (unhide HF) 0 a a st' _ _ xv' (wr.drewN n) ((unhide MR).below (Go.below_drewN (Below.refl _ _) n)) g.pos (by omega) ha (by have := Pm.un_le p st' a; omega) (by omega))
        have HC0 := hide ((unhide HF) 0 a a st' _ _ xv' wr (unhide MR) g.pos (by omega) ha (by have := Pm.un_le p st' a; omega) (by omega))
        have hfl := (Pm.fol_len g (s := s.data.toList) (p.length + 1) 0 a a st' (by rw [(unhide MR).len]; exact g.small) g.pos).2.1
        rw [hfo] at k6
        rw [show (none : Option (Nat × Nat)).isSome = false from rfl] at k6
        clear HSTEP HNX
        go_wp2_with fail
        refine (unhide HC0).mono ?_; rintro e w6 ⟨⟨v6, rfl⟩, xv6, M6, K6⟩
        have M6' := hide M6
        clear M6 K6 k4 k5 k6 HC HC0
        go_wp2_with fail
        go_end0
        exact ⟨⟨_, rfl⟩, ⟨_, _, xv6, by rw [unhide HE]; exact unhide M6'⟩, by rw [unhide HE]; omega⟩
      | some q =>
        have HE : Hid (Pm.step p s.data.toList a st = st') := hide (by rw [(unhide HSTEP) _ (unhide HNX), if_neg (by rw [hfo]; simp)])
        rw [hfo] at k6
        rw [show (some q : Option (Nat × Nat)).isSome = true from rfl] at k6
        clear HSTEP HNX
        go_wp2_with fail
        go_end0
        exact ⟨⟨_, rfl⟩, ⟨_, _, xv', by rw [unhide HE]; exact unhide MR⟩, by rw [unhide HE]; omega⟩
end Go.Proofs.YtmgealcolofomaaDoor
