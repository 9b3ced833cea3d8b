/- Walks: has; the machine goes on from an instruction (follow). -/
import Derived.Test.YtmgealcolofomaaDoorEd
import Derived.Laws.Bits64
import Derived.Deep.RegionLaw
import Derived.BigQuiet
import Derived.Deep.QuietTactic
import Derived.BigRegion
import Derived.Deep.RegionWith
namespace Go.Proofs.YtmgealcolofomaaDoor
open Go.RowKit Kb
set_option linter.unusedVariables false
set_option maxRecDepth 20000
theorem and_int9 {x : Int} (h : 0 ≤ x ∧ x ≤ 18446744073709551615) (k : Nat) : (bits .and .u64 (x / 2 ^ k) 1 == 1) = x.toNat.testBit k := by
  obtain ⟨n, rfl⟩ : ∃ n : Nat, x = n := ⟨x.toNat, by omega⟩
  have e : ((n : Int) / 2 ^ k) = ((n / 2 ^ k : Nat) : Int) := by simp
  have hl : n / 2 ^ k ≤ n := Nat.div_le_self _ _
  have : bits .and .u64 ((n / 2 ^ k : Nat) : Int) ((1 : Nat) : Int) = ((n / 2 ^ k &&& 1 : Nat) : Int) := bits_and_u64_nat _ _ (by omega) (by omega)
  rw [e, show (1 : Int) = ((1 : Nat) : Int) from rfl, this, Int.toNat_natCast, Nat.testBit_eq_decide_div_mod_eq, Bool.eq_iff_iff, beq_iff_eq, decide_eq_true_iff, Nat.and_one_is_mod]
  omega
set_option maxHeartbeats 400000 in
theorem phas_any (s : Se) (c : UInt8) (w : World) (hf : FitS s) :
    Calls Tryd.prog 90 #[setV s, .int .u8 c.toNat] w fun e w' => e = .returned (.bool (bit s c.toNat)) ∧ Below w.heap.size w w' := by
  have hb := c.toNat_lt
  obtain ⟨b, hbe⟩ : ∃ b, c.toNat = b := ⟨_, rfl⟩
  rw [hbe] at hb ⊢
  obtain ⟨s1, s2, s3, s4⟩ := s
  unfold FitS at hf
  unfold setV
  dsimp only at *
  obtain ⟨x, hx⟩ : ∃ x, wordS ⟨s1, s2, s3, s4⟩ (b / 64) = x := ⟨_, rfl⟩
  have hget : (#[.int .u64 s1, .int .u64 s2, .int .u64 s3, .int .u64 s4] : Array Value)[b / 64]? = some (.int .u64 x) := by
    rw [← hx]
    have h4 : b / 64 < 4 := by omega
    match b / 64, h4 with
    | 0, _ => rfl
    | 1, _ => rfl
    | 2, _ => rfl
    | 3, _ => rfl
  have hxf : 0 ≤ x ∧ x ≤ 18446744073709551615 := by
    rw [← hx]
    have h4 : b / 64 < 4 := by omega
    match b / 64, h4 with
    | 0, _ => exact hf.1
    | 1, _ => exact hf.2.1
    | 2, _ => exact hf.2.2.1
    | 3, _ => exact hf.2.2.2
  have HX := hide hx
  clear hx hbe
  go_enter Tryd.func90, Tryd.ntmps90
  go_wp2_with fail
  go_ret
  refine ⟨?_, (Below.refl _ _).alloc (Nat.le_refl _) _⟩
  unfold bit
  rw [unhide HX, ← and_int9 hxf]; rfl

/-- what a call of follow does -/
def FolP (W0 : World) (N : Nat) (pv : Value) (p : List In) (s : ByteArray) (u : Nat) : Prop :=
  ∀ (i f a : Nat) (st : Pm.St) (nv : Value) (nl : List (Nat × Nat)) (xv : Value) (w : World), MX W0 w N pv s st nv nl xv → i < p.length → f ≤ 8192 → a ≤ s.size → Pm.un p st a < u → st.next.length + Pm.un p st a ≤ 800 →
    Calls Tryd.prog 70 #[.pointer (some ⟨N, 0, none⟩), .int .i64 i, .int .i64 f, .int .i64 a] w fun e w' => (∃ v, e = .returned v) ∧ ∃ xv', MX W0 w' N pv s (Pm.fol p s.data.toList u i f a st) nv nl xv' ∧ Kp N w xv w' xv'
/-- what a call of follow does at an instruction that reads a byte -/
def FolB (W0 : World) (N : Nat) (pv : Value) (p : List In) (s : ByteArray) : Prop :=
  ∀ (u i f a : Nat) (st : Pm.St) (nv : Value) (nl : List (Nat × Nat)) (xv : Value) (w : World) (x : In), MX W0 w N pv s st nv nl xv → i < p.length → p[i]? = some x → x.k = 1 → st.seen[i]? ≠ some ((a : Int) + 1) → f ≤ 8192 → a ≤ s.size → st.next.length ≤ 800 →
    Calls Tryd.prog 70 #[.pointer (some ⟨N, 0, none⟩), .int .i64 i, .int .i64 f, .int .i64 a] w fun e w' => (∃ v, e = .returned v) ∧ ∃ xv', MX W0 w' N pv s (Pm.fol p s.data.toList (u + 1) i f a st) nv nl xv' ∧ Kp N w xv w' xv'
set_option maxHeartbeats 8000000 in
theorem follow_any (W0 : World) (N : Nat) (pv : Value) (p : List In) (s : ByteArray) (hins : Insts W0 pv p) (g : Pm.Good p) (hs : s.size ≤ 8192) (hB : FolB W0 N pv p s) : ∀ u, FolP W0 N pv p s u := by
  intro u
  induction u with
  | zero => intro i f a st nv nl xv w _ _ _ _ h; omega
  | succ u ih =>
    intro i f a st nv nl xv w hM hi hf ha hu hnx
    have IH := hide ih
    have hi400 : i < 400 := Nat.lt_of_lt_of_le hi g.small
    obtain ⟨v, hv⟩ : ∃ v, st.seen[i]? = some v := ⟨st.seen[i]'(by rw [hM.len]; exact hi400), List.getElem?_eq_getElem _⟩
    have hseen := hM.seenAt hv
    have hfz := hM.froz (2 + i)
    have hiI : (i : Int) < 400 := by omega
    have M0 := hide hM
    clear hM
    by_cases hm : v = (a : Int) + 1
    · have HE : Hid (Pm.fol p s.data.toList (u + 1) i f a st = st) := hide (by rw [Pm.fol, hv, hm, if_pos rfl])
      subst hm
      clear hv
      go_enter Tryd.func70, Tryd.ntmps70
      go_wp2_with fail
      (try simp only [Exit.inBlock, Exit.then])
      refine bodyPost_ret (results_none (by rfl) _ _ _) rfl ⟨⟨_, rfl⟩, xv, by rw [unhide HE]; exact unhide M0, Kp.refl _ _ _⟩
    · have hvb : (v == (a : Int) + 1) = false := by simpa using hm
      obtain ⟨x, hx⟩ : ∃ x, p[i]? = some x := ⟨p[i], List.getElem?_eq_getElem hi⟩
      have hne : p ≠ [] := by intro e; rw [e] at hi; cases hi
      by_cases hk1 : x.k = 1
      · exact hB u i f a st nv nl xv w x (unhide M0) hi hx hk1 (by rw [hv]; intro e; exact hm (Option.some.inj e)) hf ha (by omega)
      clear hB
      obtain ⟨M1h, K1h⟩ := (unhide M0).mark hi400 ((a : Int) + 1)
      obtain ⟨W1, hW1⟩ : ∃ W, w.setCell ⟨N, 2 + i, none⟩ (.int .i64 ((a : Int) + 1)) = W := ⟨_, rfl⟩
      rw [hW1] at M1h K1h
      obtain ⟨gp, off, cp, hpv, hgp, hcp⟩ := (hins.below M1h.bel).at_ hne
      obtain ⟨c0, c1, c2, c3, c4, c5, c6⟩ := hcp i x hx
      have hfit := hins.fit x (List.mem_of_getElem? hx)
      have hkind := g.kind i x hx
      have HUN := hide (Pm.un_mark hi (by rw [(unhide M0).len]; exact g.small) (by unfold Pm.Mk; rw [hv]; intro e; exact hm (Option.some.inj e)))
      obtain ⟨d0, d1, _⟩ := M1h.fields
      have hN1 := M1h.lt
      have M1 := hide M1h
      have K1 := hide K1h
      have HX := hide hx
      have HFOL : Hid (∀ r, Pm.fol p s.data.toList (u + 1) i f a st = r ↔ (if x.k = 1 then (if Pm.hasB x s.data.toList a = true then { st with seen := st.seen.set i ((a : Int) + 1), next := st.next ++ [(i + 1, f)] } else { st with seen := st.seen.set i ((a : Int) + 1) })
        else if x.k = 2 then Pm.fol p s.data.toList u x.b.toNat f a (Pm.fol p s.data.toList u x.a.toNat f a { st with seen := st.seen.set i ((a : Int) + 1) })
        else if x.k = 3 then Pm.fol p s.data.toList u x.a.toNat f a { st with seen := st.seen.set i ((a : Int) + 1) }
        else if x.k = 4 then (if a = 0 then Pm.fol p s.data.toList u (i + 1) f a { st with seen := st.seen.set i ((a : Int) + 1) } else { st with seen := st.seen.set i ((a : Int) + 1) })
        else if x.k = 5 then (if a = s.data.toList.length then Pm.fol p s.data.toList u (i + 1) f a { st with seen := st.seen.set i ((a : Int) + 1) } else { st with seen := st.seen.set i ((a : Int) + 1) })
        else if x.k = 6 then { st with seen := st.seen.set i ((a : Int) + 1), found := some (f, a) } else { st with seen := st.seen.set i ((a : Int) + 1) }) = r) := hide (fun r => by
          rw [Pm.fol, if_neg (by rw [hv]; intro e; exact hm (Option.some.inj e)), hx])
      obtain ⟨⟨xk, xa, xb, ⟨s1, s2, s3, s4⟩⟩, hxx⟩ : ∃ y, x = y := ⟨_, rfl⟩
      subst hxx
      dsimp only at c0 c1 c2 c3 c4 c5 c6 hkind HFOL hfit hk1
      cases hpv
      have nb1 := M1h.next.lt
      have nN1 := M1h.nN.2
      clear hv hx hne hcp hm
      have bb := (Below.refl W1.heap.size W1).alloc (Nat.le_refl _) (.cells #[.int .i64 xk, .int .i64 xa, .int .i64 xb, .int .u64 s1, .int .u64 s2, .int .u64 s3, .int .u64 s4] 79)
      have q0 := World.cell?_alloc_new W1 #[.int .i64 xk, .int .i64 xa, .int .i64 xb, .int .u64 s1, .int .u64 s2, .int .u64 s3, .int .u64 s4] 79
      obtain ⟨g8, hg8⟩ : ∃ q, W1.heap.size = q := ⟨_, rfl⟩
      have hl8 : g8 < (W1.alloc (.cells #[.int .i64 xk, .int .i64 xa, .int .i64 xb, .int .u64 s1, .int .u64 s2, .int .u64 s3, .int .u64 s4] 79)).heap.size := by simp; omega
      have M2h := M1h.below bb
      have K2h := K1h.trans (Kp.below bb)
      obtain ⟨W2, hW2⟩ : ∃ W, W1.alloc (.cells #[.int .i64 xk, .int .i64 xa, .int .i64 xb, .int .u64 s1, .int .u64 s2, .int .u64 s3, .int .u64 s4] 79) = W := ⟨_, rfl⟩
      rw [hW2] at M2h K2h hl8 q0
      rw [hg8] at q0
      have e0 := q0 0
      have e1 := q0 1
      have e2 := q0 2
      have e3 := q0 3
      have e4 := q0 4
      have e5 := q0 5
      have e6 := q0 6
      have H8 := hide (show g8 ≠ N ∧ xv.ownBlock ≠ some g8 from ⟨by omega, fun e => by have := (nb1 _ e).2; omega⟩)
      obtain ⟨k0, k1, k2, k3, k4, k5, k6⟩ := M2h.fields
      have M2 := hide M2h
      have K2 := hide K2h
      obtain ⟨st1, hst1⟩ : ∃ st1, ({ st with seen := st.seen.set i ((a : Int) + 1) } : Pm.St) = st1 := ⟨_, rfl⟩
      have HST : Hid (st1.next = st.next ∧ st1.found = st.found ∧ st1.seen = st.seen.set i ((a : Int) + 1)) := hide (by rw [← hst1]; exact ⟨rfl, rfl, rfl⟩)
      rw [hst1] at M2 HFOL
      have hun1 := unhide HUN
      rw [hst1] at hun1
      have hnx1 : st1.next.length + Pm.un p st1 a ≤ 800 := by rw [(unhide HST).1]; omega
      clear M1h K1h M0 bb M2h K2h M1 K1 q0 nb1 nN1 hst1 hnx HUN
      by_cases h2 : xk = 2
      · subst h2
        obtain ⟨ka, rfl⟩ : ∃ n : Nat, xa = n := ⟨xa.toNat, by omega⟩
        obtain ⟨kb, rfl⟩ : ∃ n : Nat, xb = n := ⟨xb.toNat, by omega⟩
        have hka : ka < p.length := by omega
        have hkb : kb < p.length := by omega
        have HR := hide (((unhide HFOL) _).2 rfl)
        rw [if_neg (by decide), if_pos rfl, Int.toNat_natCast, Int.toNat_natCast] at HR
        have hfl := Pm.fol_len g (s := s.data.toList) u ka f a st1 (by rw [(unhide M2).len]; exact g.small) hka
        have HC1 := hide ((unhide IH) ka f a st1 nv nl xv W2 (unhide M2) hka hf ha (by omega) hnx1)
        clear HFOL
        go_enter Tryd.func70, Tryd.ntmps70
        go_wp2_with fail
        clear hW1 hW2 hg8 c0 c1 c2 c3 c4 c5 c6 hseen hfz d0 d1
        refine (unhide HC1).mono ?_; rintro e w3 ⟨⟨v3, rfl⟩, xv3, M3, K3⟩
        have f2 := K3.cell hl8 (unhide H8).1 (unhide H8).2 e2
        have f0 := K3.cell hl8 (unhide H8).1 (unhide H8).2 e0
        have HC2 := hide ((unhide IH) kb f a _ nv nl xv3 w3 M3 hkb hf ha (by omega) (by omega))
        have K3' := hide ((unhide K2).trans K3)
        clear M3 K3 HC1 e0 e1 e2 e3 e4 e5 e6 k0 k1 k2 k3 k4 k5 k6
        go_wp2_with fail
        refine (unhide HC2).mono ?_; rintro e w4 ⟨⟨v4, rfl⟩, xv4, M4, K4⟩
        have M4' := hide M4
        have K4' := hide ((unhide K3').trans K4)
        clear M4 K4 HC2 f0 f2
        go_wp2_with fail
        go_end0
        exact ⟨⟨_, rfl⟩, xv4, by rw [unhide HR]; exact unhide M4', unhide K4'⟩
      by_cases h3 : xk = 3
      · subst h3
        obtain ⟨ka, rfl⟩ : ∃ n : Nat, xa = n := ⟨xa.toNat, by omega⟩
        have hka : ka < p.length := by omega
        have HR := hide (((unhide HFOL) _).2 rfl)
        rw [if_neg (by decide), if_neg (by decide), if_pos rfl, Int.toNat_natCast] at HR
        have HC1 := hide ((unhide IH) ka f a st1 nv nl xv W2 (unhide M2) hka hf ha (by omega) hnx1)
        clear HFOL h2
        go_enter Tryd.func70, Tryd.ntmps70
        go_wp2_with fail
        clear hW1 hW2 hg8 c0 c1 c2 c3 c4 c5 c6 hseen hfz d0 d1
        refine (unhide HC1).mono ?_; rintro e w3 ⟨⟨v3, rfl⟩, xv3, M3, K3⟩
        have M3' := hide M3
        have K3' := hide ((unhide K2).trans K3)
        clear M3 K3 HC1 e0 e1 e2 e3 e4 e5 e6 k0 k1 k2 k3 k4 k5 k6
        go_wp2_with fail
        go_end0
        exact ⟨⟨_, rfl⟩, xv3, by rw [unhide HR]; exact unhide M3', unhide K3'⟩
      by_cases h4 : xk = 4
      · subst h4
        have hi1 : i + 1 < p.length := by omega
        clear h2 h3
        by_cases ha0 : a = 0
        · have HR := hide (((unhide HFOL) _).2 rfl)
          rw [if_neg (by decide), if_neg (by decide), if_neg (by decide), if_pos rfl, if_pos ha0] at HR
          have HC1 := hide ((unhide IH) (i + 1) f a st1 nv nl xv W2 (unhide M2) hi1 hf ha (by omega) hnx1)
          have haI : ((a : Int) == 0) = true := by simpa using ha0
          clear ha0
          rw [show ((i + 1 : Nat) : Int) = (i : Int) + 1 from rfl] at HC1
          clear HFOL
          go_enter Tryd.func70, Tryd.ntmps70
          go_wp2_with fail
          clear hW1 hW2 hg8 c0 c1 c2 c3 c4 c5 c6 hseen hfz d0 d1
          refine (unhide HC1).mono ?_; rintro e w3 ⟨⟨v3, rfl⟩, xv3, M3, K3⟩
          have M3' := hide M3
          have K3' := hide ((unhide K2).trans K3)
          clear M3 K3 HC1 e0 e1 e2 e3 e4 e5 e6 k0 k1 k2 k3 k4 k5 k6
          go_wp2_with fail
          go_end0
          exact ⟨⟨_, rfl⟩, xv3, by rw [unhide HR]; exact unhide M3', unhide K3'⟩
        · have haI : ((a : Int) == 0) = false := by simpa using ha0
          have HR := hide (((unhide HFOL) _).2 rfl)
          rw [if_neg (by decide), if_neg (by decide), if_neg (by decide), if_pos rfl, if_neg ha0] at HR
          clear HFOL ha0
          go_enter Tryd.func70, Tryd.ntmps70
          go_wp2_with fail
          go_end0
          exact ⟨⟨_, rfl⟩, xv, by rw [unhide HR]; exact unhide M2, unhide K2⟩
      by_cases h5 : xk = 5
      · subst h5
        have hi1 : i + 1 < p.length := by omega
        clear h2 h3 h4
        by_cases ha0 : a = s.size
        · have HR := hide (((unhide HFOL) _).2 rfl)
          rw [if_neg (by decide), if_neg (by decide), if_neg (by decide), if_neg (by decide), if_pos rfl, if_pos (by rw [len_data]; exact ha0)] at HR
          have HC1 := hide ((unhide IH) (i + 1) f a st1 nv nl xv W2 (unhide M2) hi1 hf ha (by omega) hnx1)
          have haI : ((a : Int) == (s.size : Int)) = true := beq_iff_eq.2 (by omega)
          clear ha0
          rw [show ((i + 1 : Nat) : Int) = (i : Int) + 1 from rfl] at HC1
          clear HFOL
          go_enter Tryd.func70, Tryd.ntmps70
          go_wp2_with fail
          clear hW1 hW2 hg8 c0 c1 c2 c3 c4 c5 c6 hseen hfz d0 d1
          refine (unhide HC1).mono ?_; rintro e w3 ⟨⟨v3, rfl⟩, xv3, M3, K3⟩
          have M3' := hide M3
          have K3' := hide ((unhide K2).trans K3)
          clear M3 K3 HC1 e0 e1 e2 e3 e4 e5 e6 k0 k1 k2 k3 k4 k5 k6
          go_wp2_with fail
          go_end0
          exact ⟨⟨_, rfl⟩, xv3, by rw [unhide HR]; exact unhide M3', unhide K3'⟩
        · have haI : ((a : Int) == (s.size : Int)) = false := by rw [beq_eq_false_iff_ne]; intro h; omega
          have HR := hide (((unhide HFOL) _).2 rfl)
          rw [if_neg (by decide), if_neg (by decide), if_neg (by decide), if_neg (by decide), if_pos rfl, if_neg (by rw [len_data]; exact ha0)] at HR
          clear HFOL ha0
          go_enter Tryd.func70, Tryd.ntmps70
          go_wp2_with fail
          go_end0
          exact ⟨⟨_, rfl⟩, xv, by rw [unhide HR]; exact unhide M2, unhide K2⟩
      by_cases h6 : xk = 6
      · subst h6
        have HR := hide (((unhide HFOL) _).2 rfl)
        rw [if_neg (by decide), if_neg (by decide), if_neg (by decide), if_neg (by decide), if_neg (by decide), if_pos rfl] at HR
        have r4 := (unhide M2).froz 404
        have r5 := (unhide M2).froz 405
        have r6 := (unhide M2).froz 406
        obtain ⟨M6, K6⟩ := (unhide M2).find f a
        have ee : ({ seen := st.seen.set i ((a : Int) + 1), next := st.next, found := some (f, a) } : Pm.St) = { st1 with found := some (f, a) } := by
          obtain ⟨g1, g2, g3⟩ := unhide HST
          cases st1
          dsimp only at g1 g2 g3 ⊢
          rw [g1, g3]
        rw [ee] at HR
        have M6' := hide M6
        have K6' := hide ((unhide K2).trans K6)
        clear HFOL h2 h3 h4 h5 M6 K6 ee
        go_enter Tryd.func70, Tryd.ntmps70
        go_wp2_with fail
        go_end0
        exact ⟨⟨_, rfl⟩, xv, by rw [unhide HR]; exact unhide M6', unhide K6'⟩
      have h1 : xk = 1 := by omega
      subst h1
      exfalso; omega
end Go.Proofs.YtmgealcolofomaaDoor
