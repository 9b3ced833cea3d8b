/- Walks: the machine goes on over a byte (follow at an instruction that reads one). -/
import Derived.Test.YtmgealcolofomaaDoorEf
import Derived.StillTailTactics
namespace Go.Proofs.YtmgealcolofomaaDoor
open Go.RowKit Kb
set_option linter.unusedVariables false
set_option maxRecDepth 20000
theorem MX.way_cell {W0 w w1 : World} {N : Nat} {pv nv xv : Value} {s : ByteArray} {st : Pm.St} {nl : List (Nat × Nat)} (h : MX W0 w N pv s st nv nl xv) (hg : w.grownBy w1 xv.ownBlock) : w1.cell? ⟨N, 403, none⟩ = some xv ∧ w1.frozen? ⟨N, 403, none⟩ = false := by
  have hl : (st.seen.map (Value.int .i64)).length = 400 := by rw [List.length_map, h.len]
  have own1 := World.ownsRow.kept h.own hg (.inr (fun e => h.nN.2 (by rw [← e]; rfl)))
  refine ⟨?_, World.ownsRow.frozenAt own1 403⟩
  rw [World.ownsRow.cellAt own1 403 (by omega), mCells, show 403 = (400 + 1) + 1 + 1 from rfl, List.getElem?_cons_succ, List.getElem?_cons_succ, List.getElem?_append_right (by omega), hl]
  rfl
set_option maxHeartbeats 1500000 in
theorem follow_byte (W0 : World) (N : Nat) (pv : Value) (p : List In) (s : ByteArray) (hins : Insts W0 pv p) (g : Pm.Good p) (hs : s.size ≤ 8192) : FolB W0 N pv p s := by
  intro u i f a st nv nl xv w x hM hi hx hk1 hv hf ha hnx
  have hi400 : i < 400 := Nat.lt_of_lt_of_le hi g.small
  obtain ⟨v, hvv⟩ : ∃ v, st.seen[i]? = some v := ⟨st.seen[i]'(by rw [hM.len]; exact hi400), List.getElem?_eq_getElem _⟩
  have hseen := hM.seenAt hvv
  have hfz := hM.froz (2 + i)
  have hiI : (i : Int) < 400 := by omega
  have hvb : (v == (a : Int) + 1) = false := by
    rw [beq_eq_false_iff_ne]; intro e; exact hv (by rw [hvv, e])
  have hne : p ≠ [] := by intro e; rw [e] at hi; cases hi
  obtain ⟨M1h, K1h⟩ := hM.mark hi400 ((a : Int) + 1)
  obtain ⟨W1, hW1⟩ : ∃ W, w.setCell ⟨N, 2 + i, none⟩ (.int .i64 ((a : Int) + 1)) = W := ⟨_, rfl⟩
  rw [hW1] at M1h K1h
  obtain ⟨gp, off, cp, hpv, hgp, hcp⟩ := (hins.below M1h.bel).at_ hne
  obtain ⟨c0, c1, c2, c3, c4, c5, c6⟩ := hcp i x hx
  have hfit := hins.fit x (List.mem_of_getElem? hx)
  obtain ⟨d0, d1, _⟩ := M1h.fields
  have hN1 := M1h.lt
  have HR : Hid (Pm.fol p s.data.toList (u + 1) i f a st = if Pm.hasB x s.data.toList a = true then { st with seen := st.seen.set i ((a : Int) + 1), next := st.next ++ [(i + 1, f)] } else { st with seen := st.seen.set i ((a : Int) + 1) }) := hide (by
    rw [Pm.fol, if_neg hv, hx]; dsimp only; rw [if_pos hk1])
  obtain ⟨⟨xk, xa, xb, ⟨s1, s2, s3, s4⟩⟩, hxx⟩ : ∃ y, x = y := ⟨_, rfl⟩
  subst hxx
  dsimp only at c0 c1 c2 c3 c4 c5 c6 hfit hk1
  subst hk1
  cases hpv
  have bb := (Below.refl W1.heap.size W1).alloc (Nat.le_refl _) (.cells #[.int .i64 1, .int .i64 xa, .int .i64 xb, .int .u64 s1, .int .u64 s2, .int .u64 s3, .int .u64 s4] 79)
  have q0 := World.cell?_alloc_new W1 #[.int .i64 1, .int .i64 xa, .int .i64 xb, .int .u64 s1, .int .u64 s2, .int .u64 s3, .int .u64 s4] 79
  obtain ⟨g8, hg8⟩ : ∃ q, W1.heap.size = q := ⟨_, rfl⟩
  have M2h := M1h.below bb
  have K2h := K1h.trans (Kp.below bb)
  obtain ⟨W2, hW2⟩ : ∃ W, W1.alloc (.cells #[.int .i64 1, .int .i64 xa, .int .i64 xb, .int .u64 s1, .int .u64 s2, .int .u64 s3, .int .u64 s4] 79) = W := ⟨_, rfl⟩
  rw [hW2] at M2h K2h q0
  rw [hg8] at q0
  have e0 := q0 0
  have e1 := q0 1
  have e2 := q0 2
  have e3 := q0 3
  have e4 := q0 4
  have e5 := q0 5
  have e6 := q0 6
  obtain ⟨k0, k1, k2, k3, k4, k5, k6⟩ := M2h.fields
  have M2 := hide M2h
  have K2 := hide K2h
  clear M1h K1h M2h K2h bb q0 hcp hins hx hv hvv hne hM
  by_cases hal : a < s.size
  case neg =>
    have haI : ¬ ((a : Int) < s.size) := by omega
    have hno : Pm.hasB ⟨1, xa, xb, ⟨s1, s2, s3, s4⟩⟩ s.data.toList a = false := by
      unfold Pm.hasB; rw [List.getElem?_eq_none (by rw [len_data]; omega)]
    have HR2 : Hid (Pm.fol p s.data.toList (u + 1) i f a st = { st with seen := st.seen.set i ((a : Int) + 1) }) := hide (by rw [unhide HR, hno, if_neg (by decide)])
    clear HR hno
    go_enter Tryd.func70, Tryd.ntmps70
    go_wp2_with fail
    clear hW1 hW2 hg8 c0 c1 c2 c3 c4 c5 c6 hseen hfz d0 d1 k2 k3 k4 k5 k6
    go_quiet (fail)
    go_wp2
    go_end0
    exact ⟨⟨_, rfl⟩, xv, by rw [unhide HR2]; exact (unhide M2).below (Go.below_drewN (Below.refl _ _) _), (unhide K2).trans (Kp.below (Go.below_drewN (Below.refl _ _) _))⟩
  have haI : (a : Int) < s.size := by omega
  have HAS := hide (fun W => phas_any ⟨s1, s2, s3, s4⟩ s[a] W hfit)
  unfold setV at HAS
  dsimp only at HAS
  obtain ⟨b, hbt⟩ : ∃ b, bit ⟨s1, s2, s3, s4⟩ s[a].toNat = b := ⟨_, rfl⟩
  have hB : Pm.hasB ⟨1, xa, xb, ⟨s1, s2, s3, s4⟩⟩ s.data.toList a = b := by
    unfold Pm.hasB
    have : s.data.toList[a]? = some s[a] := by rw [List.getElem?_eq_getElem (by rw [len_data]; exact hal)]; rfl
    rw [this]; exact hbt
  rw [hbt] at HAS
  rw [hB] at HR
  clear hB hbt
  obtain ⟨i0, hi', hz0, hz1, hz2⟩ := info_parts infoWy
  obtain ⟨xo, xc, rfl⟩ := own_forms (unhide M2).next
  cases b
  · have HR2 : Hid (Pm.fol p s.data.toList (u + 1) i f a st = { st with seen := st.seen.set i ((a : Int) + 1) }) := hide (by rw [unhide HR, if_neg (by decide)])
    clear HR
    go_enter Tryd.func70, Tryd.ntmps70
    go_wp2_with fail
    clear hW1 hW2 hg8 c0 c1 c2 c3 c4 c5 c6 hseen hfz d0 d1 k0 k2 k4 k5 k6
    go_still_tail 16, (by kernel_rfl)
    go_wp2_with ((go_at_call 90); refine ((unhide HAS) _).mono ?_; rintro e w3 ⟨rfl, b3⟩)
    go_end0
    have b3' := bel_trans (Below.refl W2.heap.size W2).drew b3
    exact ⟨⟨_, rfl⟩, _, by rw [unhide HR2]; exact (unhide M2).below b3', (unhide K2).trans (Kp.below b3')⟩
  · have HR2 : Hid (Pm.fol p s.data.toList (u + 1) i f a st = { st with seen := st.seen.set i ((a : Int) + 1), next := st.next ++ [(i + 1, f)] }) := hide (by rw [unhide HR, if_pos rfl])
    have b5 : st.next.length + 1 ≤ maxLen := by unfold maxLen; omega
    have b6 : (st.next.length + 1) * 16 ≤ 140737488355328 := by omega
    clear HR
    go_enter Tryd.func70, Tryd.ntmps70
    go_wp2_with fail
    clear hW1 hW2 hg8 c0 c1 c2 c3 c4 c5 c6 hseen hfz d0 d1 k0 k2 k4 k5 k6
    go_still_tail 16, (by kernel_rfl)
    go_wp2_with (first
      | ((go_at_call 90); refine ((unhide HAS) _).mono ?_; rintro e w3 ⟨rfl, b3⟩; have b3' := bel_trans (Below.refl W2.heap.size W2).drew b3; have M3 := hide ((unhide M2).below b3'); have K3 := hide ((unhide K2).trans (Kp.below b3')); obtain ⟨_, _, _, j3, _, _, _⟩ := (unhide M3).fields; clear b3 b3')
      | (at_builtin; refine wpList_append_own_at _ rfl _ _ 90 rfl W0.heap.size 117 i0 (.agg #[.int .i64 0, .int .i64 0]) 2 16 Tryd.underlying90 hi' hz0 hz1 hz2 rfl (by decide) _ st.next.length (cellsWy st.next) rfl ((unhide M3).next.alloc _) _ 1 1 _ rfl rfl (cell_two_new _ _ _ _) (by simp [Value.oneCell']) b5 b6 (by have := (unhide M3).bel.size; simp; omega) ?_; intro vv w8 own8 grow8 _ hat; obtain ⟨oo, cc, rfl⟩ := own_forms own8; have M4 := hide ((unhide M3).below ((Below.refl _ _).alloc (Nat.le_refl _) (.cells #[.int .i64 ((i : Int) + 1), .int .i64 f] 117))); have K4 := hide ((unhide K3).trans (Kp.below ((Below.refl _ _).alloc (Nat.le_refl _) (.cells #[.int .i64 ((i : Int) + 1), .int .i64 f] 117)))); obtain ⟨t3, t4⟩ := (unhide M4).way_cell grow8; obtain ⟨M5, K5⟩ := (unhide M4).way (e := (i + 1, f)) own8 grow8 hat; have M6 := hide M5; have K6 := hide ((unhide K4).trans K5); clear M5 K5 own8 grow8 hat))
    go_end0
    exact ⟨⟨_, rfl⟩, _, by rw [unhide HR2]; exact unhide M6, unhide K6⟩
end Go.Proofs.YtmgealcolofomaaDoor
