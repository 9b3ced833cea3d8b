/- What is read can be printed, and is read from there as it was; printed again it is the same text: whatever text is handed in.
   Conditions: what is handed in is of bulk at most 1048576. -/
import Derived.Test.YtjdkogeeokccpaaRows
import Derived.WalkKit
import Derived.ProofKit
import Derived.OpenShut
import Derived.ShutString
import Derived.JoinedCond
import Derived.Test.YtjdkogeeokccpaaQd
import Derived.Test.YtjdkogeeokccpaaKz
import Derived.Test.YtjdkogeeokccpaaJk
import Derived.Test.YtjdkogeeokccpaaWrap
namespace Go.Proofs.Ytjdkogeeokccpaa.rexAgain
open Go.ChangeShapes Go.WideShapes Go.ChangeAt Go.RowKit
open Go.ChangeMaps (open_string shut_string)
open Kb Pop
set_option linter.unusedVariables false
set_option maxRecDepth 20000

theorem one_tx {p : Nat → Bool} {b : Nat} (hb : b < 256) (h : ∀ j, j < 256 → p j = decide (j = b)) (hc : cntN (fun j => decide (j = b)) 256 = 1) : setT p 256 = charT (UInt8.ofNat b) := by
  have c1 : cntN p 256 = 1 := by rw [cntN_congr h]; exact hc
  unfold setT
  rw [if_pos c1, itemsP_list, heads_one hb h]
  have hl : lastR p b = b := lastR_stop (by
    rintro ⟨h1, h2⟩
    rw [h (b + 1) (by omega)] at h2
    have := of_decide_eq_true h2
    omega)
  simp only [List.flatMap_cons, List.flatMap_nil, List.append_nil]
  unfold item1
  rw [hl, if_neg (by omega), if_neg (by omega)]; simp
theorem full_sound {x : Ex} : x.Full → x.NoN → x.Sound := by
  induction x with
  | none => intro _ h; exact h
  | emp => intro _ _; trivial
  | beg => intro _ _; trivial
  | en => intro _ _; trivial
  | byte t =>
    intro h _
    refine ⟨h.2, fun h0 => h.1 ?_⟩
    refine bits_ext h.2 ⟨by simp [noSet], by simp [noSet], by simp [noSet], by simp [noSet]⟩ fun j hj => ?_
    rw [cntN_none h0 j hj]
    have : ∀ j ∈ List.range 256, bit noSet j = false := by decide +kernel
    exact (this j (List.mem_range.2 hj)).symm
  | cat a b ha hb => intro h g; exact ⟨ha h.1 g.1, hb h.2 g.2⟩
  | alt a b ha hb => intro h g; exact ⟨ha h.1 g.1, hb h.2 g.2⟩
  | star a ha => intro h g; exact ha h g
def xA : Ex := .cat (.alt (.byte (setOf (fun j => decide (j = 97)))) (.byte (setOf (fun j => decide (j = 98))))) .en
theorem xA_tx : xA.tx = [40, 97, 124, 98, 41, 36] := by
  have h1 : setT (bit (setOf (fun j => decide (j = 97)))) 256 = charT (UInt8.ofNat 97) := one_tx (by omega) (fun j hj => setOf_bit _ j hj) (by decide +kernel)
  have h2 : setT (bit (setOf (fun j => decide (j = 98)))) 256 = charT (UInt8.ofNat 98) := one_tx (by omega) (fun j hj => setOf_bit _ j hj) (by decide +kernel)
  simp only [xA, Ex.tx, h1, h2, Ex.kind]
  decide +kernel
theorem set_full (b : Nat) (hb : b < 256) : setOf (fun j => decide (j = b)) ≠ noSet := fun e => by
  have h := setOf_bit (fun j => decide (j = b)) b hb
  rw [e] at h
  have : ∀ j ∈ List.range 256, bit noSet j = false := by decide +kernel
  rw [this b (List.mem_range.2 hb)] at h
  simp at h
theorem xA_full : xA.Full := ⟨⟨⟨set_full 97 (by omega), setOf_fit _⟩, ⟨set_full 98 (by omega), setOf_fit _⟩⟩, trivial⟩
theorem xA_read : readR ⟨#[40, 97, 124, 98, 41, 36]⟩ = .ok xA 6 := by
  have hc : chkR xA.rx = 0 := by unfold chkR; rw [ex_look xA 1 0 xA_full (by decide) (by decide)]
  have := read_back (x := xA) (full_sound xA_full ⟨⟨trivial, trivial⟩, trivial⟩) hc (by decide)
  rw [xA_tx] at this
  exact this
theorem rexN_form {N : Nat → Prop} {w : World} {v : Value} {x : Ex} (h : RexN N w v x.rx) : ∃ s1 s2 s3 s4 o n c, v = .agg #[.int .i64 x.kind, .int .u64 s1, .int .u64 s2, .int .u64 s3, .int .u64 s4, .slice o n c] := by
  obtain ⟨⟨e, h1, h2⟩, _⟩ := h
  obtain ⟨o, c, rfl, _⟩ := h2.form
  exact ⟨_, _, _, _, o, _, c, by rw [h1]; unfold rexV; rw [Ex.rx_k]⟩
set_option maxHeartbeats 8000000 in
theorem walk (a0 : ByteArray) (hb : a0.size ≤ 1048576) (w : World) :
    Calls Try.prog 5 #[.string a0] w fun e w' => e = .returned (.bool true) ∧ Below w.heap.size w w' := by
  have HP := hide (fun s W => Parse_any s W)
  have HPR := hide (fun (x : Ex) (v : Value) (W : World) (hV : RexV W v x.rx) => Print_any x.rx v W hV)
  go_enter Try.func5, Try.ntmps5
  go_wp2_with fail
  refine ((unhide HP) ⟨#[40, 97, 124, 98, 41, 36]⟩ w).mono ?_
  rintro e w1 ⟨rv, a1, z1, rfl, b1, hp1⟩
  unfold PrsP at hp1
  rw [if_neg (by decide), xA_read] at hp1
  obtain ⟨rfl, rfl, hV1⟩ := hp1
  obtain ⟨s1, s2, s3, s4, o, n, c, rfl⟩ := rexN_form hV1
  rw [show xA.kind = 4 from rfl]
  have B1 := hide (b1.alloc b1.size (.cells #[.int .i64 4, .int .u64 s1, .int .u64 s2, .int .u64 s3, .int .u64 s4, .slice o n c] 27))
  clear b1 hV1
  go_wp2_with fail
  refine ((unhide HP) a0 _).mono ?_
  rintro e w2 ⟨rv2, a2, z2, rfl, b2, hp2⟩
  have B2 := hide (bel_trans (unhide B1) b2)
  have PP := hide hp2
  unfold PrsP at PP
  clear b2 hp2 B1
  have HCS : Hid ((∃ bb : Nat, rv2 = zeroV ∧ a2 = (bb : Int) ∧ z2 ≠ 0 ∧ bb ≤ a0.size) ∨ (∃ x b, readR a0 = .ok x b ∧ z2 = 0 ∧ RexV w2 rv2 x.rx)) := hide (by
    have hh := unhide PP
    by_cases h2 : 200 < a0.size
    · rw [if_pos h2] at hh
      exact .inl ⟨0, hh.1, hh.2.1, by rw [hh.2.2]; decide, Nat.zero_le _⟩
    · rw [if_neg h2] at hh
      cases hr : readR a0 with
      | ok x b => rw [hr] at hh; exact .inr ⟨x, b, rfl, hh.1, hh.2.2.rexV⟩
      | err e b => rw [hr] at hh; exact .inl ⟨b, hh.1, hh.2.1, hh.2.2.2.1, hh.2.2.2.2⟩)
  clear PP
  rcases unhide HCS with ⟨bb, hz1, hz2, hz3, hz4⟩ | ⟨x, b, hr, hz, hV⟩
  · subst hz1 hz2
    have hzb : (z2 != 0) = true := by simpa using hz3
    have hbI : (bb : Int) ≤ a0.size := by omega
    have hb0 : (0 : Int) ≤ bb := by omega
    have B3 := hide ((unhide B2).alloc (unhide B2).size (.cells #[.int .i64 0, .int .u64 0, .int .u64 0, .int .u64 0, .int .u64 0, .slice none 0 0] 27))
    unfold zeroV
    clear HCS hz3
    go_wp2_with fail
    go_ret
    exact ⟨ret_bool (by simp), unhide B3⟩
  · subst hz
    clear HCS
    obtain ⟨hnon, hchk⟩ := read_non hr
    obtain ⟨y, hy1, hy2, hy3, hy4⟩ := chk_ex hchk hV
    obtain rfl : x = y := rx_inj x y hy1
    have hback := read_back (full_sound hy4 hnon) hchk hy3
    have HBK := hide hback
    have HCHK := hide hchk
    have HV := hide hV
    have hVe := hV.val
    have hfit := hV.fit
    obtain ⟨te, hte, hkd⟩ := hVe
    obtain ⟨o2, c2, rfl, _⟩ := hkd.form
    obtain ⟨k2, hk2⟩ : ∃ z, x.rx.k = z := ⟨_, rfl⟩
    obtain ⟨⟨t1, t2, t3, t4⟩, ht1⟩ : ∃ z, x.rx.s = z := ⟨_, rfl⟩
    obtain ⟨n2, hn2⟩ : ∃ z, x.rx.ks.length = z := ⟨_, rfl⟩
    unfold rexV at hte
    rw [hk2, ht1, hn2] at hte
    dsimp only at hte
    subst hte
    clear hk2 ht1 hn2 hkd hfit hV hback hchk hr hnon hy1 hy2 hy3 hy4
    have R3 := hide (RX.new (base := w.heap.size) w2 (unhide B2).size k2 ⟨t1, t2, t3, t4⟩ (.slice o2 n2 c2))
    have bb3 : Below w2.heap.size w2 (w2.alloc (.cells #[.int .i64 k2, .int .u64 t1, .int .u64 t2, .int .u64 t3, .int .u64 t4, .slice o2 n2 c2] 27)) := (Below.refl _ _).alloc (Nat.le_refl _) _
    have B3 := hide (bel_trans (unhide B2) bb3)
    have HV3 := hide ((unhide HV).below bb3)
    dsimp only at R3
    obtain ⟨g2, hg2⟩ : ∃ g2, w2.heap.size = g2 := ⟨_, rfl⟩
    obtain ⟨W3, hW3⟩ : ∃ W3, w2.alloc (.cells #[.int .i64 k2, .int .u64 t1, .int .u64 t2, .int .u64 t3, .int .u64 t4, .slice o2 n2 c2] 27) = W3 := ⟨_, rfl⟩
    rw [hW3] at R3 B3 HV3
    rw [hg2] at R3
    have HPX := hide ((unhide HPR) x _ W3 (unhide HV3))
    rw [unhide HCHK] at HPX
    obtain ⟨y0, y1, y2, y3, y4, y5⟩ := (unhide R3).cells
    dsimp only at y1 y2 y3 y4
    have hgl := (unhide R3).lt.2
    clear bb3 HV B2
    go_wp2_with fail
    clear hW3 hg2
    refine (unhide HPX).mono ?_
    rintro e w4 ⟨q, rfl, hpq, b4⟩
    have hq := hpq.2 x rfl rfl
    have HQ := hide hq
    have R4 := hide ((unhide R3).below b4)
    have B4 := hide (bel_trans (unhide B3) b4)
    have HV4 := hide ((unhide HV3).below b4)
    clear b4 hpq hq R3 B3 HV3 HPX y0 y1 y2 y3 y4 y5 hgl
    go_wp2_with fail
    refine ((unhide HP) q w4).mono ?_
    rintro e w5 ⟨rv5, a5, z5, rfl, b5, hp5⟩
    have R5 := hide ((unhide R4).below b5)
    have B5 := hide (bel_trans (unhide B4) b5)
    have HV5 := hide ((unhide HV4).below b5)
    unfold PrsP at hp5
    have HC5 : Hid ((rv5 = zeroV ∧ z5 = 2) ∨ (z5 = 0 ∧ RexV w5 rv5 x.rx)) := hide (by
      by_cases h2 : 200 < q.size
      · rw [if_pos h2] at hp5; exact .inl ⟨hp5.1, hp5.2.2⟩
      · rw [if_neg h2] at hp5
        have hqr := unhide HBK
        rw [← unhide HQ] at hqr
        rw [hqr] at hp5
        exact .inr ⟨hp5.1, hp5.2.2.rexV⟩)
    clear b5 hp5 R4 B4 HV4
    rcases unhide HC5 with ⟨h1, h2⟩ | ⟨h1, h2⟩
    · subst h1 h2
      have B6 := hide ((unhide B5).alloc (unhide B5).size (.cells #[.int .i64 0, .int .u64 0, .int .u64 0, .int .u64 0, .int .u64 0, .slice none 0 0] 27))
      have HZ := hide (Print_any (.mk 0 noSet []) zeroV _ (⟨⟨.slice none 0 0, rfl, Kd.nil (w5.alloc (.cells #[.int .i64 0, .int .u64 0, .int .u64 0, .int .u64 0, .int .u64 0, .slice none 0 0] 27))⟩, by unfold Fit; simp [Rx.k, Rx.s, noSet]⟩))
      unfold zeroV at *
      obtain ⟨cz, hcz⟩ : ∃ cz, chkR (.mk 0 noSet []) = cz := ⟨_, rfl⟩
      rw [hcz] at HZ
      clear HC5 hcz
      go_wp2_with fail
      refine (unhide HZ).mono ?_
      rintro e w6 ⟨q6, rfl, _, b6⟩
      have B7 := hide (bel_trans (unhide B6) b6)
      clear b6
      go_wp2_with fail
      go_ret
      exact ⟨ret_bool (by simp), unhide B7⟩
    · subst h1
      have HVY := hide h2
      obtain ⟨te, hte, hkd⟩ := h2.val
      obtain ⟨o6, c6, rfl, _⟩ := hkd.form
      obtain ⟨k6, hk6⟩ : ∃ z, x.rx.k = z := ⟨_, rfl⟩
      obtain ⟨⟨v1, v2, v3, v4⟩, ht6⟩ : ∃ z, x.rx.s = z := ⟨_, rfl⟩
      obtain ⟨n6, hn6⟩ : ∃ z, x.rx.ks.length = z := ⟨_, rfl⟩
      unfold rexV at hte
      rw [hk6, ht6, hn6] at hte
      dsimp only at hte
      subst hte
      clear hk6 ht6 hn6 hkd h2 HC5
      have S6 := hide (RX.new (base := w.heap.size) w5 (unhide B5).size k6 ⟨v1, v2, v3, v4⟩ (.slice o6 n6 c6))
      have bb6 : Below w5.heap.size w5 (w5.alloc (.cells #[.int .i64 k6, .int .u64 v1, .int .u64 v2, .int .u64 v3, .int .u64 v4, .slice o6 n6 c6] 27)) := (Below.refl _ _).alloc (Nat.le_refl _) _
      have R6 := hide ((unhide R5).below bb6)
      have B6 := hide (bel_trans (unhide B5) bb6)
      have HX6 := hide ((unhide HV5).below bb6)
      have HY6 := hide ((unhide HVY).below bb6)
      dsimp only at S6
      obtain ⟨g6, hg6⟩ : ∃ g, w5.heap.size = g := ⟨_, rfl⟩
      obtain ⟨W6, hW6⟩ : ∃ W, w5.alloc (.cells #[.int .i64 k6, .int .u64 v1, .int .u64 v2, .int .u64 v3, .int .u64 v4, .slice o6 n6 c6] 27) = W := ⟨_, rfl⟩
      rw [hW6] at S6 R6 B6 HX6 HY6
      rw [hg6] at S6
      have HPY := hide ((unhide HPR) x _ W6 (unhide HY6))
      rw [unhide HCHK] at HPY
      obtain ⟨y0, y1, y2, y3, y4, y5⟩ := (unhide S6).cells
      dsimp only at y1 y2 y3 y4
      clear bb6 R5 B5 HV5 HVY
      go_wp2_with fail
      clear hW6 hg6
      refine (unhide HPY).mono ?_
      rintro e w7 ⟨q7, rfl, hpq7, b7⟩
      have hq7 : q7 = q := by rw [hpq7.2 x rfl rfl]; exact (unhide HQ).symm
      subst hq7
      have R7 := hide ((unhide R6).below b7)
      have S7 := hide ((unhide S6).below b7)
      have B7 := hide (bel_trans (unhide B6) b7)
      have HSR := hide (sameRex_any x.rx x.rx _ _ w7 ((unhide HX6).below b7) ((unhide HY6).below b7))
      clear b7 hpq7 R6 S6 B6 HX6 HY6 HPY y0 y1 y2 y3 y4 y5
      obtain ⟨y0, y1, y2, y3, y4, y5⟩ := (unhide R7).cells
      obtain ⟨u0, u1, u2, u3, u4, u5⟩ := (unhide S7).cells
      dsimp only at y1 y2 y3 y4 u1 u2 u3 u4
      go_wp2_with fail
      refine (unhide HSR).mono ?_
      rintro e w8 ⟨bt, rfl, hbt, b8⟩
      obtain rfl : bt = true := hbt.2 (by simp)
      have B8 := hide (bel_trans (unhide B7) b8)
      clear b8 hbt HSR
      go_wp2_with fail
      go_ret
      exact ⟨ret_bool (by simp), unhide B8⟩
theorem own : ownKnob Try.prog.godebug = none := by kernel_rfl

theorem small_of {H : Type} {a0 : ByteArray} (hk : Rows.uptoSmall H ([.lit (.string a0.data.toList)] ++ []) = true) : a0.size ≤ 1048576 := by
  have h := of_decide_eq_true hk
  simp only [Rows.uptoBulkAll, Rows.uptoBulk, List.append_nil, Array.length_toList, ByteArray.size_data] at h
  omega

theorem contract (H : Type) (enc : TypeId × Value → H) (W : World) (base : Nat) (args : Array Value) (ds gs : List (DataW H)) (before : List MemPlace) (hsh : W.ShapedOpen Try.prog)
    (hval0 : ∀ (j : Nat) t v, Try.f5.params[j]? = some t → args[j]? = some v → Value.okWide Try.prog W .any base t v)
    (hW : DataW.Whole enc Try.prog Try.f5.params.toList Rows.rexAgainSpec.vars false W args.toList ds gs before) (hk : Rows.uptoSmall H (ds ++ gs) = true) :
    Calls Try.prog 5 args W fun e W' => ∃ v, e = .returned v ∧ Rows.rexAgainSpec.post enc Try.prog Try.f5 false true false false W args v W' := by
  have hval : ∀ (j : Nat) t v, Try.f5.params[j]? = some t → args[j]? = some v → Value.okWide Try.prog W .any base t v := hval0
  have hW' := hW
  obtain ⟨p, q, hA0, hV, rfl, hfz, hnd⟩ := hW
  have hA : DataW.TrodAll enc Try.prog W 0 (fun _ => true) true Try.f5.params.toList args.toList ds p := hA0
  rw [Try.params5] at hA hval
  obtain ⟨v0, vs0, d0, ds0, p0, q0, hargs, rfl, rfl, h0, r0⟩ := trodAll_cons hA
  obtain ⟨rfl, rfl, rfl⟩ := trodAll_nil r0
  obtain rfl : args = #[v0] := by cases args; simp_all
  obtain ⟨rfl, rfl⟩ := trodVars_none hV
  obtain ⟨a0, rfl, rfl, rfl, w0⟩ := open_string Try.underlying9 (hval 0 9 v0 rfl rfl) h0
  clear hA0 hval0
  simp only [List.append_nil] at hW'
  refine (walk a0 (small_of hk) W).mono fun e W' ⟨he, hb⟩ => ?_
  subst he
  exact ⟨_, rfl, _, _, _, [], [], [], hW', (trodAll_cons_mk (shut_bool Try.underlying4 _) trodAll_mk0), (trodAll_cons_mk (shut_string Try.underlying9 w0) trodAll_mk0), rfl, hb.frame _, fun h => by cases h⟩

set_option maxRecDepth 100000 in
theorem lifted (os : Os) (started : os.Started) (H : Type) (enc : TypeId × Value → H) (F : Stop.Interp) :
    ReturnsInHanded {} Try.checked os 5 .any ((Rows.OpenSpec.upto Rows.rexAgainSpec).pre6 enc Try.prog Try.f5 Rows.rexAgainUptoRow.domain false) (((Rows.OpenSpec.upto Rows.rexAgainSpec).at F).post enc Try.prog Try.f5 false true false false) := by
  refine cond_shaped (C := Try.checked) (s := Rows.OpenSpec.upto Rows.rexAgainSpec) (k := Rows.uptoSmall) rfl own started (by kernel_rfl) Try.func5
    (OpenSpec.witness (enc := enc) (C := Try.checked) (s := Rows.OpenSpec.upto Rows.rexAgainSpec) (k := Rows.uptoSmall) rfl false ⟨#[], #[.string ByteArray.empty], []⟩ 8 (by kernel_rfl) (by kernel_rfl) (by kernel_rfl)
      (x := ([.lit (.string [])], [], [])) (by kernel_rfl) rfl (by kernel_rfl)) ?_
  intro W base args ds gs before hsh hval hW hk
  exact contract H enc W base args ds gs before hsh hval hW hk

theorem over : Rows.RexAgainUptoSaid :=
  OpenClaim.holds_of_cond 5 Try.f5 rfl rfl rfl rfl rfl rfl rfl ⟨rfl, rfl, rfl, rfl, rfl⟩ rfl rfl rfl rfl rfl (by kernel_rfl) Try.func5 (by kernel_rfl)
    (of_decide_eq_true (by kernel_rfl)) (by unfold Func.isWrapper; first | (rw [if_pos (by decide +kernel)]; kernel_rfl) | (rw [if_neg (by decide +kernel)]; exact ⟨rfl, rfl⟩))
    (fun os started H enc _ F => lifted os started H enc F)
end Go.Proofs.Ytjdkogeeokccpaa.rexAgain
namespace Go.Proofs.Ytjdkogeeokccpaa
theorem rexAgain_holds : Rows.RexAgainUptoSaid := rexAgain.over
#print axioms rexAgain_holds
end Go.Proofs.Ytjdkogeeokccpaa
