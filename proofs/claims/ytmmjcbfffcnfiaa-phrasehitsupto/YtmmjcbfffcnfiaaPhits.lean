/- Whatever is handed in, the program's Check, Hits and Some answer what the document says of trees of phrases.
   Conditions: what is handed in is of bulk at most 1048576. -/
import Derived.Test.YtmmjcbfffcnfiaaRows
import Derived.WalkKit
import Derived.ProofKit
import Derived.OpenShut
import Derived.ShutString
import Derived.JoinedCond
import Derived.Test.YtmmjcbfffcnfiaaFg
import Derived.Test.YtmmjcbfffcnfiaaFo
import Derived.Test.YtmmjcbfffcnfiaaWrap
namespace Go.Proofs.Ytmmjcbfffcnfiaa.phraseHits
open Go.RowKit Kb Go.ChangeShapes Go.WideShapes Go.ChangeAt Ph
open Go.ChangeMaps (open_string shut_string)
set_option linter.unusedVariables false
set_option maxRecDepth 20000

theorem owns_len {w : World} {B : Nat} {v : Value} {l : List Ht} (h : w.ownsRow B 38 2 v l.length (cellsH l)) : ∃ o c, v = .slice o l.length c := by
  obtain ⟨o, c, rfl, _⟩ := own_forms h
  exact ⟨o, c, rfl⟩

set_option maxHeartbeats 8000000 in
theorem walk (v0 : Value) (T : List Nd) (words : Int) (s : ByteArray) (hb : s.size ≤ 1048576) (hwd : -9223372036854775808 ≤ words ∧ words ≤ 9223372036854775807) (w : World) (hT : Tree w v0 T) (hM : ∀ i, i < T.length → (nd T i).ends.length ≤ 1048576) :
    Calls Try.prog 4 #[v0, .int .i64 words, .string s] w fun e w' => e = .returned (.bool true) ∧ Below w.heap.size w w' := by
  obtain ⟨o, cp, rfl, hcp⟩ := hT.form
  have HT := hide hT
  have HM := hide hM
  have HWD := hide hwd
  have hs2 : s.size ≤ 2097152 := by omega
  clear hT hM
  have C1 := hide (fun (w' : World) (b : Below w.heap.size w w') => right_any w' _ T words ((unhide HT).below b) (unhide HWD))
  have C2 := hide (fun (w' : World) (b : Below w.heap.size w w') => hits_t w' _ T words s ((unhide HT).below b) (unhide HWD) hs2 (unhide HM))
  have C3 := hide (fun (w' : World) (b : Below w.heap.size w w') => some_t w' _ T words s ((unhide HT).below b) (unhide HWD) hs2)
  have C4 := hide (fun (w' : World) (b : Below w.heap.size w w') => check_t w' _ T words ((unhide HT).below b) (unhide HWD))
  obtain ⟨z, hz⟩ : ∃ z, chk T words = z := ⟨_, rfl⟩
  rw [hz] at C1 C4
  obtain ⟨r, hr⟩ : ∃ r, rdy T words s.size = r := ⟨_, rfl⟩
  have HZ := hide hz
  have HR := hide hr
  obtain ⟨is, his⟩ : ∃ is, smB T words s = is := ⟨_, rfl⟩
  have HIS := hide his
  rw [hr] at C2 C3
  rw [his] at C3
  clear his hwd
  by_cases hr0 : r = 0
  · subst hr0
    obtain ⟨hz0, hlen⟩ := rdy_ok hr
    obtain rfl : z = 0 := hz.symm.trans hz0
    have RT := hide (right_of hz0).1
    have C5 := hide (fun (w' : World) (b : Below w.heap.size w w') => rhits_any w' _ T s ((unhide HT).below b) (unhide RT) hlen (unhide HM))
    clear hz hr hz0
    obtain ⟨L, hL⟩ : ∃ L, hits T s.data.toList s.size = L := ⟨_, rfl⟩
    have hll : L.length ≤ 8192 * 1048576 := by
      rw [← hL]
      exact Nat.le_trans (hits_len T _ 1048576 (unhide HM) (unhide RT).ne _) (Nat.mul_le_mul_right _ hlen)
    rw [hL] at C2 C5
    have HISL : Hid (is = decide (0 < L.length)) := hide (by
      rw [← unhide HIS]; unfold smB; rw [hL, unhide HR]; cases L <;> simp)
    clear hL HIS
    go_enter Try.func4, Try.ntmps4
    go_wp2_with fail
    refine ((unhide C1) _ (Below.refl _ _)).mono ?_
    rintro e w1 ⟨rfl, b1⟩
    have B1 := hide b1
    clear b1
    go_wp2_with fail
    refine ((unhide C2) _ (unhide B1)).mono ?_
    rintro e w2 ⟨x, rfl, b2, hx, _⟩
    have B2 := hide (bel_trans (unhide B1) b2)
    have hx := hx trivial
    obtain ⟨o1, c1, rfl⟩ := owns_len hx
    have OX := hide hx
    clear b2 hx
    go_wp2_with fail
    refine ((unhide C3) _ (unhide B2)).mono ?_
    rintro e w3 ⟨rfl, b3⟩
    have B3 := hide (bel_trans (unhide B2) b3)
    have OX3 := hide (own_below (unhide OX) b3)
    clear b3
    go_wp2_with fail
    refine ((unhide C4) _ (unhide B3)).mono ?_
    rintro e w4 ⟨rfl, b4⟩
    have B4 := hide (bel_trans (unhide B3) b4)
    have OX4 := hide (own_below (unhide OX3) b4)
    clear b4
    rw [unhide HISL]
    by_cases h200 : 200 < s.size
    · by_cases hp : 0 < L.length
      · rw [decide_eq_true hp]
        have hpI : (0 : Int) < L.length := by omega
        go_wp2
        go_ret
        exact ⟨rfl, unhide B4⟩
      · have hp0 : L.length = 0 := by omega
        rw [decide_eq_false hp, hp0]
        go_wp2
        go_ret
        exact ⟨rfl, unhide B4⟩
    · by_cases hp : 0 < L.length
      · rw [decide_eq_true hp]
        have hpI : (0 : Int) < L.length := by omega
        go_wp2_with fail
        refine ((unhide C5) _ (unhide B4)).mono ?_
        rintro e w5 ⟨y, rfl, b5, hy⟩
        have B5 := hide (bel_trans (unhide B4) b5)
        have OX5 := hide (own_below (unhide OX4) b5)
        obtain ⟨o2, c2, rfl⟩ := owns_len hy
        have OY := hide hy
        clear b5 hy
        have CE := hide (equal_hits w5 _ _ _ _ L (unhide OX5) (unhide OY) (by omega))
        go_wp2_with fail
        refine (unhide CE).mono ?_
        rintro e w6 ⟨rfl, b6⟩
        have B6 := hide (bel_trans (unhide B5) b6)
        clear b6
        go_wp2
        go_ret
        exact ⟨rfl, unhide B6⟩
      · rw [decide_eq_false hp]
        have hpI : ¬ (0 : Int) < L.length := by omega
        go_wp2_with fail
        refine ((unhide C5) _ (unhide B4)).mono ?_
        rintro e w5 ⟨y, rfl, b5, hy⟩
        have B5 := hide (bel_trans (unhide B4) b5)
        have OX5 := hide (own_below (unhide OX4) b5)
        obtain ⟨o2, c2, rfl⟩ := owns_len hy
        have OY := hide hy
        clear b5 hy
        have CE := hide (equal_hits w5 _ _ _ _ L (unhide OX5) (unhide OY) (by omega))
        go_wp2_with fail
        refine (unhide CE).mono ?_
        rintro e w6 ⟨rfl, b6⟩
        have B6 := hide (bel_trans (unhide B5) b6)
        clear b6
        go_wp2
        go_ret
        exact ⟨rfl, unhide B6⟩
  · have HNR : Hid (r ≠ 0) := hide hr0
    have hisf : is = false := by
      rw [← unhide HIS]; unfold smB; rw [unhide HR]; simp; exact fun h => absurd h hr0
    subst hisf
    clear HIS
    by_cases hz0 : z = 0
    · subst hz0
      obtain ⟨hr2, hbig⟩ : r = 2 ∧ 8192 < s.size := by
        unfold rdy at hr
        by_cases g : chk T words = 0 ∧ 8192 < s.size
        · rw [if_pos g] at hr; exact ⟨hr.symm, g.2⟩
        · rw [if_neg g, hz] at hr; exact absurd hr.symm hr0
      subst hr2
      clear hz hr hr0
      go_enter Try.func4, Try.ntmps4
      go_wp2_with fail
      refine ((unhide C1) _ (Below.refl _ _)).mono ?_
      rintro e w1 ⟨rfl, b1⟩
      have B1 := hide b1
      clear b1
      go_wp2_with fail
      refine ((unhide C2) _ (unhide B1)).mono ?_
      rintro e w2 ⟨x, rfl, b2, _, hx⟩
      have B2 := hide (bel_trans (unhide B1) b2)
      obtain rfl := hx (unhide HNR)
      clear b2 hx
      go_wp2_with fail
      refine ((unhide C3) _ (unhide B2)).mono ?_
      rintro e w3 ⟨rfl, b3⟩
      have B3 := hide (bel_trans (unhide B2) b3)
      clear b3
      go_wp2_with fail
      refine ((unhide C4) _ (unhide B3)).mono ?_
      rintro e w4 ⟨rfl, b4⟩
      have B4 := hide (bel_trans (unhide B3) b4)
      clear b4
      go_wp2
      go_ret
      exact ⟨rfl, unhide B4⟩
    · obtain rfl : r = z := by
        unfold rdy at hr
        rw [if_neg (fun g => hz0 (hz.symm.trans g.1)), hz] at hr; exact hr.symm
      have hzb : (r == 0) = false := by simp; exact hz0
      have hzn : (r != 0) = true := by simp; exact hz0
      clear hz hr hr0 hz0
      go_enter Try.func4, Try.ntmps4
      go_wp2_with fail
      refine ((unhide C1) _ (Below.refl _ _)).mono ?_
      rintro e w1 ⟨rfl, b1⟩
      have B1 := hide b1
      clear b1
      go_wp2_with fail
      refine ((unhide C2) _ (unhide B1)).mono ?_
      rintro e w2 ⟨x, rfl, b2, _, hx⟩
      have B2 := hide (bel_trans (unhide B1) b2)
      obtain rfl := hx (unhide HNR)
      clear b2 hx
      go_wp2_with fail
      refine ((unhide C3) _ (unhide B2)).mono ?_
      rintro e w3 ⟨rfl, b3⟩
      have B3 := hide (bel_trans (unhide B2) b3)
      clear b3
      go_wp2_with fail
      refine ((unhide C4) _ (unhide B3)).mono ?_
      rintro e w4 ⟨rfl, b4⟩
      have B4 := hide (bel_trans (unhide B3) b4)
      clear b4
      go_wp2
      go_ret
      exact ⟨rfl, unhide B4⟩
theorem own : ownKnob Try.prog.godebug = none := by kernel_rfl

theorem small_of {H : Type} {a0 : DataW H} {a1 : Int} {a2 : ByteArray} (hk : Rows.uptoSmall H ([a0, .lit (.int .i64 a1), .lit (.string a2.data.toList)] ++ []) = true) : Rows.uptoBulk a0 + a2.size ≤ 1048576 := by
  have h := of_decide_eq_true hk
  simp only [Rows.uptoBulkAll, Rows.uptoBulk, List.append_nil, Array.length_toList, ByteArray.size_data] at h
  omega

set_option maxRecDepth 100000 in
theorem contract (H : Type) (enc : TypeId × Value → H) (W : World) (base : Nat) (args : Array Value) (ds gs : List (DataW H)) (before : List MemPlace) (hsh : W.ShapedOpen Try.prog)
    (hval0 : ∀ (j : Nat) t v, Try.f4.params[j]? = some t → args[j]? = some v → Value.okWide Try.prog W .any base t v)
    (hW : DataW.Whole enc Try.prog Try.f4.params.toList Rows.phraseHitsSpec.vars false W args.toList ds gs before) (hk : Rows.uptoSmall H (ds ++ gs) = true) :
    Calls Try.prog 4 args W fun e W' => ∃ v, e = .returned v ∧ Rows.phraseHitsSpec.post enc Try.prog Try.f4 false true false false W args v W' := by
  have hval : ∀ (j : Nat) t v, Try.f4.params[j]? = some t → args[j]? = some v → Value.okWide Try.prog W .any base t v := hval0
  have hW' := hW
  obtain ⟨p, q, hA0, hV, rfl, hfz, hnd⟩ := hW
  have hA : DataW.TrodAll enc Try.prog W 0 (fun _ => true) true Try.f4.params.toList args.toList ds p := hA0
  rw [Try.params4] at hA hval
  obtain ⟨v0, vs0, d0, ds0, p0, q0, hargs, rfl, rfl, h0, r0⟩ := trodAll_cons hA
  obtain ⟨v1, vs1, d1, ds1, p1, q1, rfl, rfl, rfl, h1, r1⟩ := trodAll_cons r0
  obtain ⟨v2, vs2, d2, ds2, p2, q2, rfl, rfl, rfl, h2, r2⟩ := trodAll_cons r1
  obtain ⟨rfl, rfl, rfl⟩ := trodAll_nil r2
  obtain rfl : args = #[v0, v1, v2] := by cases args; simp_all
  obtain ⟨rfl, rfl⟩ := trodVars_none hV
  obtain ⟨a1, rfl, rfl, rfl, w1⟩ := open_int Try.underlying3 (hval 1 3 v1 rfl rfl) h1
  obtain ⟨a2, rfl, rfl, rfl, w2⟩ := open_string Try.underlying9 (hval 2 9 v2 rfl rfl) h2
  have hsm := small_of hk
  obtain ⟨z0, hI0, hz0, hlt0⟩ := open_tree_in (hval 0 23 v0 rfl rfl) h0 (by omega)
  clear hA0 hval0
  have hi1 : -9223372036854775808 ≤ a1 ∧ a1 ≤ 9223372036854775807 := by simpa [Lit.wf, IntKind.min, IntKind.max, IntKind.signed, IntKind.bits] using w1
  refine (walk v0 z0 a1 a2 (by omega) hi1 W hI0 hz0).mono fun e W' ⟨he, hb⟩ => ?_
  subst he
  exact ⟨_, rfl, _, _, _, [], (p0 ++ []), [], hW', (trodAll_cons_mk (shut_bool Try.underlying4 _) trodAll_mk0), (trodAll_cons_mk (Below.trod laidOutAll (by kernel_rfl) (of_decide_eq_true (by kernel_rfl)) h0 hb hlt0) (trodAll_cons_mk (shut_int Try.underlying3 w1) (trodAll_cons_mk (shut_string Try.underlying9 w2) trodAll_mk0))), rfl, hb.frame _, fun h => by cases h⟩

set_option maxRecDepth 100000 in
theorem lifted (os : Os) (started : os.Started) (H : Type) (enc : TypeId × Value → H) (F : Stop.Interp) :
    ReturnsInHanded {} Try.checked os 4 .any ((Rows.OpenSpec.upto Rows.phraseHitsSpec).pre6 enc Try.prog Try.f4 Rows.phraseHitsUptoRow.domain false) (((Rows.OpenSpec.upto Rows.phraseHitsSpec).at F).post enc Try.prog Try.f4 false true false false) := by
  refine cond_shaped (C := Try.checked) (s := Rows.OpenSpec.upto Rows.phraseHitsSpec) (k := Rows.uptoSmall) rfl own started (by kernel_rfl) Try.func4
    (OpenSpec.witness (enc := enc) (C := Try.checked) (s := Rows.OpenSpec.upto Rows.phraseHitsSpec) (k := Rows.uptoSmall) rfl false ⟨#[], #[.slice none 0 0, .int .i64 0, .string ByteArray.empty], []⟩ 8 (by kernel_rfl) (by kernel_rfl) (by kernel_rfl)
      (x := ([.nil, .lit (.int .i64 0), .lit (.string [])], [], [])) (by kernel_rfl) rfl (by kernel_rfl)) ?_
  intro W base args ds gs before hsh hval hW hk
  exact contract H enc W base args ds gs before hsh hval hW hk

theorem over : Rows.PhraseHitsUptoSaid :=
  OpenClaim.holds_of_cond 4 Try.f4 rfl rfl rfl rfl rfl rfl rfl ⟨rfl, rfl, rfl, rfl, rfl⟩ rfl rfl rfl rfl rfl (by kernel_rfl) Try.func4 (by kernel_rfl)
    (of_decide_eq_true (by kernel_rfl)) (by unfold Func.isWrapper; first | (rw [if_pos (by decide +kernel)]; kernel_rfl) | (rw [if_neg (by decide +kernel)]; exact ⟨rfl, rfl⟩))
    (fun os started H enc _ F => lifted os started H enc F)
end Go.Proofs.Ytmmjcbfffcnfiaa.phraseHits
namespace Go.Proofs.Ytmmjcbfffcnfiaa
theorem phraseHits_holds : Rows.PhraseHitsUptoSaid := phraseHits.over
#print axioms phraseHits_holds
end Go.Proofs.Ytmmjcbfffcnfiaa
