/- For all texts s, t, u and every number from, together of bulk at most 1048576, and whatever number the library's own variable MaxLen holds, the call of OctetFinds returns true and leaves its arguments as they were; the condition is the bulk. -/
import Derived.Test.YtemkbobofoimaaaRows
import Derived.WalkKit
import Derived.ProofKit
import Derived.OpenShut
import Derived.ShutString
import Derived.JoinedCond
import Derived.Test.YtemkbobofoimaaaWf
import Derived.Test.YtemkbobofoimaaaWrap
namespace Go.Proofs.Ytemkbobofoimaaa.octetFinds
open Go.ChangeShapes Go.WideShapes Go.ChangeAt Go.RowKit
open Go.ChangeMaps (open_string shut_string)
set_option linter.unusedVariables false

theorem first_find : Fnd.find [97, 98, 97, 98] [97, 98] 1 = 2 := by decide

set_option maxHeartbeats 2000000 in
theorem walk (s t u : ByteArray) (frm m : Int) (w : World) (hs : s.size + t.size + u.size ≤ 1048576) (hf : -9223372036854775808 ≤ frm) (hf' : frm ≤ 9223372036854775807) (hm : w.cell? ⟨0, 0, none⟩ = some (.int .i64 m)) :
    Calls Try.prog 5 #[.string s, .string t, .string u, .int .i64 frm] w fun e w' => e = .returned (.bool true) ∧ Grown w w' := by
  have H1 := hide1 (find_any ⟨#[97, 98, 97, 98]⟩ ⟨#[97, 98]⟩ 1 m w (by decide) (by omega) (by omega) hm)
  rw [show Fnd.find (⟨#[97, 98, 97, 98]⟩ : ByteArray).data.toList (⟨#[97, 98]⟩ : ByteArray).data.toList 1 = 2 from first_find] at H1
  have H2 := hide1 (find_any s t frm m w (by omega) hf hf' hm)
  have H4 := hide1 (find_any (u ++ t ++ s) t 0 m w (by simp; omega) (by omega) (by omega) hm)
  have hmid := Fnd.find_mid u.data.toList t.data.toList s.data.toList
  rw [show (u ++ t ++ s).data.toList = u.data.toList ++ t.data.toList ++ s.data.toList from by simp] at H4
  rw [show u.data.toList.length = u.size from by simp] at hmid
  generalize Fnd.find (u.data.toList ++ t.data.toList ++ s.data.toList) t.data.toList 0 = g at *
  rcases Fnd.find_spec s.data.toList t.data.toList frm with ⟨hF, _⟩ | ⟨k, hF, hk1, hk2, hk3, hk4⟩
  · rw [hF] at H2
    clear hF
    go_enter Try.func5, Try.ntmps5
    go_wp2_with fail
    refine (H1.out).mono ?_; rintro e w' ⟨rfl, rfl⟩
    go_wp2_with fail
    refine (H2.out).mono ?_; rintro e w' ⟨rfl, rfl⟩
    go_wp2_with fail
    refine (H4.out).mono ?_; rintro e w' ⟨rfl, rfl⟩
    go_wp2_with fail
    go_ret
    exact ⟨by simp [*], Grown.refl _⟩
  · have hkl : k ≤ s.size := by simpa using hk2
    have H3 := hide1 (find_any s t k m w (by omega) (by omega) (by omega) hm)
    rw [Fnd.find_again _ _ _ _ hF] at H3
    rw [hF] at H2
    obtain ⟨hr, ht⟩ := Fnd.occ_take hk2 hk3
    have hsz : k + t.size ≤ s.size := by simpa using hr
    have hext : (s.extract k (k + t.size)).toList = t.toList := by
      rw [Lib.extract_toList, show k + t.size - k = t.data.toList.length from by simp, ht, ByteArray.toList_eq]
    have HK := hide1 hk4
    clear hF hk3 hk4 ht hr hk2
    go_enter Try.func5, Try.ntmps5
    go_wp2_with fail
    refine (H1.out).mono ?_; rintro e w' ⟨rfl, rfl⟩
    go_wp2_with fail
    refine (H2.out).mono ?_; rintro e w' ⟨rfl, rfl⟩
    go_wp2_with fail
    refine (H3.out).mono ?_; rintro e w' ⟨rfl, rfl⟩
    clear hext H1 H2 H3
    go_wp2_with fail
    go_loop [10] (fun i => ∃ j : Nat, i = .int .i64 j ∧ max frm 0 ≤ j ∧ j ≤ k) (fun i => k - (intOf i).toNat)
    case atStart => exact ⟨(max frm 0).toNat, by rw [Int.toNat_of_nonneg (by omega)], by omega, by omega⟩
    case round =>
      obtain ⟨j, rfl, hj1, hj2⟩ := hrel
      by_cases hlt : j < k
      · have hno := HK.out j hj1 hlt
        have hne : ((s.extract j (j + t.size)).toList == t.toList) = false := by
          rw [beq_eq_false_iff_ne, Lib.extract_toList, show j + t.size - j = t.data.toList.length from by simp, ByteArray.toList_eq]
          exact Fnd.occ_not (by simp; omega) hno
        clear hno
        go_wp2_with fail
        exact ⟨⟨j + 1, by go_num, by omega, by omega⟩, by simp [intOf]; omega⟩
      · go_wp2_with fail
        refine (H4.out).mono ?_; rintro e w' ⟨rfl, rfl⟩
        go_wp2_with fail
        go_ret
        exact ⟨by simp [*], Grown.refl _⟩

theorem own : ownKnob Try.prog.godebug = none := by kernel_rfl

theorem small_of {H : Type} {s t u : ByteArray} {n : Int} (hk : Rows.uptoSmall H ([.lit (.string s.data.toList), .lit (.string t.data.toList), .lit (.string u.data.toList), .lit (.int .i64 n)] ++ []) = true) : s.size + t.size + u.size ≤ 1048576 := by
  have h := of_decide_eq_true hk
  simp only [Rows.uptoBulkAll, Rows.uptoBulk, List.append_nil, Array.length_toList, ByteArray.size_data] at h
  omega

set_option maxRecDepth 100000 in
theorem lifted (os : Os) (started : os.Started) (H : Type) (enc : TypeId × Value → H) (F : Stop.Interp) :
    ReturnsInHanded {} Try.checked os 5 .any ((Rows.OpenSpec.upto Rows.octetFindsSpec).pre6 enc Try.prog Try.f5 Rows.octetFindsUptoRow.domain false) (((Rows.OpenSpec.upto Rows.octetFindsSpec).at F).post enc Try.prog Try.f5 false true false false) := by
  refine cond_shaped (C := Try.checked) (s := Rows.OpenSpec.upto Rows.octetFindsSpec) (k := Rows.uptoSmall) rfl own started (by kernel_rfl) Try.func5
    (OpenSpec.witness (enc := enc) (C := Try.checked) (s := Rows.OpenSpec.upto Rows.octetFindsSpec) (k := Rows.uptoSmall) rfl false ⟨#[], #[.string ByteArray.empty, .string ByteArray.empty, .string ByteArray.empty, .int .i64 0], []⟩ 8 (by kernel_rfl) (by kernel_rfl) (by kernel_rfl)
      (x := ([.lit (.string []), .lit (.string []), .lit (.string []), .lit (.int .i64 0)], [], [])) (by kernel_rfl) rfl (by kernel_rfl)) ?_
  intro W base args ds gs before hsh hval0 hW hk
  have hval : ∀ (j : Nat) t v, Try.f5.params[j]? = some t → args[j]? = some v → Value.okWide Try.prog W .any base t v := hval0
  have hW' := hW
  obtain ⟨p, q, hA0, hV, rfl, hfz, hnd⟩ := hW
  have hA : DataW.TrodAll enc Try.prog W 0 (fun _ => true) true Try.f5.params.toList args.toList ds p := hA0
  rw [Try.params5] at hA hval
  obtain ⟨v0, vs0, d0, ds0, p0, q0, hargs, rfl, rfl, h0, r0⟩ := trodAll_cons hA
  obtain ⟨v1, vs1, d1, ds1, p1, q1, rfl, rfl, rfl, h1, r1⟩ := trodAll_cons r0
  obtain ⟨v2, vs2, d2, ds2, p2, q2, rfl, rfl, rfl, h2, r2⟩ := trodAll_cons r1
  obtain ⟨v3, vs3, d3, ds3, p3, q3, rfl, rfl, rfl, h3, r3⟩ := trodAll_cons r2
  obtain ⟨rfl, rfl, rfl⟩ := trodAll_nil r3
  obtain rfl : args = #[v0, v1, v2, v3] := by cases args; simp_all
  obtain ⟨rfl, rfl⟩ := trodVars_none hV
  obtain ⟨a0, rfl, rfl, rfl, w0⟩ := open_string Try.underlying9 (hval 0 9 v0 rfl rfl) h0
  obtain ⟨a1, rfl, rfl, rfl, w1⟩ := open_string Try.underlying9 (hval 1 9 v1 rfl rfl) h1
  obtain ⟨a2, rfl, rfl, rfl, w2⟩ := open_string Try.underlying9 (hval 2 9 v2 rfl rfl) h2
  obtain ⟨a3, rfl, rfl, rfl, w3⟩ := open_int Try.underlying3 (hval 3 3 v3 rfl rfl) h3
  clear hA0 hval0
  simp only [List.append_nil] at hW'
  have hb : -9223372036854775808 ≤ a3 ∧ a3 ≤ 9223372036854775807 := by simpa [Lit.wf, IntKind.min, IntKind.max, IntKind.signed, IntKind.bits] using w3
  obtain ⟨m, hm⟩ := Try.laysM143.s1_3 W hsh
  refine (walk a0 a1 a2 a3 m W (small_of hk) hb.1 hb.2 hm).mono fun e W' ⟨he, hg⟩ => ?_
  subst he
  exact ⟨_, rfl, post_of_same (pa := []) (pv := []) hW' (fun _ _ _ => (trodAll_cons_mk (shut_bool Try.underlying4 _) trodAll_mk0)) (fun sp _ => (trodAll_cons_mk (shut_string Try.underlying9 w0) (trodAll_cons_mk (shut_string Try.underlying9 w1) (trodAll_cons_mk (shut_string Try.underlying9 w2) (trodAll_cons_mk (shut_int Try.underlying3 w3) trodAll_mk0))))) (fun _ _ => rfl) rfl
    (hg.frame _) hg.2.1 (ok_one (by kernel_rfl) rfl (okWide_bool_mk Try.underlying4 _))⟩

theorem over : Rows.octetFindsUptoRow.holds Try.pinned (Rows.OpenSpec.upto Rows.octetFindsSpec) :=
  OpenClaim.holds_of_cond 5 Try.f5 rfl rfl rfl rfl rfl rfl rfl ⟨rfl, rfl, rfl, rfl, rfl⟩ rfl rfl rfl rfl rfl (by kernel_rfl) Try.func5 (by kernel_rfl)
    (of_decide_eq_true (by kernel_rfl)) (by unfold Func.isWrapper; first | (rw [if_pos (by decide +kernel)]; kernel_rfl) | (rw [if_neg (by decide +kernel)]; exact ⟨rfl, rfl⟩))
    (fun os started H enc _ F => lifted os started H enc F)
end Go.Proofs.Ytemkbobofoimaaa.octetFinds
namespace Go.Proofs.Ytemkbobofoimaaa
theorem octetFinds_holds : Rows.OctetFindsUptoSaid := octetFinds.over
#print axioms octetFinds_holds
end Go.Proofs.Ytemkbobofoimaaa
