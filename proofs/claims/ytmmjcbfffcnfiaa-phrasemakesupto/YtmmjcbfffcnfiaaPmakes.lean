/- The document's answer and the program's: whatever words are handed in, Make tells the same error, or the same nodes.
   Conditions: what is handed in is of bulk at most 1048576. -/
import Derived.Test.YtmmjcbfffcnfiaaRows
import Derived.WalkKit
import Derived.ProofKit
import Derived.OpenShut
import Derived.ShutString
import Derived.JoinedCond
import Derived.Test.YtmmjcbfffcnfiaaGe
import Derived.Test.YtmmjcbfffcnfiaaGg
import Derived.Test.YtmmjcbfffcnfiaaWrap
namespace Go.Proofs.Ytmmjcbfffcnfiaa.phraseMakes
open Go.RowKit Kb Go.ChangeShapes Go.WideShapes Go.ChangeAt Ph
open Go.ChangeMaps (open_string shut_string)
set_option linter.unusedVariables false
set_option maxRecDepth 20000

theorem tree_nil (w : World) : Tree w (.slice none 0 0) [] := ⟨⟨none, 0, rfl, Nat.le_refl _⟩, by decide, by simp, fun h => absurd rfl h⟩
set_option maxHeartbeats 4000000 in
theorem walk (v0 : Value) (ws : List ByteArray) (w : World) (hV : Strs w v0 ws) :
    Calls Try.prog 3 #[v0] w fun e w' => e = .returned (.bool true) ∧ Below w.heap.size w w' := by
  have C1 := hide (make_any w v0 ws hV)
  obtain ⟨o, cp, rfl, hcp⟩ := hV.form
  have HV := hide hV
  clear hV
  go_enter Try.func3, Try.ntmps3
  go_wp2_with fail
  refine (unhide C1).mono ?_
  rintro e w1 ⟨b1, hm⟩
  have B1 := hide b1
  clear b1 C1
  have C2 := hide (phrases_any w1 _ ws ((unhide HV).below (unhide B1)))
  rcases hm with ⟨g, rfl⟩ | ⟨h0, T, at_, X, lev, hgi, hwt, hfew, hm⟩
  · have hbn : (cw ws != 0) = true := by simp; exact g
    have hbe : (cw ws == cw ws) = true := by simp
    generalize cw ws = z at *
    go_wp2_with fail
    refine (unhide C2).mono ?_; rintro e wx ⟨rfl, hwx⟩; rw [hwx]; clear hwx wx
    go_wp2_with fail
    go_ret
    exact ⟨rfl, unhide B1⟩
  · have hn := (cw_right h0).1
    have hsz := (cw_right h0).2.2.1
    rw [h0] at C2
    have C3 := hide (fun w' (b : Below w1.heap.size w1 w') => trie_any w' _ ws (made ws T X) ((unhide HV).below (bel_trans (unhide B1) b)) hn hsz (rt_made hgi hwt hsz))
    rw [made_len] at C3
    clear hgi hwt hsz hfew h0
    rcases hm with ⟨g, rfl⟩ | ⟨g, x, rfl, hx⟩
    · go_wp2_with fail
      refine (unhide C2).mono ?_; rintro e wx ⟨rfl, hwx⟩; rw [hwx]; clear hwx wx
      go_wp2_with fail
      refine ((unhide C3) w1 (Below.refl _ _)).mono ?_
      rintro e w2 ⟨b2, ⟨_, rfl⟩ | ⟨g', _⟩⟩
      · have B2 := hide (bel_trans (unhide B1) b2)
        have C4 := hide (sameTrie_any w2 _ _ [] (tree_nil w2) (tree_nil w2))
        clear b2 C3 C2
        go_wp2_with fail
        refine (unhide C4).mono ?_
        rintro e w3 ⟨rfl, b3⟩
        have B3 := hide (bel_trans (unhide B2) b3)
        clear b3 C4
        go_wp2_with fail
        go_ret
        exact ⟨rfl, unhide B3⟩
      · omega
    · obtain ⟨ox, cx, hfx, _⟩ := hx.form
      subst hfx
      have HX := hide hx
      clear hx
      go_wp2_with fail
      refine (unhide C2).mono ?_; rintro e wx ⟨rfl, hwx⟩; rw [hwx]; clear hwx wx
      go_wp2_with fail
      refine ((unhide C3) w1 (Below.refl _ _)).mono ?_
      rintro e w2 ⟨b2, ⟨g', _⟩ | ⟨_, y, rfl, hy⟩⟩
      · omega
      · have B2 := hide (bel_trans (unhide B1) b2)
        have C4 := hide (sameTrie_any w2 _ _ _ ((unhide HX).below b2) hy)
        obtain ⟨oy, cy, hfy, _⟩ := hy.form
        subst hfy
        clear b2 C3 C2 hy
        go_wp2_with fail
        refine (unhide C4).mono ?_
        rintro e w3 ⟨rfl, b3⟩
        have B3 := hide (bel_trans (unhide B2) b3)
        clear b3 C4
        go_wp2_with fail
        go_ret
        exact ⟨rfl, unhide B3⟩
theorem own : ownKnob Try.prog.godebug = none := by kernel_rfl

theorem small_of {H : Type} {a0 : DataW H} (hk : Rows.uptoSmall H ([a0] ++ []) = true) : Rows.uptoBulk a0 ≤ 1048576 := by
  have h := of_decide_eq_true hk
  simp only [Rows.uptoBulkAll, List.append_nil] at h
  omega

set_option maxRecDepth 100000 in
theorem contract (H : Type) (enc : TypeId × Value → H) (W : World) (base : Nat) (args : Array Value) (ds gs : List (DataW H)) (before : List MemPlace) (hsh : W.ShapedOpen Try.prog)
    (hval0 : ∀ (j : Nat) t v, Try.f3.params[j]? = some t → args[j]? = some v → Value.okWide Try.prog W .any base t v)
    (hW : DataW.Whole enc Try.prog Try.f3.params.toList Rows.phraseMakesSpec.vars false W args.toList ds gs before) (hk : Rows.uptoSmall H (ds ++ gs) = true) :
    Calls Try.prog 3 args W fun e W' => ∃ v, e = .returned v ∧ Rows.phraseMakesSpec.post enc Try.prog Try.f3 false true false false W args v W' := by
  have hval : ∀ (j : Nat) t v, Try.f3.params[j]? = some t → args[j]? = some v → Value.okWide Try.prog W .any base t v := hval0
  have hW' := hW
  obtain ⟨p, q, hA0, hV, rfl, hfz, hnd⟩ := hW
  have hA : DataW.TrodAll enc Try.prog W 0 (fun _ => true) true Try.f3.params.toList args.toList ds p := hA0
  rw [Try.params3] at hA hval
  obtain ⟨v0, vs0, d0, ds0, p0, q0, hargs, rfl, rfl, h0, r0⟩ := trodAll_cons hA
  obtain ⟨rfl, rfl, rfl⟩ := trodAll_nil r0
  obtain rfl : args = #[v0] := by cases args; simp_all
  obtain ⟨rfl, rfl⟩ := trodVars_none hV
  have hsm := small_of hk
  obtain ⟨z0, hI0, hz0, hlt0⟩ := open_strs_in (hval 0 22 v0 rfl rfl) h0 (by omega)
  clear hA0 hval0
  refine (walk v0 z0 W hI0).mono fun e W' ⟨he, hb⟩ => ?_
  subst he
  exact ⟨_, rfl, _, _, _, [], (p0 ++ []), [], hW', (trodAll_cons_mk (shut_bool Try.underlying4 _) trodAll_mk0), (trodAll_cons_mk (Below.trod laidOutAll (by kernel_rfl) (of_decide_eq_true (by kernel_rfl)) h0 hb hlt0) trodAll_mk0), rfl, hb.frame _, fun h => by cases h⟩

set_option maxRecDepth 100000 in
theorem lifted (os : Os) (started : os.Started) (H : Type) (enc : TypeId × Value → H) (F : Stop.Interp) :
    ReturnsInHanded {} Try.checked os 3 .any ((Rows.OpenSpec.upto Rows.phraseMakesSpec).pre6 enc Try.prog Try.f3 Rows.phraseMakesUptoRow.domain false) (((Rows.OpenSpec.upto Rows.phraseMakesSpec).at F).post enc Try.prog Try.f3 false true false false) := by
  refine cond_shaped (C := Try.checked) (s := Rows.OpenSpec.upto Rows.phraseMakesSpec) (k := Rows.uptoSmall) rfl own started (by kernel_rfl) Try.func3
    (OpenSpec.witness (enc := enc) (C := Try.checked) (s := Rows.OpenSpec.upto Rows.phraseMakesSpec) (k := Rows.uptoSmall) rfl false ⟨#[], #[.slice none 0 0], []⟩ 8 (by kernel_rfl) (by kernel_rfl) (by kernel_rfl)
      (x := ([.nil], [], [])) (by kernel_rfl) rfl (by kernel_rfl)) ?_
  intro W base args ds gs before hsh hval hW hk
  exact contract H enc W base args ds gs before hsh hval hW hk

theorem over : Rows.PhraseMakesUptoSaid :=
  OpenClaim.holds_of_cond 3 Try.f3 rfl rfl rfl rfl rfl rfl rfl ⟨rfl, rfl, rfl, rfl, rfl⟩ rfl rfl rfl rfl rfl (by kernel_rfl) Try.func3 (by kernel_rfl)
    (of_decide_eq_true (by kernel_rfl)) (by unfold Func.isWrapper; first | (rw [if_pos (by decide +kernel)]; kernel_rfl) | (rw [if_neg (by decide +kernel)]; exact ⟨rfl, rfl⟩))
    (fun os started H enc _ F => lifted os started H enc F)
end Go.Proofs.Ytmmjcbfffcnfiaa.phraseMakes
namespace Go.Proofs.Ytmmjcbfffcnfiaa
theorem phraseMakes_holds : Rows.PhraseMakesUptoSaid := phraseMakes.over
#print axioms phraseMakes_holds
end Go.Proofs.Ytmmjcbfffcnfiaa
