/- Whatever expression is handed in, the program's Make answers what the document says.
   Conditions: what is handed in is of bulk at most 1048576. -/
import Derived.Test.YtjdkogeeokccpabRows
import Derived.WalkKit
import Derived.ProofKit
import Derived.OpenShut
import Derived.ShutString
import Derived.JoinedCond
import Derived.Test.YtjdkogeeokccpabHb
import Derived.Test.YtjdkogeeokccpabOf
import Derived.Test.YtjdkogeeokccpabWrap
namespace Go.Proofs.Ytjdkogeeokccpab.progMakes
open Go.RowKit Kb Go.ChangeShapes Go.WideShapes Go.ChangeAt
set_option linter.unusedVariables false
set_option maxRecDepth 20000

set_option maxHeartbeats 4000000 in
theorem walk (v0 : Value) (r : Rx) (w : World) (hV : RexV w v0 r) :
    Calls Try.prog 3 #[v0] w fun e w' => e = .returned (.bool true) ∧ Below w.heap.size w w' := by
  have C1 := hide (fun W (b : Below w.heap.size w W) => Make_any r v0 W (hV.below b))
  have C2 := hide (fun W (b : Below w.heap.size w W) => rexC_any r v0 W (hV.below b))
  have C3 : Hid (chkR r = 0 → ∃ x : Ex, r = x.rx ∧ x.nodes ≤ 80 ∧ ∀ W (b : Below w.heap.size w W), Calls Try.prog 8 #[v0] W fun e w' => ∃ q, e = .returned q ∧ OwnJ W.heap.size (cdx x 0 ++ [⟨6, 0, 0, ⟨0, 0, 0, 0⟩⟩]) w' q ∧ Below W.heap.size W w') := hide (fun h => by
    obtain ⟨x, h1, h2, _, h3⟩ := chk_ex h hV
    refine ⟨x, h1, h2, fun W b => ?_⟩
    subst h1
    exact Code_any x v0 W (hV.below b) h2)
  obtain ⟨t, ht, hk⟩ := hV.val
  obtain ⟨o, c, rfl, _⟩ := hk.form
  unfold MakeP at C1
  obtain ⟨ck, hck⟩ : ∃ ck, chkR r = ck := ⟨_, rfl⟩
  rw [hck] at C1 C2 C3
  clear hck hk hV
  obtain ⟨k, ⟨s1, s2, s3, s4⟩, ks⟩ := r
  subst ht
  unfold rexV at *
  simp only [Rx.k, Rx.s, Rx.ks] at *
  have hb0 : Hid (Below w.heap.size w (w.alloc (.cells #[.int .i64 k, .int .u64 s1, .int .u64 s2, .int .u64 s3, .int .u64 s4, .slice o ks.length c] 27))) := hide ((Below.refl _ _).alloc (Nat.le_refl _) _)
  obtain ⟨W0, hW0⟩ : ∃ W0, w.alloc (.cells #[.int .i64 k, .int .u64 s1, .int .u64 s2, .int .u64 s3, .int .u64 s4, .slice o ks.length c] 27) = W0 := ⟨_, rfl⟩
  rw [hW0] at hb0
  have hsz : w.heap.size < W0.heap.size := by rw [← hW0]; simp
  have HZ0 : Hid (∀ j x, (#[.int .i64 k, .int .u64 s1, .int .u64 s2, .int .u64 s3, .int .u64 s4, .slice o ks.length c] : Array Value)[j]? = some x → W0.cell? ⟨w.heap.size, j, none⟩ = some x) := hide (fun j x h => by rw [← hW0, World.cell?_alloc_new]; exact h)
  have HZ : Hid (∀ W, Below W0.heap.size W0 W → W.cell? ⟨w.heap.size, 0, none⟩ = some (.int .i64 k) ∧ W.cell? ⟨w.heap.size, 1, none⟩ = some (.int .u64 s1) ∧ W.cell? ⟨w.heap.size, 2, none⟩ = some (.int .u64 s2) ∧ W.cell? ⟨w.heap.size, 3, none⟩ = some (.int .u64 s3) ∧ W.cell? ⟨w.heap.size, 4, none⟩ = some (.int .u64 s4) ∧ W.cell? ⟨w.heap.size, 5, none⟩ = some (.slice o ks.length c)) := hide (fun W b => ⟨cell_below ((unhide HZ0) 0 _ rfl) hsz b, cell_below ((unhide HZ0) 1 _ rfl) hsz b, cell_below ((unhide HZ0) 2 _ rfl) hsz b, cell_below ((unhide HZ0) 3 _ rfl) hsz b, cell_below ((unhide HZ0) 4 _ rfl) hsz b, cell_below ((unhide HZ0) 5 _ rfl) hsz b⟩)
  clear HZ0
  obtain ⟨z0, z1, z2, z3, z4, z5⟩ := (unhide HZ) W0 (Below.refl _ _)
  go_enter Try.func3, Try.ntmps3
  go_wp2_with fail
  clear hW0
  refine ((unhide C1) W0 (unhide hb0)).mono ?_
  rintro e w1 ⟨q, rfl, hmp, b1⟩
  have B1 := hide b1
  have MP := hide hmp
  clear b1 hmp z0 z1 z2 z3 z4 z5 C1
  obtain ⟨z0, z1, z2, z3, z4, z5⟩ := (unhide HZ) w1 (unhide B1)
  go_wp2_with fail
  refine ((unhide C2) w1 (bel_trans (unhide hb0) (unhide B1))).mono ?_
  rintro e w2 ⟨rfl, b2⟩
  have B2 := hide (bel_trans (unhide B1) b2)
  have BB := hide b2
  clear b2 z0 z1 z2 z3 z4 z5 C2
  obtain ⟨z0, z1, z2, z3, z4, z5⟩ := (unhide HZ) w2 (unhide B2)
  by_cases h0 : ck = 0
  · obtain ⟨x, hx, hn80, hcall⟩ := (unhide C3) h0
    have HX := hide hx
    have OWN := hide (own_below ((unhide MP).2 x hx h0) (unhide BB))
    have HCA := hide (hcall w2 (bel_trans (unhide hb0) (unhide B2)))
    have hlen := cdx_len x 0
    clear hx hcall C3 MP
    subst h0
    go_wp2_with fail
    refine (unhide HCA).mono ?_
    rintro e w3 ⟨q3, rfl, o3, b3⟩
    have CE := hide (equal_insts w3 _ _ _ _ _ (own_below (unhide OWN) b3) o3 (by simp; omega))
    have B3 := hide (bel_trans (unhide B2) b3)
    clear b3 o3
    go_wp2_with fail
    refine (unhide CE).mono ?_
    rintro e w4 ⟨rfl, b4⟩
    have B4 := hide (bel_trans (unhide hb0) (bel_trans (unhide B3) b4))
    clear b4
    go_wp2
    go_ret
    exact ⟨rfl, unhide B4⟩
  · have hb : (ck != 0) = true := by simpa using h0
    have hq := (unhide MP).1 h0
    subst hq
    have B4 := hide (bel_trans (unhide hb0) (unhide B2))
    clear h0 C3 MP
    go_wp2
    go_ret
    exact ⟨rfl, unhide B4⟩
theorem own : ownKnob Try.prog.godebug = none := by kernel_rfl

theorem small_of {H : Type} {a0 : DataW H} (hk : Rows.uptoSmall H ([a0] ++ []) = true) : Rows.uptoBulk a0 ≤ 1048576 := by
  have h := of_decide_eq_true hk
  simp only [Rows.uptoBulkAll, List.append_nil] at h
  omega

set_option maxRecDepth 100000 in
theorem contract (H : Type) (enc : TypeId × Value → H) (W : World) (base : Nat) (args : Array Value) (ds gs : List (DataW H)) (before : List MemPlace) (hsh : W.ShapedOpen Try.prog)
    (hval0 : ∀ (j : Nat) t v, Try.f3.params[j]? = some t → args[j]? = some v → Value.okWide Try.prog W .any base t v)
    (hW : DataW.Whole enc Try.prog Try.f3.params.toList Rows.progMakesSpec.vars false W args.toList ds gs before) (hk : Rows.uptoSmall H (ds ++ gs) = true) :
    Calls Try.prog 3 args W fun e W' => ∃ v, e = .returned v ∧ Rows.progMakesSpec.post enc Try.prog Try.f3 false true false false W args v W' := by
  have hval : ∀ (j : Nat) t v, Try.f3.params[j]? = some t → args[j]? = some v → Value.okWide Try.prog W .any base t v := hval0
  have hW' := hW
  obtain ⟨p, q, hA0, hV, rfl, hfz, hnd⟩ := hW
  have hA : DataW.TrodAll enc Try.prog W 0 (fun _ => true) true Try.f3.params.toList args.toList ds p := hA0
  rw [Try.params3] at hA hval
  obtain ⟨v0, vs0, d0, ds0, p0, q0, hargs, rfl, rfl, h0, r0⟩ := trodAll_cons hA
  obtain ⟨rfl, rfl, rfl⟩ := trodAll_nil r0
  obtain rfl : args = #[v0] := by cases args; simp_all
  obtain ⟨rfl, rfl⟩ := trodVars_none hV
  have hsm := small_of hk
  obtain ⟨z0, hI0, hlt0⟩ := open_rex_in (hval 0 27 v0 rfl rfl) h0 (by omega)
  clear hA0 hval0
  refine (walk v0 z0 W hI0).mono fun e W' ⟨he, hb⟩ => ?_
  subst he
  exact ⟨_, rfl, _, _, _, [], (p0 ++ []), [], hW', (trodAll_cons_mk (shut_bool Try.underlying4 _) trodAll_mk0), (trodAll_cons_mk (Below.trod laidOutAll (by kernel_rfl) (of_decide_eq_true (by kernel_rfl)) h0 hb hlt0) trodAll_mk0), rfl, hb.frame _, fun h => by cases h⟩

set_option maxRecDepth 100000 in
theorem lifted (os : Os) (started : os.Started) (H : Type) (enc : TypeId × Value → H) (F : Stop.Interp) :
    ReturnsInHanded {} Try.checked os 3 .any ((Rows.OpenSpec.upto Rows.progMakesSpec).pre6 enc Try.prog Try.f3 Rows.progMakesUptoRow.domain false) (((Rows.OpenSpec.upto Rows.progMakesSpec).at F).post enc Try.prog Try.f3 false true false false) := by
  refine cond_shaped (C := Try.checked) (s := Rows.OpenSpec.upto Rows.progMakesSpec) (k := Rows.uptoSmall) rfl own started (by kernel_rfl) Try.func3
    (OpenSpec.witness (enc := enc) (C := Try.checked) (s := Rows.OpenSpec.upto Rows.progMakesSpec) (k := Rows.uptoSmall) rfl false ⟨#[], #[.agg #[.int .i64 0, .int .u64 0, .int .u64 0, .int .u64 0, .int .u64 0, .slice none 0 0]], []⟩ 8 (by kernel_rfl) (by kernel_rfl) (by kernel_rfl)
      (x := ([.agg [.lit (.int .i64 0), .agg [.lit (.int .u64 0), .lit (.int .u64 0), .lit (.int .u64 0), .lit (.int .u64 0)], .nil]], [], [])) (by kernel_rfl) rfl (by kernel_rfl)) ?_
  intro W base args ds gs before hsh hval hW hk
  exact contract H enc W base args ds gs before hsh hval hW hk

theorem over : Rows.ProgMakesUptoSaid :=
  OpenClaim.holds_of_cond 3 Try.f3 rfl rfl rfl rfl rfl rfl rfl ⟨rfl, rfl, rfl, rfl, rfl⟩ rfl rfl rfl rfl rfl (by kernel_rfl) Try.func3 (by kernel_rfl)
    (of_decide_eq_true (by kernel_rfl)) (by unfold Func.isWrapper; first | (rw [if_pos (by decide +kernel)]; kernel_rfl) | (rw [if_neg (by decide +kernel)]; exact ⟨rfl, rfl⟩))
    (fun os started H enc _ F => lifted os started H enc F)
end Go.Proofs.Ytjdkogeeokccpab.progMakes
namespace Go.Proofs.Ytjdkogeeokccpab
theorem progMakes_holds : Rows.ProgMakesUptoSaid := progMakes.over
#print axioms progMakes_holds
end Go.Proofs.Ytjdkogeeokccpab
