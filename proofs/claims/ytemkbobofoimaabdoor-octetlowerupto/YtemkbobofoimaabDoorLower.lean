/- For every text s of bulk at most 1048576, with the two tables of unicode/utf8 as the program's text lays them and whatever number the library's own variable MaxLen holds, the call of OctetLower returns true and leaves its argument as it was; the conditions are the bulk and the tables, which the card ties to the text. -/
import Derived.Test.YtemkbobofoimaabDoorRows
import Derived.Test.YtemkbobofoimaabDoorTie
import Derived.Test.YtemkbobofoimaabDoorCards
import Derived.WalkKit
import Derived.ProofKit
import Derived.OpenShut
import Derived.ShutString
import Derived.JoinedCond
import Derived.Test.YtemkbobofoimaabDoorWt
import Derived.Test.YtemkbobofoimaabDoorWf
import Derived.Test.YtemkbobofoimaabDoorLaid
namespace Go.Proofs.YtemkbobofoimaabDoor.octetLower
open Go.ChangeShapes Go.WideShapes Go.ChangeAt Go.RowKit
open Go.ChangeMaps (open_string shut_string)
set_option linter.unusedVariables false

theorem bel_trans {w a b : World} (h : Below w.heap.size w a) (g : Below a.heap.size a b) : Below w.heap.size w b := h.trans (g.mono h.size)

/-- the calls at whatever world, texts told by their bytes -/
theorem lower_at (s t : ByteArray) (ht : t.data.toList = lower s.data.toList) (hl : s.size ≤ 1048576) (w : World) :
    Calls Tryd.prog 5 #[.string s] w fun e w' => e = .returned (.string t) ∧ Below w.heap.size w w' := by
  have := lower_any s w (by omega)
  rw [← ht] at this
  exact this
theorem trim_at (s t : ByteArray) (ht : t.data.toList = trim s.data.toList) (hl : s.size ≤ 1048576) (w : World) :
    Calls Tryd.prog 6 #[.string s] w fun e w' => e = .returned (.string t) ∧ Below w.heap.size w w' := by
  have := trim_any s w (by omega)
  rw [← ht] at this
  exact this

theorem cell_below {w w' : World} {m : Int} (h : w.cell? ⟨0, 0, none⟩ = some (.int .i64 m)) (hb : Below w.heap.size w w') : w'.cell? ⟨0, 0, none⟩ = some (.int .i64 m) :=
  (hb.cell (World.block_lt_of_cell? _ _ h)).trans h

set_option maxHeartbeats 2000000 in
theorem walk_m (s : ByteArray) (m : Int) (hb : s.size ≤ 1048576) (w : World) (hm : w.cell? ⟨0, 0, none⟩ = some (.int .i64 m)) :
    Calls Tryd.prog 3 #[.string s] w fun e w' => e = .returned (.bool true) ∧ Below w.heap.size w w' := by
  obtain ⟨l, hl⟩ : ∃ l : ByteArray, l.data.toList = lower s.data.toList := ⟨⟨(lower s.data.toList).toArray⟩, by simp⟩
  obtain ⟨t, ht⟩ : ∃ t : ByteArray, t.data.toList = trim s.data.toList := ⟨⟨(trim s.data.toList).toArray⟩, by simp⟩
  have hls : l.size = s.size := by
    have := congrArg List.length hl
    simp [lower] at this; exact this
  have hts : t.size ≤ s.size := by
    have := congrArg List.length ht
    have h2 := trim_len s.data.toList
    simp at this h2; omega
  have H1 := hide (lower_at ⟨#[97, 66, 91]⟩ ⟨#[97, 98, 91]⟩ (by decide) (by decide))
  have H2 := hide (trim_at ⟨#[32, 97, 9]⟩ ⟨#[97]⟩ (by decide) (by decide))
  have H3 := hide (lower_at s l hl hb)
  have H4 := hide (trim_at s t ht hb)
  have H5 := hide (lower_at l l (by rw [hl, lower_lower]) (by omega))
  have H6 := hide (fun w => token_any l w (by unfold maxLen; omega))
  have H7 := hide (fun w => token_any s w (by unfold maxLen; omega))
  rw [hl, tokenB_lower] at H6
  have H8 := hide (trim_at t t (by rw [ht, trim_trim]) (by omega))
  have hf : 0 ≤ Fnd.find s.data.toList t.data.toList 0 := by
    obtain ⟨u, v, huv⟩ := trim_piece s.data.toList
    rw [ht]
    have := (Fnd.find_mid u (trim s.data.toList) v).1
    rwa [← huv] at this
  have H9 := hide (fun w hm => find_any s t 0 m w (by omega) (by omega) (by omega) hm)
  have HM := hide hm
  generalize Fnd.find s.data.toList t.data.toList 0 = g at *
  generalize tokenB s.data.toList = b at *
  clear hm hl ht
  go_enter Tryd.func3, Tryd.ntmps3
  go_wp2_with fail
  refine ((unhide H1) _).mono ?_; rintro e w1 ⟨rfl, b1⟩
  go_wp2_with fail
  refine ((unhide H2) _).mono ?_; rintro e w2 ⟨rfl, b2⟩
  go_wp2_with fail
  refine ((unhide H3) _).mono ?_; rintro e w3 ⟨rfl, b3⟩
  go_wp2_with fail
  refine ((unhide H4) _).mono ?_; rintro e w4 ⟨rfl, b4⟩
  go_wp2_with fail
  refine ((unhide H5) _).mono ?_; rintro e w5 ⟨rfl, b5⟩
  go_wp2_with fail
  refine ((unhide H6) _).mono ?_; rintro e w6 ⟨rfl, rfl⟩
  go_wp2_with fail
  refine ((unhide H7) _).mono ?_; rintro e w7 ⟨rfl, rfl⟩
  go_wp2_with fail
  refine ((unhide H8) _).mono ?_; rintro e w8 ⟨rfl, b8⟩
  have B := hide (bel_trans (bel_trans (bel_trans (bel_trans (bel_trans b1 b2) b3) b4) b5) b8)
  clear b1 b2 b3 b4 b5 b8
  go_wp2_with fail
  refine ((unhide H9) _ (cell_below (unhide HM) (unhide B))).mono ?_; rintro e w9 ⟨rfl, rfl⟩
  go_wp2_with fail
  go_ret
  exact ⟨by simp [*], unhide B⟩

theorem walk (a0 : ByteArray) (hb : a0.size ≤ 1048576) (w : World) (hsh : w.ShapedOpen Tryd.prog) (hL : laidMetH Tryd.prog Rows.octetLowerUptoRow.laid w) :
    Calls Tryd.prog 3 #[.string a0] w fun e w' => e = .returned (.bool true) ∧ Below w.heap.size w w' := by
  obtain ⟨m, hm⟩ := Tryd.laysM143.s1_3 w hsh
  exact walk_m a0 m hb w hm

theorem own : ownKnob Tryd.prog.godebug = none := by kernel_rfl

theorem small_of {H : Type} {a0 : ByteArray} (hk : Rows.uptoSmall H ([.lit (.string a0.data.toList)] ++ []) = true) : a0.size ≤ 1048576 := by
  have h := of_decide_eq_true hk
  simp only [Rows.uptoBulkAll, Rows.uptoBulk, List.append_nil, Array.length_toList, ByteArray.size_data] at h
  omega

theorem contract (H : Type) (enc : TypeId × Value → H) (W : World) (base : Nat) (args : Array Value) (ds gs : List (DataW H)) (before : List MemPlace) (hsh : W.ShapedOpen Tryd.prog)
    (hval0 : ∀ (j : Nat) t v, Tryd.f3.params[j]? = some t → args[j]? = some v → Value.okWide Tryd.prog W .any base t v)
    (hW : DataW.Whole enc Tryd.prog Tryd.f3.params.toList Rows.octetLowerSpec.vars false W args.toList ds gs before) (hk : Rows.uptoSmall H (ds ++ gs) = true) (hL : laidMetH Tryd.prog Rows.octetLowerUptoRow.laid W) :
    Calls Tryd.prog 3 args W fun e W' => ∃ v, e = .returned v ∧ Rows.octetLowerSpec.post enc Tryd.prog Tryd.f3 false true false false W args v W' := by
  have hval : ∀ (j : Nat) t v, Tryd.f3.params[j]? = some t → args[j]? = some v → Value.okWide Tryd.prog W .any base t v := hval0
  have hW' := hW
  obtain ⟨p, q, hA0, hV, rfl, hfz, hnd⟩ := hW
  have hA : DataW.TrodAll enc Tryd.prog W 0 (fun _ => true) true Tryd.f3.params.toList args.toList ds p := hA0
  rw [Tryd.params3] at hA hval
  obtain ⟨v0, vs0, d0, ds0, p0, q0, hargs, rfl, rfl, h0, r0⟩ := trodAll_cons hA
  obtain ⟨rfl, rfl, rfl⟩ := trodAll_nil r0
  obtain rfl : args = #[v0] := by cases args; simp_all
  obtain ⟨rfl, rfl⟩ := trodVars_none hV
  obtain ⟨a0, rfl, rfl, rfl, w0⟩ := open_string Tryd.underlying9 (hval 0 9 v0 rfl rfl) h0
  clear hA0 hval0
  simp only [List.append_nil] at hW'
  refine (walk a0 (small_of hk) W hsh hL).mono fun e W' ⟨he, hb⟩ => ?_
  subst he
  exact ⟨_, rfl, _, _, _, [], [], [], hW', (trodAll_cons_mk (shut_bool Tryd.underlying4 _) trodAll_mk0), (trodAll_cons_mk (shut_string Tryd.underlying9 w0) trodAll_mk0), rfl, hb.frame _, fun h => by cases h⟩

theorem reads (os : Os) {H : Type} (enc : TypeId × Value → H) : ∃ places, DataW.whole enc Tryd.prog ((laidIn (World.holding Tryd.prog os ⟨#[], #[], []⟩)).forCall (fun _ _ => 0) ⟨#[], #[.string ByteArray.empty], []⟩).memory Tryd.f3.params.toList Rows.octetLowerSpec.vars false (#[.string ByteArray.empty] : Array Value).toList 8 = some ([.lit (.string [])], [], places) :=
  ⟨[], by kernel_rfl⟩
theorem laid_met (os : Os) : laidMet Tryd.prog Rows.octetLowerUptoRow.laid ((laidIn (World.holding Tryd.prog os ⟨#[], #[], []⟩)).forCall (fun _ _ => 0) ⟨#[], #[.string ByteArray.empty], []⟩).memory :=
  laidMet_of_run' 8 (by kernel_rfl) (by kernel_rfl)

set_option maxRecDepth 100000 in
theorem lifted (os : Os) (started : os.Started) (H : Type) (enc : TypeId × Value → H) (F : Stop.Interp) :
    ReturnsInHanded {} Tryd.checked os 3 .any ((Rows.OpenSpec.upto Rows.octetLowerSpec).preRow enc Tryd.prog Tryd.f3 Rows.octetLowerUptoRow.domain false Rows.octetLowerUptoRow.laid) (((Rows.OpenSpec.upto Rows.octetLowerSpec).at F).post enc Tryd.prog Tryd.f3 false true false false) := by
  obtain ⟨places, hx⟩ := reads os enc
  refine returnsInHanded_of_row (C := Tryd.checked) (s := Rows.OpenSpec.upto Rows.octetLowerSpec) own started (by kernel_rfl) Tryd.func3
    (witness_row_at (enc := enc) (C := Tryd.checked) false (laidIn (World.holding Tryd.prog os ⟨#[], #[], []⟩)) #[.string ByteArray.empty] rfl (by kernel_rfl) (by kernel_rfl) (by kernel_rfl)
      (OpenSpec.preRow_of_cond 8 hx (by kernel_rfl) (fun k hk => by cases hk; kernel_rfl) (by kernel_rfl) (laid_met os))) ?_
  intro W base args ds gs before hval hW _ hcond _ hL hsh _
  exact contract H enc W base args ds gs before hsh hval hW (hcond _ rfl) hL

theorem row : Rows.OctetLowerUptoSaid :=
  OpenClaim.holds_of_cond 3 Tryd.f3 rfl rfl rfl rfl rfl rfl rfl ⟨rfl, rfl, rfl, rfl, rfl⟩ rfl rfl rfl rfl rfl (by kernel_rfl) Tryd.func3 (by kernel_rfl)
    (of_decide_eq_true (by kernel_rfl)) (by unfold Func.isWrapper; first | (rw [if_pos (by decide +kernel)]; kernel_rfl) | (rw [if_neg (by decide +kernel)]; exact ⟨rfl, rfl⟩))
    (fun os started H enc _ F => by rw [OpenClaim.pre_eq_preRow]; exact lifted os started H enc F)

theorem plain (f : FuncId) (fn : Func) (hf : Tryd.pinned.checked.prog.funcNamed "gatewicket/wickkeep.OctetLower" = some f) (hfn : Tryd.pinned.checked.prog.funcs[f]? = some fn) :
    false = Tryd.pinned.checked.prog.looks [] ∧ ∀ (j : Nat) t, fn.params[j]? = some t → Tryd.pinned.checked.prog.wantsStandIn t = false := by
  obtain rfl : f = 3 := Option.some.inj ((show Tryd.prog.funcNamed "gatewicket/wickkeep.OctetLower" = some 3 by kernel_rfl).symm.trans hf) |>.symm
  obtain rfl : fn = Tryd.f3 := (Option.some.inj (Tryd.func3.symm.trans hfn)).symm
  refine ⟨by kernel_rfl, fun j t ht => ?_⟩
  rw [Tryd.params3] at ht
  have hm : t = 9 := by simpa using Array.mem_of_getElem? ht
  subst hm
  exact (show Tryd.prog.wantsStandIn 9 = false by kernel_rfl)

theorem over : Rows.OctetLowerUptoCardSaid :=
  Claim7.holds_tied_plain_at .later [] _ _ _ _ row (fun _ h => by cases h) (by kernel_rfl) (fun _ h => by cases h) octetLowerUpto_row_tie rfl ⟨rfl, rfl⟩ (by kernel_rfl) rfl plain (by kernel_rfl)
end Go.Proofs.YtemkbobofoimaabDoor.octetLower
namespace Go.Proofs.YtemkbobofoimaabDoor
theorem octetLower_holds : Rows.OctetLowerUptoCardSaid := octetLower.over
#print axioms octetLower_holds
end Go.Proofs.YtemkbobofoimaabDoor
