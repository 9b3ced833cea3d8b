/- Whatever is handed in, Strip and Forward answer what the document says.
   Conditions: what is handed in is of bulk at most 1048576; the library's tables are as the program's text lays them, and its own variable MaxLen holds whatever number. -/
import Derived.Test.YtmgealcolofomaaDoorRows
import Derived.Test.YtmgealcolofomaaDoorTie
import Derived.Test.YtmgealcolofomaaDoorCards
import Derived.WalkKit
import Derived.ProofKit
import Derived.OpenShut
import Derived.ShutString
import Derived.JoinedCond
import Derived.BigRegion
import Derived.Deep.RegionHeld3
import Derived.Deep.RegionLaw
import Derived.Test.YtmgealcolofomaaDoorDY
import Derived.Test.YtmgealcolofomaaDoorMm
import Derived.Test.YtmgealcolofomaaDoorLX
import Derived.Stop.LaidErr
namespace Go.Proofs.YtmgealcolofomaaDoor.serialSays
open Go.ChangeShapes Go.WideShapes Go.ChangeAt Go.RowKit
open Go.ChangeMaps (open_string shut_string)
open Kb
open Mh (Fl)
set_option linter.unusedVariables false
set_option maxRecDepth 20000
set_option maxRecDepth 20000

set_option maxHeartbeats 8000000 in
theorem walk_m (m t : List UInt8) (u : Value) (fs : List Fl) (b : List UInt8) (k : Int) (w : World) (hu : Flds w u fs) (hz : m.length + t.length ≤ 1048576 ∧ fs.length ≤ 1048576 ∧ b.length ≤ 1048576 ∧ ∀ f ∈ fs, f.1.length + f.2.length ≤ 1048576) (hm : MH k w)
    (hT : Lib.TabIs Tryd.prog w "internal/strconv.uint64pow10" .u64 Lib.pow10Tab) :
    Calls Tryd.prog 3 #[reqV m t u b] w fun e w' => e = .returned (.bool true) ∧ Below w.heap.size w w' := by
  obtain ⟨hz1, hz2, hz3, hz4⟩ := hz
  obtain ⟨d, hd⟩ := ex_list b
  have hds : d.size ≤ 1048576 := by have := len_data d; rw [hd] at this; omega
  obtain ⟨o, ho⟩ : ∃ o, Se.fwd m t fs d.data.toList = o := ⟨_, rfl⟩
  have HF1 := hide (fun W (h : Below w.heap.size w W) => sfwd_any m t u fs d k W (hu.below h) hz2 hz1 hds hz4 (hm.below h) (stab_below hT h) o ho)
  have HF2 := hide (fun W (h : Below w.heap.size w W) => rfwd_any m t u fs d W (hu.below h) hz2 hz1 hds hz4 (stab_below hT h) o ho)
  have HS1 := hide (fun W (h : Below w.heap.size w W) => strip_any m t u fs k W (hu.below h) hz2 hz1 hz4 (hm.below h))
  have HS2 := hide (fun W (h : Below w.heap.size w W) => rstrip_any m t u fs W (hu.below h) hz2 hz1 hz4)
  have hsl : (Se.strip fs).length ≤ 1048576 := Nat.le_trans (Se.less_len _ _) hz2
  have HSM := hide (fun W v v' (h1 : Flds W v (Se.strip fs)) (h2 : Flds W v' (Se.strip fs)) => same_any m t v v' (Se.strip fs) W h1 h2)
  have hbd : mk b = d := by rw [← hd, mk_data]
  unfold reqV
  unfold headV at HS1 HS2 HSM
  rw [hbd]
  obtain ⟨uo, c, rfl, hc⟩ := hu.form
  obtain ⟨x, hx⟩ : ∃ x, mk m = x := ⟨_, rfl⟩
  obtain ⟨y, hy⟩ : ∃ y, mk t = y := ⟨_, rfl⟩
  obtain ⟨p, hp⟩ : ∃ p, mk o.1 = p := ⟨_, rfl⟩
  obtain ⟨z, hz⟩ : ∃ z, o.2 = z := ⟨_, rfl⟩
  obtain ⟨sf, hsf⟩ : ∃ l, Se.strip fs = l := ⟨_, rfl⟩
  rw [hx, hy] at HF1 HF2 HS1 HS2 HSM ⊢
  rw [hp, hz] at HF1 HF2
  rw [hsf] at HS1 HS2 HSM hsl
  clear hx hy hp hz hsf hd hbd ho hu hm hT hz4
  have X1 := QX.new (base := w.heap.size) w (Nat.le_refl _) x y uo fs.length c d
  have bb1 := (Below.refl w.heap.size w).alloc (Nat.le_refl _) (.cells #[.string x, .string y, .slice uo fs.length c, .string d] 26)
  obtain ⟨W1, hW1⟩ : ∃ W, w.alloc (.cells #[.string x, .string y, .slice uo fs.length c, .string d] 26) = W := ⟨_, rfl⟩
  rw [hW1] at X1 bb1
  have B1 := hide bb1
  have HBOX := hide (fun W (h : Below W1.heap.size W1 W) => (⟨(X1.below h).cells, (X1.below h).lt.2⟩ : (_ ∧ _ ∧ _ ∧ _) ∧ _))
  obtain ⟨⟨a0, a1, a2, a3⟩, hl1⟩ := (unhide HBOX) W1 (Below.refl _ _)
  clear X1 bb1
  go_enter Tryd.func3, Tryd.ntmps3
  go_wp2_with fail
  clear hW1 a0 a1 a2 a3 hl1
  refine ((unhide HF1) W1 (unhide B1)).mono ?_; rintro e w2 ⟨rfl, b2⟩
  have B2 := hide b2
  obtain ⟨⟨a0, a1, a2, a3⟩, hl2⟩ := (unhide HBOX) w2 b2
  clear b2 HF1
  go_wp2_with fail
  clear a0 a1 a2 a3 hl2
  refine ((unhide HF2) w2 (bel_trans (unhide B1) (unhide B2))).mono ?_; rintro e w3 ⟨rfl, b3⟩
  have B3 := hide (bel_trans (unhide B2) b3)
  obtain ⟨⟨a0, a1, a2, a3⟩, hl3⟩ := (unhide HBOX) w3 (unhide B3)
  clear b3 HF2 B2
  have HGA : ∀ W, Below w3.heap.size w3 W → Calls Tryd.prog 9 #[.agg #[.string x, .string y, .slice uo fs.length c]] W fun e W' => ∃ v, e = .returned (.agg #[.string x, .string y, v]) ∧ Flds W' v sf ∧ Below W.heap.size W W' ∧ Below w3.heap.size w3 W' := fun W h => ((unhide HS1) W (bel_trans (unhide B1) (bel_trans (unhide B3) h))).mono fun e W' ⟨v, k1, k2, k3⟩ => ⟨v, k1, Flds.own k2 (by omega), k3, bel_trans h k3⟩
  have HGB : ∀ W, Below w3.heap.size w3 W → Calls Tryd.prog 10 #[.agg #[.string x, .string y, .slice uo fs.length c]] W fun e W' => ∃ v, e = .returned (.agg #[.string x, .string y, v]) ∧ Flds W' v sf ∧ Below W.heap.size W W' ∧ Below w3.heap.size w3 W' := fun W h => ((unhide HS2) W (bel_trans (unhide B1) (bel_trans (unhide B3) h))).mono fun e W' ⟨v, k1, k2, k3⟩ => ⟨v, k1, Flds.own k2 (by omega), k3, bel_trans h k3⟩
  have HEQ : ∀ W v v', Below w3.heap.size w3 W → Flds W v sf → Flds W v' sf → Calls Tryd.prog 8 #[.agg #[.string x, .string y, v], .agg #[.string x, .string y, v']] W fun e W' => e = .returned (.bool true) ∧ Below w3.heap.size w3 W' := fun W v v' h h1 h2 => ((unhide HSM) W v v' h1 h2).mono fun e W' k => ⟨k.1, bel_trans h k.2⟩
  have HSS : ∀ W, Below w3.heap.size w3 W → (W.cell? ⟨w.heap.size, 0, none⟩ = some (.string x) ∧ W.cell? ⟨w.heap.size, 1, none⟩ = some (.string y) ∧ W.cell? ⟨w.heap.size, 2, none⟩ = some (.slice uo fs.length c) ∧ Below w3.heap.size w3 W) := fun W h => by
    obtain ⟨⟨e0, e1, e2, _⟩, _⟩ := (unhide HBOX) W (bel_trans (unhide B3) h)
    exact ⟨e0, e1, e2, h⟩
  have hB2 := Below.refl w3.heap.size w3
  have s2 := HSS w3 hB2
  obtain ⟨Sb, hSb⟩ : ∃ Q : World → Prop, Below w3.heap.size w3 = Q := ⟨_, rfl⟩
  rw [hSb] at s2 hB2
  have FGA : Hid (∀ W, Sb W → Calls Tryd.prog 9 #[.agg #[.string x, .string y, .slice uo fs.length c]] W fun e W' => ∃ v, e = .returned (.agg #[.string x, .string y, v]) ∧ Flds W' v sf ∧ Below W.heap.size W W' ∧ Sb W') := hide (by rw [← hSb]; exact HGA)
  have FGB : Hid (∀ W, Sb W → Calls Tryd.prog 10 #[.agg #[.string x, .string y, .slice uo fs.length c]] W fun e W' => ∃ v, e = .returned (.agg #[.string x, .string y, v]) ∧ Flds W' v sf ∧ Below W.heap.size W W' ∧ Sb W') := hide (by rw [← hSb]; exact HGB)
  have FEQ : Hid (∀ W v v', Sb W → Flds W v sf → Flds W v' sf → Calls Tryd.prog 8 #[.agg #[.string x, .string y, v], .agg #[.string x, .string y, v']] W fun e W' => e = .returned (.bool true) ∧ Sb W') := hide (by rw [← hSb]; exact HEQ)
  have FS : Hid (∀ W, Sb W → (W.cell? ⟨w.heap.size, 0, none⟩ = some (.string x) ∧ W.cell? ⟨w.heap.size, 1, none⟩ = some (.string y) ∧ W.cell? ⟨w.heap.size, 2, none⟩ = some (.slice uo fs.length c) ∧ Sb W)) := hide (by rw [← hSb]; exact HSS)
  have FC : Hid (∀ W, (W.cell? ⟨w.heap.size, 0, none⟩ = some (.string x) ∧ W.cell? ⟨w.heap.size, 1, none⟩ = some (.string y) ∧ W.cell? ⟨w.heap.size, 2, none⟩ = some (.slice uo fs.length c) ∧ Sb W) → (W.drew.cell? ⟨w.heap.size, 0, none⟩ = some (.string x) ∧ W.drew.cell? ⟨w.heap.size, 1, none⟩ = some (.string y) ∧ W.drew.cell? ⟨w.heap.size, 2, none⟩ = some (.slice uo fs.length c) ∧ Sb W.drew)) := hide (fun W h => unhide FS _ (by have := h.2.2.2; rw [← hSb] at this ⊢; exact this.drew))
  have FX : Hid (∀ W, (W.cell? ⟨w.heap.size, 0, none⟩ = some (.string x) ∧ W.cell? ⟨w.heap.size, 1, none⟩ = some (.string y) ∧ W.cell? ⟨w.heap.size, 2, none⟩ = some (.slice uo fs.length c) ∧ Sb W) → Sb W) := hide (fun W h => h.2.2.2)
  have HOUT : Hid (∀ W, Sb W → Below w.heap.size w W) := hide (by rw [← hSb]; exact fun W h => bel_trans (unhide B1) (bel_trans (unhide B3) h))
  clear HGA HGB HEQ HSS hSb hB2 HS1 HS2 HSM HBOX B1 B3 a3
  go_wp2_with fail
  go_region_held3 (fun W => W.cell? ⟨w.heap.size, 0, none⟩ = some (.string x) ∧ W.cell? ⟨w.heap.size, 1, none⟩ = some (.string y) ∧ W.cell? ⟨w.heap.size, 2, none⟩ = some (.slice uo fs.length c) ∧ Sb W) (first | assumption | exact unhide FC _ (by assumption) | exact unhide FS _ (by assumption))
    (first
      | (go_at_call 8; refine (unhide FEQ _ _ _ (unhide FX _ (by assumption)) (fa.below bel2) fb).mono ?_; rintro e w' ⟨rfl, hw'⟩)
      | (go_at_call 9; refine (unhide FGA _ (unhide FX _ (by assumption))).mono ?_; rintro e w' ⟨v1, rfl, fa, bel1, hw'⟩)
      | (go_at_call 10; refine (unhide FGB _ (unhide FX _ (by assumption))).mono ?_; rintro e w' ⟨v2, rfl, fb, bel2, hw'⟩))
  clear FS FC FEQ FGA FGB
  go_wp2_with fail
  go_ret
  exact ⟨rfl, unhide HOUT _ (unhide FX _ (by assumption))⟩
theorem walk (m t : List UInt8) (u : Value) (fs : List Fl) (b : List UInt8) (hb : 0 ≤ 1048576) (w : World) (hu : Flds w u fs) (hz : m.length + t.length ≤ 1048576 ∧ fs.length ≤ 1048576 ∧ b.length ≤ 1048576 ∧ ∀ f ∈ fs, f.1.length + f.2.length ≤ 1048576) (hsh : w.ShapedOpen Tryd.prog) (hL : laidMetH Tryd.prog Rows.serialSaysUptoRow.laid w) :
    Calls Tryd.prog 3 #[reqV m t u b] w fun e w' => e = .returned (.bool true) ∧ Below w.heap.size w w' := by
  obtain ⟨k, hk⟩ := Tryd.laysM143.s1_3 w hsh
  exact walk_m m t u fs b k w hu hz hk (pow_of (W := w) hL)
theorem own : ownKnob Tryd.prog.godebug = none := by kernel_rfl

theorem small_of {H : Type} {a0 : DataW H} (hk : Rows.uptoSmall H ([a0] ++ []) = true) : Rows.uptoBulk a0 ≤ 1048576 := by
  have h := of_decide_eq_true hk
  simp only [Rows.uptoBulkAll, List.append_nil] at h
  omega

set_option maxRecDepth 100000 in
theorem contract (H : Type) (enc : TypeId × Value → H) (W : World) (base : Nat) (args : Array Value) (ds gs : List (DataW H)) (before : List MemPlace) (hsh : W.ShapedOpen Tryd.prog)
    (hval0 : ∀ (j : Nat) t v, Tryd.f3.params[j]? = some t → args[j]? = some v → Value.okWide Tryd.prog W .any base t v)
    (hW : DataW.Whole enc Tryd.prog Tryd.f3.params.toList Rows.serialSaysSpec.vars false W args.toList ds gs before) (hk : Rows.uptoSmall H (ds ++ gs) = true) (hL : laidMetH Tryd.prog Rows.serialSaysUptoRow.laid W) :
    Calls Tryd.prog 3 args W fun e W' => ∃ v, e = .returned v ∧ Rows.serialSaysSpec.post enc Tryd.prog Tryd.f3 false true false false W args v W' := by
  have hval : ∀ (j : Nat) t v, Tryd.f3.params[j]? = some t → args[j]? = some v → Value.okWide Tryd.prog W .any base t v := hval0
  have hW' := hW
  obtain ⟨p, q, hA0, hV, rfl, hfz, hnd⟩ := hW
  have hA : DataW.TrodAll enc Tryd.prog W 0 (fun _ => true) true Tryd.f3.params.toList args.toList ds p := hA0
  rw [Tryd.params3] at hA hval
  obtain ⟨v0, vs0, d0, ds0, p0, q0, hargs, rfl, rfl, h0, r0⟩ := trodAll_cons hA
  obtain ⟨rfl, rfl, rfl⟩ := trodAll_nil r0
  obtain rfl : args = #[v0] := by cases args; simp_all
  obtain ⟨rfl, rfl⟩ := trodVars_none hV
  have hsm := small_of hk
  obtain ⟨m0, t0, u0, f0, g0, rfl, hI0, hz0, hlt0⟩ := open_req_in (hval 0 26 v0 rfl rfl) h0 (by omega)
  clear hA0 hval0
  refine (walk m0 t0 u0 f0 g0 (by omega) W hI0 hz0 hsh hL).mono fun e W' ⟨he, hb⟩ => ?_
  subst he
  exact ⟨_, rfl, _, _, _, [], (p0 ++ []), [], hW', (trodAll_cons_mk (shut_bool Tryd.underlying4 _) trodAll_mk0), (trodAll_cons_mk (Below.trod laidOutAll (by kernel_rfl) (of_decide_eq_true (by kernel_rfl)) h0 hb hlt0) trodAll_mk0), rfl, hb.frame _, fun h => by cases h⟩

theorem reads (os : Os) {H : Type} (enc : TypeId × Value → H) : ∃ places, DataW.whole enc Tryd.prog ((laidIn (World.holding Tryd.prog os ⟨#[], #[], []⟩)).forCall (fun _ _ => 0) ⟨#[], #[.agg #[.string ByteArray.empty, .string ByteArray.empty, .slice none 0 0, .string ByteArray.empty]], []⟩).memory Tryd.f3.params.toList Rows.serialSaysSpec.vars false (#[.agg #[.string ByteArray.empty, .string ByteArray.empty, .slice none 0 0, .string ByteArray.empty]] : Array Value).toList 8 = some ([.agg [.agg [.lit (.string []), .lit (.string []), .nil], .lit (.string [])]], [], places) :=
  ⟨[], by kernel_rfl⟩
theorem laid_met (os : Os) : laidMet Tryd.prog Rows.serialSaysUptoRow.laid ((laidIn (World.holding Tryd.prog os ⟨#[], #[], []⟩)).forCall (fun _ _ => 0) ⟨#[], #[.agg #[.string ByteArray.empty, .string ByteArray.empty, .slice none 0 0, .string ByteArray.empty]], []⟩).memory :=
  laidMet_of_run' 8 (by kernel_rfl) (by kernel_rfl)

set_option maxRecDepth 100000 in
theorem lifted (os : Os) (started : os.Started) (H : Type) (enc : TypeId × Value → H) (F : Stop.Interp) :
    ReturnsInHanded {} Tryd.checked os 3 .any ((Rows.OpenSpec.upto Rows.serialSaysSpec).preRow enc Tryd.prog Tryd.f3 Rows.serialSaysUptoRow.domain false Rows.serialSaysUptoRow.laid) (((Rows.OpenSpec.upto Rows.serialSaysSpec).at F).post enc Tryd.prog Tryd.f3 false true false false) := by
  obtain ⟨places, hx⟩ := reads os enc
  refine returnsInHanded_of_row (C := Tryd.checked) (s := Rows.OpenSpec.upto Rows.serialSaysSpec) own started (by kernel_rfl) Tryd.func3
    (witness_row_at (enc := enc) (C := Tryd.checked) false (laidIn (World.holding Tryd.prog os ⟨#[], #[], []⟩)) #[.agg #[.string ByteArray.empty, .string ByteArray.empty, .slice none 0 0, .string ByteArray.empty]] rfl (by kernel_rfl) (by kernel_rfl) (by kernel_rfl)
      (OpenSpec.preRow_of_cond 8 hx (by kernel_rfl) (fun k hk => by cases hk; kernel_rfl) (by kernel_rfl) (laid_met os))) ?_
  intro W base args ds gs before hval hW _ hcond _ hL hsh _
  exact contract H enc W base args ds gs before hsh hval hW (hcond _ rfl) hL

theorem row : Rows.SerialSaysUptoSaid :=
  OpenClaim.holds_of_cond 3 Tryd.f3 rfl rfl rfl rfl rfl rfl rfl ⟨rfl, rfl, rfl, rfl, rfl⟩ rfl rfl rfl rfl rfl (by kernel_rfl) Tryd.func3 (by kernel_rfl)
    (of_decide_eq_true (by kernel_rfl)) (by unfold Func.isWrapper; first | (rw [if_pos (by decide +kernel)]; kernel_rfl) | (rw [if_neg (by decide +kernel)]; exact ⟨rfl, rfl⟩))
    (fun os started H enc _ F => by rw [OpenClaim.pre_eq_preRow]; exact lifted os started H enc F)

theorem plain (f : FuncId) (fn : Func) (hf : Tryd.pinned.checked.prog.funcNamed "gatewicket/wicklaw.SerialSays" = some f) (hfn : Tryd.pinned.checked.prog.funcs[f]? = some fn) :
    false = Tryd.pinned.checked.prog.looks [] ∧ ∀ (j : Nat) t, fn.params[j]? = some t → Tryd.pinned.checked.prog.wantsStandIn t = false := by
  obtain rfl : f = 3 := Option.some.inj ((show Tryd.prog.funcNamed "gatewicket/wicklaw.SerialSays" = some 3 by kernel_rfl).symm.trans hf) |>.symm
  obtain rfl : fn = Tryd.f3 := (Option.some.inj (Tryd.func3.symm.trans hfn)).symm
  refine ⟨by kernel_rfl, fun j t ht => ?_⟩
  rw [Tryd.params3] at ht
  have hm : t = 26 := by simpa using Array.mem_of_getElem? ht
  subst hm
  exact (show Tryd.prog.wantsStandIn 26 = false by kernel_rfl)

theorem over : Rows.SerialSaysUptoCardSaid :=
  Claim7.holds_tied_plain_at .later [] _ _ _ _ row (fun _ h => by cases h) (by kernel_rfl) (fun _ h => by cases h) serialSaysUpto_row_tie rfl ⟨rfl, rfl⟩ (by kernel_rfl) rfl plain (by kernel_rfl)
end Go.Proofs.YtmgealcolofomaaDoor.serialSays
namespace Go.Proofs.YtmgealcolofomaaDoor
theorem serialSays_holds : Rows.SerialSaysUptoCardSaid := serialSays.over
#print axioms serialSays_holds
end Go.Proofs.YtmgealcolofomaaDoor
