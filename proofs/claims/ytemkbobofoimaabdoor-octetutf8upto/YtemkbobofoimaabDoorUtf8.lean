/- For all texts s and t, together of bulk at most 1048576, with the two tables of unicode/utf8 as the program's text lays them, the call of OctetUtf8 returns true and leaves its arguments as they were; the conditions are the bulk and the tables, which the card ties to the text. -/
import Derived.Test.YtemkbobofoimaabDoorRows
import Derived.Test.YtemkbobofoimaabDoorTie
import Derived.Test.YtemkbobofoimaabDoorCards
import Derived.WalkKit
import Derived.ProofKit
import Derived.OpenShut
import Derived.ShutString
import Derived.JoinedCond
import Derived.Deep.DeepHandedRow
import Derived.Lib.LaidTab
import Derived.Lib.LaidU8
import Derived.Test.YtemkbobofoimaabDoorWx
import Derived.Test.YtemkbobofoimaabDoorLaid
namespace Go.Proofs.YtemkbobofoimaabDoor.octetUtf8
open Go.ChangeShapes Go.WideShapes Go.ChangeAt Go.RowKit
open Go.ChangeMaps (open_string shut_string)
set_option linter.unusedVariables false

theorem bel_trans {w a b : World} (h : Below w.heap.size w a) (g : Below a.heap.size a b) : Below w.heap.size w b := h.trans (g.mono h.size)

theorem utf8_at (l : List UInt8) (v : Bool) (n : Nat) (hv : U8.isV l = v) (hn : U8.atV l = n) (s : ByteArray) (hs : s.data.toList = l) (hl : l.length ≤ 8388608) (w : World) (hT : Lib.Utf8Tabs 1 2 w) :
    Calls Tryd.prog 9 #[.string s] w fun e w' => e = .returned (.tuple #[.bool v, .int .i64 n]) ∧ Below w.heap.size w w' ∧ Lib.Utf8Tabs 1 2 w' := by
  subst hv; subst hn; subst hs
  refine (utf8_any s w (by simp at hl; omega) hT).mono ?_
  rintro e w' ⟨rfl, hb⟩
  exact ⟨rfl, hb, tabs_below hT hb⟩

theorem app_list (s t : ByteArray) : (s ++ t).data.toList = s.data.toList ++ t.data.toList := by simp
theorem pre_list (s : ByteArray) (n : Nat) : (s.extract 0 n).data.toList = s.data.toList.take n := by rw [Lib.extract_data]; simp

set_option maxHeartbeats 2000000 in
theorem walk_good (s t : ByteArray) (b : Bool) (m k : Nat) (hb : s.size + t.size ≤ 1048576) (w : World) (hT : Lib.Utf8Tabs 1 2 w) (hm : m ≤ 1048576)
    (hs : U8.isV s.data.toList = true ∧ U8.atV s.data.toList = 0) (ht : U8.isV t.data.toList = b ∧ U8.atV t.data.toList = m) (hst : U8.isV (s ++ t).data.toList = b ∧ U8.atV (s ++ t).data.toList = k) (hk : (b = true ∧ k = 0) ∨ (b = false ∧ k = s.size + m)) :
    Calls Tryd.prog 4 #[.string s, .string t] w fun e w' => e = .returned (.bool true) ∧ Below w.heap.size w w' := by
  have H0 := hidx (utf8_at [97, 195, 169, 255] false 3 (by decide) (by decide) ⟨#[97, 195, 169, 255]⟩ rfl (by decide))
  have H1 := hidx (utf8_at _ _ _ hs.1 hs.2 s rfl (by simp; omega))
  have H2 := hidx (utf8_at _ _ _ ht.1 ht.2 t rfl (by simp; omega))
  have H3 := hidx (utf8_at _ _ _ hst.1 hst.2 (s ++ t) rfl (by simp; omega))
  have HT := hidx hT
  clear hs ht hst hT
  rcases hk with ⟨rfl, rfl⟩ | ⟨rfl, rfl⟩
  all_goals
    go_enter Tryd.func4, Tryd.ntmps4
    go_wp2_with fail
    refine (H0.out _ HT.out).mono ?_; rintro e w1 ⟨rfl, b1, t1⟩
    have T1 := hidx t1; clear t1
    go_wp2_with fail
    refine (H1.out _ T1.out).mono ?_; rintro e w2 ⟨rfl, b2, t2⟩
    have T2 := hidx t2; clear t2
    go_wp2_with fail
    refine (H2.out _ T2.out).mono ?_; rintro e w3 ⟨rfl, b3, t3⟩
    have T3 := hidx t3; clear t3
    go_wp2_with fail
    refine (H3.out _ T3.out).mono ?_; rintro e w4 ⟨rfl, b4, t4⟩
    clear t4
    go_wp2_with fail
    go_ret
    exact ⟨by simp, bel_trans (bel_trans (bel_trans b1 b2) b3) b4⟩

set_option maxHeartbeats 2000000 in
theorem walk_bad (s t : ByteArray) (b c : Bool) (n m k : Nat) (hb : s.size + t.size ≤ 1048576) (w : World) (hT : Lib.Utf8Tabs 1 2 w) (hm : m ≤ 1048576) (hn : n < s.size) (hkk : k ≤ 1048576)
    (hs : U8.isV s.data.toList = false ∧ U8.atV s.data.toList = n) (ht : U8.isV t.data.toList = b ∧ U8.atV t.data.toList = m) (hst : U8.isV (s ++ t).data.toList = c ∧ U8.atV (s ++ t).data.toList = k)
    (hp : U8.isV (s.extract 0 n).data.toList = true ∧ U8.atV (s.extract 0 n).data.toList = 0) (hk : c = true ∨ (c = false ∧ n ≤ k)) :
    Calls Tryd.prog 4 #[.string s, .string t] w fun e w' => e = .returned (.bool true) ∧ Below w.heap.size w w' := by
  have H0 := hidx (utf8_at [97, 195, 169, 255] false 3 (by decide) (by decide) ⟨#[97, 195, 169, 255]⟩ rfl (by decide))
  have H1 := hidx (utf8_at _ _ _ hs.1 hs.2 s rfl (by simp; omega))
  have H2 := hidx (utf8_at _ _ _ ht.1 ht.2 t rfl (by simp; omega))
  have H3 := hidx (utf8_at _ _ _ hst.1 hst.2 (s ++ t) rfl (by simp; omega))
  have H4 := hidx (utf8_at _ _ _ hp.1 hp.2 (s.extract 0 n) rfl (by simp; omega))
  have HT := hidx hT
  clear hs ht hst hT hp
  rcases hk with rfl | ⟨rfl, hk⟩
  all_goals
    go_enter Tryd.func4, Tryd.ntmps4
    go_wp2_with fail
    refine (H0.out _ HT.out).mono ?_; rintro e w1 ⟨rfl, b1, t1⟩
    have T1 := hidx t1; clear t1
    go_wp2_with fail
    refine (H1.out _ T1.out).mono ?_; rintro e w2 ⟨rfl, b2, t2⟩
    have T2 := hidx t2; clear t2
    go_wp2_with fail
    refine (H2.out _ T2.out).mono ?_; rintro e w3 ⟨rfl, b3, t3⟩
    have T3 := hidx t3; clear t3
    go_wp2_with fail
    refine (H3.out _ T3.out).mono ?_; rintro e w4 ⟨rfl, b4, t4⟩
    have T4 := hidx t4; clear t4
    go_wp2_with fail
    refine (H4.out _ T4.out).mono ?_; rintro e w5 ⟨rfl, b5, t5⟩
    clear t5
    go_wp2_with fail
    go_ret
    exact ⟨by simp [*], bel_trans (bel_trans (bel_trans (bel_trans b1 b2) b3) b4) b5⟩

theorem vals_none {l : List UInt8} (h : U8.bad l = none) : U8.isV l = true ∧ U8.atV l = 0 := by simp [U8.isV, U8.atV, h]
theorem vals_some {l : List UInt8} {k : Nat} (h : U8.bad l = some k) : U8.isV l = false ∧ U8.atV l = k := by simp [U8.isV, U8.atV, h]

theorem walk_t (s t : ByteArray) (hb : s.size + t.size ≤ 1048576) (w : World) (hT : Lib.Utf8Tabs 1 2 w) :
    Calls Tryd.prog 4 #[.string s, .string t] w fun e w' => e = .returned (.bool true) ∧ Below w.heap.size w w' := by
  have hsl : s.data.toList.length = s.size := by simp
  have htl : t.data.toList.length = t.size := by simp
  have hal : (s ++ t).data.toList.length = s.size + t.size := by simp
  rcases hs : U8.bad s.data.toList with _ | n
  · have ha := U8.bad_append _ s.data.toList t.data.toList (Nat.le_refl _) hs
    rw [← app_list] at ha
    rcases ht : U8.bad t.data.toList with _ | m
    · rw [ht] at ha
      exact walk_good s t true 0 0 hb w hT (by omega) (vals_none hs) (vals_none ht) (vals_none ha) (.inl ⟨rfl, rfl⟩)
    · rw [ht] at ha
      have := U8.bad_lt _ _ (Nat.le_refl _) m ht
      refine walk_good s t false m (s.size + m) hb w hT (by omega) (vals_none hs) (vals_some ht) (vals_some ?_) (.inr ⟨rfl, rfl⟩)
      rw [ha]; simp; omega
  · have hn := U8.bad_lt _ _ (Nat.le_refl _) n hs
    have hp := U8.bad_take _ _ n (Nat.le_refl _) hs
    rw [← pre_list] at hp
    have hl := U8.bad_later s.data.toList t.data.toList n hs
    rw [← app_list] at hl
    have ht : ∃ b m, m ≤ 1048576 ∧ U8.isV t.data.toList = b ∧ U8.atV t.data.toList = m := by
      rcases ht : U8.bad t.data.toList with _ | m
      · exact ⟨true, 0, by omega, vals_none ht⟩
      · have := U8.bad_lt _ _ (Nat.le_refl _) m ht
        exact ⟨false, m, by omega, vals_some ht⟩
    obtain ⟨b, m, hm, hbm⟩ := ht
    rcases hl with hl | ⟨j, hl, hj⟩
    · exact walk_bad s t b true n m 0 hb w hT hm (by omega) (by omega) (vals_some hs) hbm (vals_none hl) (vals_none hp) (.inl rfl)
    · have := U8.bad_lt _ _ (Nat.le_refl _) j hl
      exact walk_bad s t b false n m j hb w hT hm (by omega) (by omega) (vals_some hs) hbm (vals_some hl) (vals_none hp) (.inr ⟨rfl, hj⟩)

theorem walk (a0 a1 : ByteArray) (hb : a0.size + a1.size ≤ 1048576) (w : World) (hL : laidMetH Tryd.prog Rows.octetUtf8UptoRow.laid w) :
    Calls Tryd.prog 4 #[.string a0, .string a1] w fun e w' => e = .returned (.bool true) ∧ Below w.heap.size w w' :=
  walk_t a0 a1 hb w (tabs_of (Lib.laidMet.reads hL (.tail _ (.head _))) (Lib.laidMet.reads hL (.head _)))

theorem own : ownKnob Tryd.prog.godebug = none := by kernel_rfl

theorem small_of {H : Type} {a0 : ByteArray} {a1 : ByteArray} (hk : Rows.uptoSmall H ([.lit (.string a0.data.toList), .lit (.string a1.data.toList)] ++ []) = true) : a0.size + a1.size ≤ 1048576 := by
  have h := of_decide_eq_true hk
  simp only [Rows.uptoBulkAll, Rows.uptoBulk, List.append_nil, Array.length_toList, ByteArray.size_data] at h
  omega

theorem contract (H : Type) (enc : TypeId × Value → H) (W : World) (base : Nat) (args : Array Value) (ds gs : List (DataW H)) (before : List MemPlace) (hsh : W.ShapedOpen Tryd.prog)
    (hval0 : ∀ (j : Nat) t v, Tryd.f4.params[j]? = some t → args[j]? = some v → Value.okWide Tryd.prog W .any base t v)
    (hW : DataW.Whole enc Tryd.prog Tryd.f4.params.toList Rows.octetUtf8Spec.vars false W args.toList ds gs before) (hk : Rows.uptoSmall H (ds ++ gs) = true) (hL : laidMetH Tryd.prog Rows.octetUtf8UptoRow.laid W) :
    Calls Tryd.prog 4 args W fun e W' => ∃ v, e = .returned v ∧ Rows.octetUtf8Spec.post enc Tryd.prog Tryd.f4 false true false false W args v W' := by
  have hval : ∀ (j : Nat) t v, Tryd.f4.params[j]? = some t → args[j]? = some v → Value.okWide Tryd.prog W .any base t v := hval0
  have hW' := hW
  obtain ⟨p, q, hA0, hV, rfl, hfz, hnd⟩ := hW
  have hA : DataW.TrodAll enc Tryd.prog W 0 (fun _ => true) true Tryd.f4.params.toList args.toList ds p := hA0
  rw [Tryd.params4] at hA hval
  obtain ⟨v0, vs0, d0, ds0, p0, q0, hargs, rfl, rfl, h0, r0⟩ := trodAll_cons hA
  obtain ⟨v1, vs1, d1, ds1, p1, q1, rfl, rfl, rfl, h1, r1⟩ := trodAll_cons r0
  obtain ⟨rfl, rfl, rfl⟩ := trodAll_nil r1
  obtain rfl : args = #[v0, v1] := by cases args; simp_all
  obtain ⟨rfl, rfl⟩ := trodVars_none hV
  obtain ⟨a0, rfl, rfl, rfl, w0⟩ := open_string Tryd.underlying9 (hval 0 9 v0 rfl rfl) h0
  obtain ⟨a1, rfl, rfl, rfl, w1⟩ := open_string Tryd.underlying9 (hval 1 9 v1 rfl rfl) h1
  clear hA0 hval0
  simp only [List.append_nil] at hW'
  refine (walk a0 a1 (small_of hk) W hL).mono fun e W' ⟨he, hb⟩ => ?_
  subst he
  exact ⟨_, rfl, _, _, _, [], [], [], hW', (trodAll_cons_mk (shut_bool Tryd.underlying4 _) trodAll_mk0), (trodAll_cons_mk (shut_string Tryd.underlying9 w0) (trodAll_cons_mk (shut_string Tryd.underlying9 w1) trodAll_mk0)), rfl, hb.frame _, fun h => by cases h⟩

theorem reads (os : Os) {H : Type} (enc : TypeId × Value → H) : ∃ places, DataW.whole enc Tryd.prog ((laidIn (World.holding Tryd.prog os ⟨#[], #[], []⟩)).forCall (fun _ _ => 0) ⟨#[], #[.string ByteArray.empty, .string ByteArray.empty], []⟩).memory Tryd.f4.params.toList Rows.octetUtf8Spec.vars false (#[.string ByteArray.empty, .string ByteArray.empty] : Array Value).toList 8 = some ([.lit (.string []), .lit (.string [])], [], places) :=
  ⟨[], by kernel_rfl⟩
theorem laid_met (os : Os) : laidMet Tryd.prog Rows.octetUtf8UptoRow.laid ((laidIn (World.holding Tryd.prog os ⟨#[], #[], []⟩)).forCall (fun _ _ => 0) ⟨#[], #[.string ByteArray.empty, .string ByteArray.empty], []⟩).memory :=
  laidMet_of_run' 8 (by kernel_rfl) (by kernel_rfl)

set_option maxRecDepth 100000 in
theorem lifted (os : Os) (started : os.Started) (H : Type) (enc : TypeId × Value → H) (F : Stop.Interp) :
    ReturnsInHanded {} Tryd.checked os 4 .any ((Rows.OpenSpec.upto Rows.octetUtf8Spec).preRow enc Tryd.prog Tryd.f4 Rows.octetUtf8UptoRow.domain false Rows.octetUtf8UptoRow.laid) (((Rows.OpenSpec.upto Rows.octetUtf8Spec).at F).post enc Tryd.prog Tryd.f4 false true false false) := by
  obtain ⟨places, hx⟩ := reads os enc
  refine returnsInHanded_of_row (C := Tryd.checked) (s := Rows.OpenSpec.upto Rows.octetUtf8Spec) own started (by kernel_rfl) Tryd.func4
    (witness_row_at (enc := enc) (C := Tryd.checked) false (laidIn (World.holding Tryd.prog os ⟨#[], #[], []⟩)) #[.string ByteArray.empty, .string ByteArray.empty] rfl (by kernel_rfl) (by kernel_rfl) (by kernel_rfl)
      (OpenSpec.preRow_of_cond 8 hx (by kernel_rfl) (fun k hk => by cases hk; kernel_rfl) (by kernel_rfl) (laid_met os))) ?_
  intro W base args ds gs before hval hW _ hcond _ hL hsh _
  exact contract H enc W base args ds gs before hsh hval hW (hcond _ rfl) hL

theorem row : Rows.OctetUtf8UptoSaid :=
  OpenClaim.holds_of_cond 4 Tryd.f4 rfl rfl rfl rfl rfl rfl rfl ⟨rfl, rfl, rfl, rfl, rfl⟩ rfl rfl rfl rfl rfl (by kernel_rfl) Tryd.func4 (by kernel_rfl)
    (of_decide_eq_true (by kernel_rfl)) (by unfold Func.isWrapper; first | (rw [if_pos (by decide +kernel)]; kernel_rfl) | (rw [if_neg (by decide +kernel)]; exact ⟨rfl, rfl⟩))
    (fun os started H enc _ F => by rw [OpenClaim.pre_eq_preRow]; exact lifted os started H enc F)

theorem plain (f : FuncId) (fn : Func) (hf : Tryd.pinned.checked.prog.funcNamed "gatewicket/wickkeep.OctetUtf8" = some f) (hfn : Tryd.pinned.checked.prog.funcs[f]? = some fn) :
    false = Tryd.pinned.checked.prog.looks [] ∧ ∀ (j : Nat) t, fn.params[j]? = some t → Tryd.pinned.checked.prog.wantsStandIn t = false := by
  obtain rfl : f = 4 := Option.some.inj ((show Tryd.prog.funcNamed "gatewicket/wickkeep.OctetUtf8" = some 4 by kernel_rfl).symm.trans hf) |>.symm
  obtain rfl : fn = Tryd.f4 := (Option.some.inj (Tryd.func4.symm.trans hfn)).symm
  refine ⟨by kernel_rfl, fun j t ht => ?_⟩
  rw [Tryd.params4] at ht
  have hm : t = 9 := by simpa using Array.mem_of_getElem? ht
  subst hm
  exact (show Tryd.prog.wantsStandIn 9 = false by kernel_rfl)

theorem over : Rows.OctetUtf8UptoCardSaid :=
  Claim7.holds_tied_plain_at .later [] _ _ _ _ row (fun _ h => by cases h) (by kernel_rfl) (fun _ h => by cases h) octetUtf8Upto_row_tie rfl ⟨rfl, rfl⟩ (by kernel_rfl) rfl plain (by kernel_rfl)
end Go.Proofs.YtemkbobofoimaabDoor.octetUtf8
namespace Go.Proofs.YtemkbobofoimaabDoor
theorem octetUtf8_holds : Rows.OctetUtf8UptoCardSaid := octetUtf8.over
#print axioms octetUtf8_holds
end Go.Proofs.YtemkbobofoimaabDoor
