/- For all texts s and t, together of bulk at most 1048576, the call of OctetAgain returns true and leaves its arguments as they were; the condition is the bulk. -/
import Derived.Test.YtemkbobofoimaaaRows
import Derived.WalkKit
import Derived.ProofKit
import Derived.OpenShut
import Derived.ShutString
import Derived.JoinedCond
import Derived.Test.YtemkbobofoimaaaWw
import Derived.Test.YtemkbobofoimaaaWrap
namespace Go.Proofs.Ytemkbobofoimaaa.octetAgain
open Go.ChangeShapes Go.WideShapes Go.ChangeAt Go.RowKit
open Go.ChangeMaps (open_string shut_string)
set_option linter.unusedVariables false

theorem bel_trans {w a b : World} (h : Below w.heap.size w a) (g : Below a.heap.size a b) : Below w.heap.size w b := h.trans (g.mono h.size)
theorem mk_toList (l : List UInt8) : (⟨l.toArray⟩ : ByteArray).data.toList = l := by simp
theorem mk_size (l : List UInt8) : (⟨l.toArray⟩ : ByteArray).size = l.length := by simp [ByteArray.size]
theorem ne_beq {a b : ByteArray} (h : a.data.toList ≠ b.data.toList) : (a.toList == b.toList) = false := by
  rw [beq_eq_false_iff_ne, ByteArray.toList_eq, ByteArray.toList_eq]; exact h

/-- Quote and Unquote at whatever world, the text told by its bytes -/
theorem quote_at (l q : List UInt8) (hq : Qt.quote l = q) (s : ByteArray) (hs : s.data.toList = l) (hl : l.length ≤ 8388608) (w : World) :
    Calls Try.prog 9 #[.string s] w fun e w' => e = .returned (.string ⟨q.toArray⟩) ∧ Below w.heap.size w w' := by
  subst hq; subst hs
  exact quote_any s w (by simp at hl; omega)
theorem unquote_some (l x : List UInt8) (hx : Qt.unquote l = some x) (s : ByteArray) (hs : s.data.toList = l) (hl : l.length ≤ 8388608) (w : World) :
    Calls Try.prog 10 #[.string s] w fun e w' => e = .returned (.tuple #[.string ⟨x.toArray⟩, .int .i64 0]) ∧ Below w.heap.size w w' := by
  subst hs
  have := unquote_any s w (by simp at hl; omega)
  rw [show uqV s.data.toList = x from by unfold uqV; rw [hx]; rfl, show uqE s.data.toList = 0 from by unfold uqE; rw [hx]; rfl] at this
  exact this
theorem unquote_none (l : List UInt8) (hx : Qt.unquote l = none) (s : ByteArray) (hs : s.data.toList = l) (hl : l.length ≤ 8388608) (w : World) :
    Calls Try.prog 10 #[.string s] w fun e w' => e = .returned (.tuple #[.string ⟨#[]⟩, .int .i64 3]) ∧ Below w.heap.size w w' := by
  subst hs
  have := unquote_any s w (by simp at hl; omega)
  rw [show uqV s.data.toList = [] from by unfold uqV; rw [hx]; rfl, show uqE s.data.toList = 3 from by unfold uqE; rw [hx]; rfl] at this
  exact this

set_option maxHeartbeats 2000000 in
theorem walk (s t : ByteArray) (hs : s.size + t.size ≤ 1048576) (w : World) :
    Calls Try.prog 4 #[.string s, .string t] w fun e w' => e = .returned (.bool true) ∧ Below w.heap.size w w' := by
  have hsl : s.data.toList.length = s.size := by simp
  have htl : t.data.toList.length = t.size := by simp
  have H1 := hid (quote_at [97, 32, 98] [97, 92, 115, 98] rfl ⟨#[97, 32, 98]⟩ rfl (by decide))
  have H2 := hid (fun w => quote_at _ _ rfl s rfl (by omega) w)
  have H3 := hid (fun w => quote_at _ _ rfl t rfl (by omega) w)
  obtain ⟨qs, hqs⟩ : ∃ q : ByteArray, q = ⟨(Qt.quote s.data.toList).toArray⟩ := ⟨_, rfl⟩
  obtain ⟨qt, hqt⟩ : ∃ q : ByteArray, q = ⟨(Qt.quote t.data.toList).toArray⟩ := ⟨_, rfl⟩
  rw [← hqs] at H2
  rw [← hqt] at H3
  have hcase : ∃ b : Bool, (qs.toList == qt.toList) = b ∧ (s.toList == t.toList) = b := by
    by_cases h : s.data.toList = t.data.toList
    · refine ⟨true, ?_, ?_⟩
      · rw [hqs, hqt, h]; simp
      · rw [ByteArray.toList_eq, ByteArray.toList_eq, h]; simp
    · refine ⟨false, ne_beq ?_, ne_beq h⟩
      rw [hqs, hqt, mk_toList, mk_toList]
      exact fun e => h (Qt.quote_inj e)
  obtain ⟨b, hb1, hb2⟩ := hcase
  clear hqs hqt
  rcases hx : Qt.unquote s.data.toList with _ | x
  · have H4 := hid (unquote_none _ hx s rfl (by omega))
    clear hx hsl htl
    go_enter Try.func4, Try.ntmps4
    go_wp2_with fail
    refine (H1.out _).mono ?_; rintro e w1 ⟨rfl, b1⟩
    go_wp2_with fail
    refine (H2.out _).mono ?_; rintro e w2 ⟨rfl, b2⟩
    go_wp2_with fail
    refine (H3.out _).mono ?_; rintro e w3 ⟨rfl, b3⟩
    go_wp2_with fail
    refine (H4.out _).mono ?_; rintro e w4 ⟨rfl, b4⟩
    go_wp2_with fail
    go_ret
    exact ⟨rfl, bel_trans (bel_trans (bel_trans b1 b2) b3) b4⟩
  · have hxl := Qt.unquote_len hx
    have hql := Qt.quote_len x
    have H4 := hid (unquote_some _ x hx s rfl (by omega))
    have H5 := hid (quote_at x _ rfl ⟨x.toArray⟩ (by simp) (by omega))
    have H6 := hid (unquote_some _ x (Qt.back x) ⟨(Qt.quote x).toArray⟩ (by simp) (by omega))
    generalize hu : (⟨x.toArray⟩ : ByteArray) = u at *
    generalize hv : (⟨(Qt.quote x).toArray⟩ : ByteArray) = v at *
    clear hx hsl htl hxl hql hu hv
    go_enter Try.func4, Try.ntmps4
    go_wp2_with fail
    refine (H1.out _).mono ?_; rintro e w1 ⟨rfl, b1⟩
    go_wp2_with fail
    refine (H2.out _).mono ?_; rintro e w2 ⟨rfl, b2⟩
    go_wp2_with fail
    refine (H3.out _).mono ?_; rintro e w3 ⟨rfl, b3⟩
    go_wp2_with fail
    refine (H4.out _).mono ?_; rintro e w4 ⟨rfl, b4⟩
    go_wp2_with fail
    refine (H5.out _).mono ?_; rintro e w5 ⟨rfl, b5⟩
    go_wp2_with fail
    refine (H6.out _).mono ?_; rintro e w6 ⟨rfl, b6⟩
    go_wp2_with fail
    go_ret
    exact ⟨rfl, bel_trans (bel_trans (bel_trans (bel_trans (bel_trans b1 b2) b3) b4) b5) b6⟩
theorem own : ownKnob Try.prog.godebug = none := by kernel_rfl

theorem small_of {H : Type} {a0 : ByteArray} {a1 : ByteArray} (hk : Rows.uptoSmall H ([.lit (.string a0.data.toList), .lit (.string a1.data.toList)] ++ []) = true) : a0.size + a1.size ≤ 1048576 := by
  have h := of_decide_eq_true hk
  simp only [Rows.uptoBulkAll, Rows.uptoBulk, List.append_nil, Array.length_toList, ByteArray.size_data] at h
  omega

theorem contract (H : Type) (enc : TypeId × Value → H) (W : World) (base : Nat) (args : Array Value) (ds gs : List (DataW H)) (before : List MemPlace) (hsh : W.ShapedOpen Try.prog)
    (hval0 : ∀ (j : Nat) t v, Try.f4.params[j]? = some t → args[j]? = some v → Value.okWide Try.prog W .any base t v)
    (hW : DataW.Whole enc Try.prog Try.f4.params.toList Rows.octetAgainSpec.vars false W args.toList ds gs before) (hk : Rows.uptoSmall H (ds ++ gs) = true) :
    Calls Try.prog 4 args W fun e W' => ∃ v, e = .returned v ∧ Rows.octetAgainSpec.post enc Try.prog Try.f4 false true false false W args v W' := by
  have hval : ∀ (j : Nat) t v, Try.f4.params[j]? = some t → args[j]? = some v → Value.okWide Try.prog W .any base t v := hval0
  have hW' := hW
  obtain ⟨p, q, hA0, hV, rfl, hfz, hnd⟩ := hW
  have hA : DataW.TrodAll enc Try.prog W 0 (fun _ => true) true Try.f4.params.toList args.toList ds p := hA0
  rw [Try.params4] at hA hval
  obtain ⟨v0, vs0, d0, ds0, p0, q0, hargs, rfl, rfl, h0, r0⟩ := trodAll_cons hA
  obtain ⟨v1, vs1, d1, ds1, p1, q1, rfl, rfl, rfl, h1, r1⟩ := trodAll_cons r0
  obtain ⟨rfl, rfl, rfl⟩ := trodAll_nil r1
  obtain rfl : args = #[v0, v1] := by cases args; simp_all
  obtain ⟨rfl, rfl⟩ := trodVars_none hV
  obtain ⟨a0, rfl, rfl, rfl, w0⟩ := open_string Try.underlying9 (hval 0 9 v0 rfl rfl) h0
  obtain ⟨a1, rfl, rfl, rfl, w1⟩ := open_string Try.underlying9 (hval 1 9 v1 rfl rfl) h1
  clear hA0 hval0
  simp only [List.append_nil] at hW'
  refine (walk a0 a1 (small_of hk) W).mono fun e W' ⟨he, hb⟩ => ?_
  subst he
  exact ⟨_, rfl, _, _, _, [], [], [], hW', (trodAll_cons_mk (shut_bool Try.underlying4 _) trodAll_mk0), (trodAll_cons_mk (shut_string Try.underlying9 w0) (trodAll_cons_mk (shut_string Try.underlying9 w1) trodAll_mk0)), rfl, hb.frame _, fun h => by cases h⟩

set_option maxRecDepth 100000 in
theorem lifted (os : Os) (started : os.Started) (H : Type) (enc : TypeId × Value → H) (F : Stop.Interp) :
    ReturnsInHanded {} Try.checked os 4 .any ((Rows.OpenSpec.upto Rows.octetAgainSpec).pre6 enc Try.prog Try.f4 Rows.octetAgainUptoRow.domain false) (((Rows.OpenSpec.upto Rows.octetAgainSpec).at F).post enc Try.prog Try.f4 false true false false) := by
  refine cond_shaped (C := Try.checked) (s := Rows.OpenSpec.upto Rows.octetAgainSpec) (k := Rows.uptoSmall) rfl own started (by kernel_rfl) Try.func4
    (OpenSpec.witness (enc := enc) (C := Try.checked) (s := Rows.OpenSpec.upto Rows.octetAgainSpec) (k := Rows.uptoSmall) rfl false ⟨#[], #[.string ByteArray.empty, .string ByteArray.empty], []⟩ 8 (by kernel_rfl) (by kernel_rfl) (by kernel_rfl)
      (x := ([.lit (.string []), .lit (.string [])], [], [])) (by kernel_rfl) rfl (by kernel_rfl)) ?_
  intro W base args ds gs before hsh hval hW hk
  exact contract H enc W base args ds gs before hsh hval hW hk

theorem over : Rows.OctetAgainUptoSaid :=
  OpenClaim.holds_of_cond 4 Try.f4 rfl rfl rfl rfl rfl rfl rfl ⟨rfl, rfl, rfl, rfl, rfl⟩ rfl rfl rfl rfl rfl (by kernel_rfl) Try.func4 (by kernel_rfl)
    (of_decide_eq_true (by kernel_rfl)) (by unfold Func.isWrapper; first | (rw [if_pos (by decide +kernel)]; kernel_rfl) | (rw [if_neg (by decide +kernel)]; exact ⟨rfl, rfl⟩))
    (fun os started H enc _ F => lifted os started H enc F)
end Go.Proofs.Ytemkbobofoimaaa.octetAgain
namespace Go.Proofs.Ytemkbobofoimaaa
theorem octetAgain_holds : Rows.OctetAgainUptoSaid := octetAgain.over
#print axioms octetAgain_holds
end Go.Proofs.Ytemkbobofoimaaa
