/- There is a hit just if some word stands somewhere; more text takes none away.
   Conditions: what is handed in is of bulk at most 1048576; whatever number the library's own variable MaxLen holds. -/
import Derived.Test.YtmmjcbfffcnfiaaRows
import Derived.WalkKit
import Derived.ProofKit
import Derived.OpenShut
import Derived.ShutString
import Derived.JoinedCond
import Derived.Test.YtmmjcbfffcnfiaaGc
import Derived.Test.YtmmjcbfffcnfiaaWrap
namespace Go.Proofs.Ytmmjcbfffcnfiaa.phraseSome
open Go.RowKit Kb Go.ChangeShapes Go.WideShapes Go.ChangeAt Ph
open Go.ChangeMaps (open_string shut_string)
set_option linter.unusedVariables false
set_option maxRecDepth 20000

def ab : List ByteArray := [⟨#[97, 98]⟩]
theorem ab_cw : cw ab = 0 := by decide
theorem ab_begs : (begs ab).length ≤ 400 := by decide
theorem ab_stands : decide (0 < (stands ab [120, 97, 98, 121] 4).length) = true := by decide
theorem owns_len {w : World} {B : Nat} {v : Value} {l : List Ht} (h : w.ownsRow B 38 2 v l.length (cellsH l)) : ∃ o c, v = .slice o l.length c := by
  obtain ⟨o, c, rfl, _⟩ := own_forms h
  exact ⟨o, c, rfl⟩

theorem cellsH_take (l : List Ht) (m : Nat) : (cellsH l).take (m * 2) = cellsH (l.take m) := by
  induction l generalizing m with
  | nil => simp [cellsH]
  | cons a r ih =>
    cases m with
    | zero => simp [cellsH]
    | succ m =>
      have e : cellsH (a :: r) = .int .i64 a.1 :: .int .i64 a.2 :: cellsH r := by simp [cellsH]
      rw [e, List.take_succ_cons, show (m + 1) * 2 = m * 2 + 1 + 1 by omega, List.take_succ_cons, List.take_succ_cons, ih]
      simp [cellsH]
set_option maxHeartbeats 4000000 in
theorem walk (v0 : Value) (ws : List ByteArray) (s t : ByteArray) (m : Int) (hb : s.size + t.size ≤ 1048576) (w : World) (hV : Strs w v0 ws) (hm : w.cell? ⟨0, 0, none⟩ = some (.int .i64 m)) :
    Calls Try.prog 6 #[v0, .string s, .string t] w fun e w' => e = .returned (.bool true) ∧ Below w.heap.size w w' := by
  obtain ⟨o, cp, rfl, hcp⟩ := hV.form
  have HV := hide hV
  have HM := hide hm
  have hm0 : 0 < w.heap.size := World.block_lt_of_cell? _ _ hm
  have HM0 := hide hm0
  clear hV hm hm0
  have ba : Below w.heap.size w (w.alloc (.cells #[.string s] 9)) := (Below.refl _ _).alloc (Nat.le_refl _) _
  have hcx : (w.alloc (.cells #[.string s] 9)).cell? ⟨w.heap.size, 0, none⟩ = some (.string s) := by rw [World.cell?_alloc_new]; rfl
  have C1 := hide (tree_made _ _ _ (strs_one (w.alloc (.cells #[.string s] 9)) ⟨#[97, 98]⟩) ab_cw ab_begs)
  have hsz1 : (w.alloc (.cells #[.string s] 9)).heap.size = w.heap.size + 1 := by simp
  rw [hsz1] at C1
  have B1 : Hid (Below (w.alloc (.cells #[.string s] 9)).heap.size (w.alloc (.cells #[.string s] 9)) ((w.alloc (.cells #[.string s] 9)).alloc (.cells #[.string ⟨#[97, 98]⟩] 9))) := hide ((Below.refl _ _).alloc (Nat.le_refl _) _)
  have BA := hide ba
  have HCX := hide hcx
  clear ba hcx hsz1
  go_enter Try.func6, Try.ntmps6
  go_wp2_with fail
  refine (unhide C1).mono ?_
  rintro e w1 ⟨x, T, at_, X, rfl, hwt, hT, b1, hx⟩
  have B2 := hide (bel_trans (unhide B1) b1)
  have C2 := hide (some_made w1 x _ T at_ X hx hwt hT (by decide) ⟨#[120, 97, 98, 121]⟩ (by decide))
  rw [show decide (0 < (stands [⟨#[97, 98]⟩] (⟨#[120, 97, 98, 121]⟩ : ByteArray).data.toList (⟨#[120, 97, 98, 121]⟩ : ByteArray).size).length) = true from ab_stands] at C2
  obtain ⟨ox, cx, hfx, _⟩ := hx.form
  subst hfx
  clear hx hwt hT b1 C1 B1
  go_wp2_with fail
  refine (unhide C2).mono ?_
  rintro e w2 ⟨rfl, b2⟩
  have B3 := hide (bel_trans (unhide B2) b2)
  clear b2 C2 B2
  have C3 := hide (make_any w2 _ ws ((unhide HV).below (bel_trans (unhide BA) (unhide B3))))
  go_wp2_with fail
  refine (unhide C3).mono ?_
  rintro e w3 ⟨b4, hm⟩
  have B4 := hide (bel_trans (unhide B3) b4)
  clear b4 C3 B3
  have BW := hide (bel_trans (unhide BA) (unhide B4))
  have hcs : w3.cell? ⟨w.heap.size, 0, none⟩ = some (.string s) := cell_below (unhide HCX) (by simp) (unhide B4)
  rcases hm with ⟨g, rfl⟩ | ⟨h0, T, at_, X, lev, hgi, hwt, hfew, ⟨g, rfl⟩ | ⟨g, x, rfl, hx⟩⟩
  · have hbn : (cw ws != 0) = true := by simp; exact g
    go_wp2_with fail
    go_ret
    exact ⟨rfl, unhide BW⟩
  · go_wp2_with fail
    go_ret
    exact ⟨rfl, unhide BW⟩
  obtain ⟨hn, _, _, hne⟩ := cw_right h0
  have HNE := hide hne
  have HX := hide hx
  have HWT := hide hwt
  obtain ⟨oz, cz, hfz, _⟩ := hx.form
  subst hfz
  clear hx hwt hgi h0 hfew hne
  rw [made_len] at HX ⊢
  by_cases h2 : 2000 < s.size
  · have hI : (s.size : Int) > 2000 := by omega
    go_wp2_with fail
    go_ret
    exact ⟨rfl, unhide BW⟩
  have hI : ¬ ((s.size : Int) > 2000) := by omega
  by_cases h3 : 2000 < t.size
  · have hJ : (t.size : Int) > 2000 := by omega
    go_wp2_with fail
    go_ret
    exact ⟨rfl, unhide BW⟩
  have hJ : ¬ ((t.size : Int) > 2000) := by omega
  obtain ⟨q, hq⟩ : ∃ q, s ++ t = q := ⟨_, rfl⟩
  have hqs : q.size ≤ 4000 := by rw [← hq]; simp; omega
  obtain ⟨L, hL⟩ : ∃ L, stands ws s.data.toList s.size = L := ⟨_, rfl⟩
  obtain ⟨r, hr⟩ := stands_app ws s.data.toList t.data.toList
  have hLr : stands ws q.data.toList q.size = L ++ r := by
    have h5 : q.data.toList = s.data.toList ++ t.data.toList := by rw [← hq, cat_data]
    rw [show q.size = q.data.toList.length by simp, h5, hr, show s.data.toList.length = s.size by simp, hL]
  have C4 := hide (some_made w3 _ ws T at_ X (unhide HX) (unhide HWT) g hn s (by omega))
  rw [hL] at C4
  have HAS := hide (any_stands (s := s.data.toList) (unhide HNE))
  rw [show s.data.toList.length = s.size by simp, hL] at HAS
  have HLL := hide hL
  have HLR := hide hLr
  clear hL hLr hr
  go_wp2_with fail
  refine (unhide C4).mono ?_
  rintro e w4 ⟨rfl, b5⟩
  have B5 := hide (bel_trans (unhide B4) b5)
  have BW4 := hide (bel_trans (unhide BW) b5)
  have X4 := hide ((unhide HX).below b5)
  have hc4 : w4.cell? ⟨w.heap.size, 0, none⟩ = some (.string s) := cell_below (unhide HCX) (by simp) (unhide B5)
  have CF := hide (containsF_any s m w.heap.size w4 _ ws (by omega) (cell_below (unhide HM) (unhide HM0) (unhide BW4)) hc4 ((unhide HV).below (unhide BW4)))
  rw [unhide HAS] at CF
  have C5 := hide (some_made w4 _ ws T at_ X (unhide X4) (unhide HWT) g hn q (by omega))
  rw [unhide HLR] at C5
  clear b5 C4 hcs HAS
  go_wp2_with fail
  refine (unhide CF).mono ?_; rintro e wx ⟨rfl, hwx⟩; rw [hwx]; clear hwx wx CF
  go_wp2_with fail
  have hbc : ∃ bb cc : Bool, decide (0 < L.length) = bb ∧ decide (0 < (L ++ r).length) = cc ∧ (bb = true → cc = true) := by
    refine ⟨_, _, rfl, rfl, fun h => ?_⟩
    have := of_decide_eq_true h
    exact decide_eq_true (by rw [List.length_append]; omega)
  obtain ⟨bb, cc, hbb, hcc, himp⟩ := hbc
  rw [hcc] at C5
  rw [hbb]
  clear hbb hcc
  refine (unhide C5).mono ?_
  rintro e w5 ⟨rfl, b6⟩
  have B6 := hide (bel_trans (unhide B5) b6)
  have BW5 := hide (bel_trans (unhide BW4) b6)
  have X5 := hide ((unhide X4).below b6)
  have hc5 : w5.cell? ⟨w.heap.size, 0, none⟩ = some (.string s) := cell_below (unhide HCX) (by simp) (unhide B6)
  have C6 := hide (hits_made w5 _ ws T at_ X (unhide X5) (unhide HWT) g hn s (by omega))
  rw [unhide HLL] at C6
  clear b6 C5 hc4 X4 B5 BW4
  go_wp2_with fail
  refine (unhide C6).mono ?_
  rintro e w6 ⟨y1, rfl, b7, own1⟩
  have B7 := hide (bel_trans (unhide B6) b7)
  have BW6 := hide (bel_trans (unhide BW5) b7)
  have X6 := hide ((unhide X5).below b7)
  have hc6 : w6.cell? ⟨w.heap.size, 0, none⟩ = some (.string s) := cell_below (unhide HCX) (by simp) (unhide B7)
  have C7 := hide (hits_made w6 _ ws T at_ X (unhide X6) (unhide HWT) g hn q (by omega))
  rw [unhide HLR] at C7
  have hll := stands_len ws q.data.toList q.size
  have hll2 : (stands ws q.data.toList q.size).length ≤ 120000 := Nat.le_trans hll (Nat.mul_le_mul hqs hn)
  rw [unhide HLR] at hll2
  clear hll
  have OWN1 := hide own1
  obtain ⟨o1, c1, hf1⟩ := owns_len own1
  subst hf1
  clear b7 C6 hc5 X5 B6 BW5 own1
  go_wp2_with fail
  refine (unhide C7).mono ?_
  rintro e w7 ⟨y2, rfl, b8, own2⟩
  have BW7 := hide (bel_trans (unhide BW6) b8)
  have OWN1' := hide (own_below (unhide OWN1) b8)
  have OWN2 := hide own2
  have hle : (L.length : Int) ≤ ((L ++ r).length : Int) := by rw [List.length_append]; omega
  have hlen : L.length ≤ (L ++ r).length := by rw [List.length_append]; omega
  clear b8 C7 hc6 OWN1 B7 BW6 X6
  rcases own2.2 with ⟨hf2, hz⟩ | ⟨g2, cap2, cur2, hf2, _, _, hcap, _⟩
  · subst hf2
    have hLn : L = [] := List.length_eq_zero_iff.1 (by omega)
    subst hLn
    have hrn : r = [] := List.length_eq_zero_iff.1 hz
    subst hrn
    have CE := hide (equal_hits w7 _ w7.heap.size _ (.slice none 0 0) [] (unhide OWN1') (World.ownsRow_nil _ _ _ _) (by decide))
    clear own2 hz OWN2
    cases bb
    · go_wp2_with fail
      refine (unhide CE).mono ?_
      rintro e w8 ⟨rfl, b9⟩
      have BW8 := hide (bel_trans (unhide BW7) b9)
      clear b9 CE
      go_wp2_with fail
      go_ret
      exact ⟨rfl, unhide BW8⟩
    · have hcc := himp rfl
      subst hcc
      go_wp2_with fail
      refine (unhide CE).mono ?_
      rintro e w8 ⟨rfl, b9⟩
      have BW8 := hide (bel_trans (unhide BW7) b9)
      clear b9 CE
      go_wp2_with fail
      go_ret
      exact ⟨rfl, unhide BW8⟩
  · subst hf2
    have own3 := own_shrink own2 hlen
    rw [cellsH_take, List.take_left] at own3
    have CE := hide (equal_hits w7 _ _ _ _ L (unhide OWN1') own3 (by omega))
    obtain ⟨N, hN⟩ : ∃ N, (L ++ r).length = N := ⟨_, rfl⟩
    rw [hN] at hle hlen hcap hll2 ⊢
    clear own2 own3 OWN2 hN
    cases bb
    · go_wp2_with fail
      refine (unhide CE).mono ?_
      rintro e w8 ⟨rfl, b9⟩
      have BW8 := hide (bel_trans (unhide BW7) b9)
      clear b9 CE
      go_wp2_with fail
      go_ret
      exact ⟨rfl, unhide BW8⟩
    · have hcc := himp rfl
      subst hcc
      go_wp2_with fail
      refine (unhide CE).mono ?_
      rintro e w8 ⟨rfl, b9⟩
      have BW8 := hide (bel_trans (unhide BW7) b9)
      clear b9 CE
      go_wp2_with fail
      go_ret
      exact ⟨rfl, unhide BW8⟩
theorem own : ownKnob Try.prog.godebug = none := by kernel_rfl

theorem small_of {H : Type} {a0 : DataW H} {a1 a2 : ByteArray} (hk : Rows.uptoSmall H ([a0, .lit (.string a1.data.toList), .lit (.string a2.data.toList)] ++ []) = true) : Rows.uptoBulk a0 + a1.size + a2.size ≤ 1048576 := by
  have h := of_decide_eq_true hk
  simp only [Rows.uptoBulkAll, Rows.uptoBulk, List.append_nil, Array.length_toList, ByteArray.size_data] at h
  omega

set_option maxRecDepth 100000 in
theorem contract (H : Type) (enc : TypeId × Value → H) (W : World) (base : Nat) (args : Array Value) (ds gs : List (DataW H)) (before : List MemPlace) (hsh : W.ShapedOpen Try.prog)
    (hval0 : ∀ (j : Nat) t v, Try.f6.params[j]? = some t → args[j]? = some v → Value.okWide Try.prog W .any base t v)
    (hW : DataW.Whole enc Try.prog Try.f6.params.toList Rows.phraseSomeSpec.vars false W args.toList ds gs before) (hk : Rows.uptoSmall H (ds ++ gs) = true) :
    Calls Try.prog 6 args W fun e W' => ∃ v, e = .returned v ∧ Rows.phraseSomeSpec.post enc Try.prog Try.f6 false true false false W args v W' := by
  have hval : ∀ (j : Nat) t v, Try.f6.params[j]? = some t → args[j]? = some v → Value.okWide Try.prog W .any base t v := hval0
  have hW' := hW
  obtain ⟨p, q, hA0, hV, rfl, hfz, hnd⟩ := hW
  have hA : DataW.TrodAll enc Try.prog W 0 (fun _ => true) true Try.f6.params.toList args.toList ds p := hA0
  rw [Try.params6] at hA hval
  obtain ⟨v0, vs0, d0, ds0, p0, q0, hargs, rfl, rfl, h0, r0⟩ := trodAll_cons hA
  obtain ⟨v1, vs1, d1, ds1, p1, q1, rfl, rfl, rfl, h1, r1⟩ := trodAll_cons r0
  obtain ⟨v2, vs2, d2, ds2, p2, q2, rfl, rfl, rfl, h2, r2⟩ := trodAll_cons r1
  obtain ⟨rfl, rfl, rfl⟩ := trodAll_nil r2
  obtain rfl : args = #[v0, v1, v2] := by cases args; simp_all
  obtain ⟨rfl, rfl⟩ := trodVars_none hV
  obtain ⟨a1, rfl, rfl, rfl, w1⟩ := open_string Try.underlying9 (hval 1 9 v1 rfl rfl) h1
  obtain ⟨a2, rfl, rfl, rfl, w2⟩ := open_string Try.underlying9 (hval 2 9 v2 rfl rfl) h2
  have hsm := small_of hk
  obtain ⟨z0, hI0, hz0, hlt0⟩ := open_strs_in (hval 0 22 v0 rfl rfl) h0 (by omega)
  clear hA0 hval0
  obtain ⟨m, hm⟩ := Try.laysM143.s1_3 W hsh
  refine (walk v0 z0 a1 a2 m (by omega) W hI0 hm).mono fun e W' ⟨he, hb⟩ => ?_
  subst he
  exact ⟨_, rfl, _, _, _, [], (p0 ++ []), [], hW', (trodAll_cons_mk (shut_bool Try.underlying4 _) trodAll_mk0), (trodAll_cons_mk (Below.trod laidOutAll (by kernel_rfl) (of_decide_eq_true (by kernel_rfl)) h0 hb hlt0) (trodAll_cons_mk (shut_string Try.underlying9 w1) (trodAll_cons_mk (shut_string Try.underlying9 w2) trodAll_mk0))), rfl, hb.frame _, fun h => by cases h⟩

set_option maxRecDepth 100000 in
theorem lifted (os : Os) (started : os.Started) (H : Type) (enc : TypeId × Value → H) (F : Stop.Interp) :
    ReturnsInHanded {} Try.checked os 6 .any ((Rows.OpenSpec.upto Rows.phraseSomeSpec).pre6 enc Try.prog Try.f6 Rows.phraseSomeUptoRow.domain false) (((Rows.OpenSpec.upto Rows.phraseSomeSpec).at F).post enc Try.prog Try.f6 false true false false) := by
  refine cond_shaped (C := Try.checked) (s := Rows.OpenSpec.upto Rows.phraseSomeSpec) (k := Rows.uptoSmall) rfl own started (by kernel_rfl) Try.func6
    (OpenSpec.witness (enc := enc) (C := Try.checked) (s := Rows.OpenSpec.upto Rows.phraseSomeSpec) (k := Rows.uptoSmall) rfl false ⟨#[], #[.slice none 0 0, .string ByteArray.empty, .string ByteArray.empty], []⟩ 8 (by kernel_rfl) (by kernel_rfl) (by kernel_rfl)
      (x := ([.nil, .lit (.string []), .lit (.string [])], [], [])) (by kernel_rfl) rfl (by kernel_rfl)) ?_
  intro W base args ds gs before hsh hval hW hk
  exact contract H enc W base args ds gs before hsh hval hW hk

theorem over : Rows.PhraseSomeUptoSaid :=
  OpenClaim.holds_of_cond 6 Try.f6 rfl rfl rfl rfl rfl rfl rfl ⟨rfl, rfl, rfl, rfl, rfl⟩ rfl rfl rfl rfl rfl (by kernel_rfl) Try.func6 (by kernel_rfl)
    (of_decide_eq_true (by kernel_rfl)) (by unfold Func.isWrapper; first | (rw [if_pos (by decide +kernel)]; kernel_rfl) | (rw [if_neg (by decide +kernel)]; exact ⟨rfl, rfl⟩))
    (fun os started H enc _ F => lifted os started H enc F)
end Go.Proofs.Ytmmjcbfffcnfiaa.phraseSome
namespace Go.Proofs.Ytmmjcbfffcnfiaa
theorem phraseSome_holds : Rows.PhraseSomeUptoSaid := phraseSome.over
#print axioms phraseSome_holds
end Go.Proofs.Ytmmjcbfffcnfiaa
