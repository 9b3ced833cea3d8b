/- Aho, Corasick: hits are just the places at which words stand, by where they end.
   Conditions: what is handed in is of bulk at most 1048576. -/
import Derived.Test.YtmmjcbfffcnfiaaRows
import Derived.WalkKit
import Derived.ProofKit
import Derived.OpenShut
import Derived.ShutString
import Derived.JoinedCond
import Derived.Test.YtmmjcbfffcnfiaaGb
import Derived.Test.YtmmjcbfffcnfiaaWrap
namespace Go.Proofs.Ytmmjcbfffcnfiaa.phraseStands
open Go.RowKit Kb Go.ChangeShapes Go.WideShapes Go.ChangeAt Ph
open Go.ChangeMaps (open_string shut_string)
set_option linter.unusedVariables false
set_option maxRecDepth 20000

def he : List ByteArray := [⟨#[104, 101]⟩, ⟨#[115, 104, 101]⟩]
theorem he_cw : cw he = 0 := by decide
theorem he_begs : (begs he).length ≤ 400 := by decide
theorem he_stands : stands he [117, 115, 104, 101] 4 = [(0, 4), (1, 4)] := by decide
theorem owns_len {w : World} {B : Nat} {v : Value} {l : List Ht} (h : w.ownsRow B 38 2 v l.length (cellsH l)) : ∃ o c, v = .slice o l.length c := by
  obtain ⟨o, c, rfl, _⟩ := own_forms h
  exact ⟨o, c, rfl⟩

set_option maxHeartbeats 8000000 in
theorem walk (v0 : Value) (ws : List ByteArray) (s : ByteArray) (hb : s.size ≤ 1048576) (w : World) (hV : Strs w v0 ws) (hM : ws.length ≤ 1048576 ∧ ∀ x ∈ ws, x.size ≤ 1048576) :
    Calls Try.prog 5 #[v0, .string s] w fun e w' => e = .returned (.bool true) ∧ Below w.heap.size w w' := by
  obtain ⟨o, cp, rfl, hcp⟩ := hV.form
  have HV := hide hV
  clear hV hM
  obtain ⟨i0, hi, hz0, hz1, hz2⟩ := info_parts infoH
  have C1 := hide (tree_made _ _ _ (strs_two w ⟨#[104, 101]⟩ ⟨#[115, 104, 101]⟩) he_cw he_begs)
  have b1 : Below w.heap.size w (w.alloc (.cells #[.string ⟨#[104, 101]⟩, .string ⟨#[115, 104, 101]⟩] 9)) := (Below.refl _ _).alloc (Nat.le_refl _) _
  have B1 := hide b1
  clear b1
  go_enter Try.func5, Try.ntmps5
  go_wp2_with fail
  refine (unhide C1).mono ?_
  rintro e w1 ⟨x, T, at_, X, rfl, hwt, hT, b1, hx⟩
  have B2 := hide (bel_trans (unhide B1) b1)
  have C2 := hide (hits_made w1 x _ T at_ X hx hwt hT (by decide) ⟨#[117, 115, 104, 101]⟩ (by decide))
  obtain ⟨ox, cx, rfl, _⟩ := hx.form
  clear hx hwt hT b1 C1 B1
  go_wp2_with fail
  refine (unhide C2).mono ?_
  rintro e w2 ⟨y, rfl, b2, hy⟩
  have hy : w2.ownsRow w1.heap.size 38 2 y 2 (cellsH [(0, 4), (1, 4)]) := by
    have h := he_stands
    rw [show stands [⟨#[104, 101]⟩, ⟨#[115, 104, 101]⟩] (⟨#[117, 115, 104, 101]⟩ : ByteArray).data.toList (⟨#[117, 115, 104, 101]⟩ : ByteArray).size = [(0, 4), (1, 4)] from h] at hy
    exact hy
  have B3 := hide (bel_trans (unhide B2) b2)
  obtain ⟨oy, cy, rfl, _⟩ := own_forms hy
  have CE := hide (equal_hits _ _ _ _ _ [(0, 4), (1, 4)] (hy.alloc (.cells #[.int .i64 0, .int .i64 4, .int .i64 1, .int .i64 4] 38)) (own_lit2 w2 0 4 1 4) (by decide))
  clear hy b2 C2 B2
  go_wp2_with fail
  refine (unhide CE).mono ?_
  rintro e w3 ⟨rfl, b3⟩
  have B4 := hide (bel_trans (bel_trans (unhide B3) ((Below.refl _ _).alloc (Nat.le_refl _) _)) b3)
  clear b3 CE B3
  have C3 := hide (make_any w3 _ ws ((unhide HV).below (unhide B4)))
  go_wp2_with fail
  refine (unhide C3).mono ?_
  rintro e w4 ⟨b4, hm⟩
  have B5 := hide (bel_trans (unhide B4) b4)
  clear b4 C3 B4
  rcases hm with ⟨g, rfl⟩ | ⟨h0, T, at_, X, lev, hgi, hwt, hfew, ⟨g, rfl⟩ | ⟨g, x, rfl, hx⟩⟩
  · have hbn : (cw ws != 0) = true := by simp; exact g
    go_wp2_with fail
    go_ret
    exact ⟨rfl, unhide B5⟩
  · go_wp2_with fail
    go_ret
    exact ⟨rfl, unhide B5⟩
  have hn := (cw_right h0).1
  have hsz := (cw_right h0).2.2.1
  have HSZ := hide hsz
  have HX := hide hx
  have HWT := hide hwt
  obtain ⟨oz, cz, rfl, _⟩ := hx.form
  clear hx hwt hsz hgi h0 hfew
  rw [made_len] at HX ⊢
  have hcase : ∃ q : ByteArray, q.size ≤ 300 ∧ ((q = s ∧ ¬ ((s.size : Int) > 300)) ∨ (q = s.extract 0 300 ∧ (s.size : Int) > 300)) := by
    by_cases h : 300 < s.size
    · exact ⟨s.extract 0 300, by simp [ByteArray.size_extract]; omega, .inr ⟨rfl, by omega⟩⟩
    · exact ⟨s, by omega, .inl ⟨rfl, by omega⟩⟩
  obtain ⟨q, hq, hqs⟩ := hcase
  have C4 := hide (hits_made w4 _ ws T at_ X (unhide HX) (unhide HWT) g hn q (by omega))
  rcases hqs with ⟨hqe, hI⟩ | ⟨hqe, hI⟩
  all_goals (
    go_wp2_with fail
    rw [← hqe]
    refine (unhide C4).mono ?_
    rintro e w5 ⟨y, rfl, b5, hy⟩
    have B6 := hide (bel_trans (unhide B5) b5)
    have HX5 := hide ((unhide HX).below b5)
    obtain ⟨oy, cy, rfl⟩ := owns_len hy
    have OY := hide hy
    have hsl := stands_len ws q.data.toList q.size
    have hsl2 : (stands ws q.data.toList q.size).length ≤ 9000 := Nat.le_trans hsl (Nat.mul_le_mul hq hn)
    obtain ⟨L, hL⟩ : ∃ L, stands ws q.data.toList q.size = L := ⟨_, rfl⟩
    rw [hL] at OY hsl2 ⊢
    have HL := hide hL
    clear b5 hy C4 hqe hsl hL hI
    go_wp2_with fail
    go_loopw [11, 10] (fun x z wr => ∃ to : Nat, x = .int .i64 to ∧ 1 ≤ to ∧ to ≤ q.size + 1 ∧ Below w5.heap.size w5 wr ∧ wr.ownsRow w5.heap.size 38 2 z (stands ws q.data.toList (to - 1)).length (cellsH (stands ws q.data.toList (to - 1)))) (fun x _ _ => q.size + 1 - (intOf x).toNat)
    case atStart => exact ⟨1, rfl, Nat.le_refl _, by omega, Below.refl _ _, World.ownsRow_nil _ _ _ _⟩
    case round =>
      obtain ⟨to, rfl, h1, h2, hbel, hown⟩ := hrel
      have BEL := hide hbel
      have OWN := hide hown
      clear hbel hown
      by_cases hlt : to ≤ q.size
      · have hltI : (to : Int) ≤ q.size := by omega
        have OWN0 : Hid (wr.ownsRow w5.heap.size 38 2 _ (stP ws q.data.toList to 0).length (cellsH (stP ws q.data.toList to 0))) := hide (by rw [stP_zero]; exact unhide OWN)
        clear OWN
        go_wp2_with fail
        go_loopw [61, 10] (fun x z wr => ∃ k : Nat, x = .int .i64 k ∧ k ≤ ws.length ∧ Below w5.heap.size w5 wr ∧ wr.ownsRow w5.heap.size 38 2 z (stP ws q.data.toList to k).length (cellsH (stP ws q.data.toList to k))) (fun x _ _ => ws.length - (intOf x).toNat)
        case atStart => exact ⟨0, rfl, Nat.zero_le _, unhide BEL, unhide OWN0⟩
        case round =>
          clear BEL OWN0
          obtain ⟨k, rfl, hk, hbel, hown⟩ := hrel
          have BEL := hide hbel
          have OWN := hide hown
          have hB : w5.heap.size ≤ wr.heap.size := hbel.size
          clear hbel hown
          by_cases hkl : k < ws.length
          · obtain ⟨x, hx⟩ : ∃ x, ws[k]? = some x := ⟨ws[k], List.getElem?_eq_getElem hkl⟩
            obtain ⟨gv, off, c', he, hgv, hcell⟩ := ((unhide HV).below (bel_trans (unhide B6) (unhide BEL))).at_ (by intro e; rw [e] at hkl; cases hkl)
            have hload := hcell k x hx
            have hxs : x.size ≤ 40 := (unhide HSZ) x (List.mem_of_getElem? hx)
            have HXD : Hid (wd ws k = x.data.toList) := hide (by rw [wd, List.getD, hx]; rfl)
            have hkI : (k : Int) < ws.length := by omega
            cases he
            clear hcell hx
            by_cases hxt : x.size ≤ to
            · obtain ⟨a, ha⟩ : ∃ a, a + x.size = to := ⟨to - x.size, by omega⟩
              have hiff := suf_take (s := q) (x := x) (a := a) (by rw [ha]; exact hlt)
              rw [ha] at hiff
              have hsub : (to : Int) - x.size = a := by omega
              have haI : (a : Int) ≤ to := by omega
              have hxI : (x.size : Int) ≤ to := by omega
              clear ha
              by_cases hm : ((q.extract a to).toList == x.toList) = true
              · have HS := hide (stP_yes (ws := ws) (s := q.data.toList) (to := to) (k := k) (by rw [unhide HXD]; exact hiff.2 hm))
                have hpl := stP_len (ws := ws) (s := q.data.toList) (to := to) (k := k)
                have hpl2 : (to - 1) * ws.length ≤ 300 * 30 := Nat.mul_le_mul (by omega) hn
                obtain ⟨pl, hpl0⟩ : ∃ pl, (stP ws q.data.toList to k).length = pl := ⟨_, rfl⟩
                rw [hpl0] at hpl OWN
                have HPL := hide hpl0
                have b3 : pl + 1 ≤ maxLen := by unfold maxLen; omega
                have b4 : (pl + 1) * 16 ≤ 140737488355328 := by omega
                clear hpl0 hpl hpl2 hiff
                go_wp2_with (at_builtin; refine wpList_append_own _ rfl _ _ 31 rfl w5.heap.size 38 i0 (.agg #[.int .i64 0, .int .i64 0]) 2 16 Try.underlying31 hi hz0 hz1 hz2 rfl (by decide) _ pl (cellsH (stP ws q.data.toList to k)) rfl ((unhide OWN).alloc _) _ 1 1 _ rfl rfl (cell_two_new _ _ _ _) (by simp [Value.oneCell']) b3 b4 (by simp; omega) ?_; intro v1 w6 own1 grow1 _)
                refine ⟨⟨k + 1, by go_num, by omega, ((unhide BEL).alloc hB _).grown grow1 (by simp; omega) (own_lt (unhide OWN)), ?_⟩, by simp [intOf]; omega⟩
                rw [unhide HS, List.length_append, unhide HPL, cellsH_append]; exact own1
              · have HS := hide (stP_no (ws := ws) (s := q.data.toList) (to := to) (k := k) (by rw [unhide HXD]; exact fun h => hm (hiff.1 h)))
                have hm := Bool.eq_false_iff.2 hm
                clear hiff
                go_wp2_with fail
                exact ⟨⟨k + 1, by go_num, by omega, unhide BEL, by rw [unhide HS]; exact unhide OWN⟩, by simp [intOf]; omega⟩
            · have hxI : ¬ ((x.size : Int) ≤ to) := by omega
              have HS := hide (stP_no (ws := ws) (s := q.data.toList) (to := to) (k := k) (by rw [unhide HXD]; exact suf_short (by simp; omega)))
              go_wp2_with fail
              exact ⟨⟨k + 1, by go_num, by omega, unhide BEL, by rw [unhide HS]; exact unhide OWN⟩, by simp [intOf]; omega⟩
          · obtain rfl : k = ws.length := by omega
            go_wp2_with fail
            exact ⟨⟨to + 1, by go_num, by omega, by omega, unhide BEL, by rw [← stP_all ws q.data.toList to h1]; exact unhide OWN⟩, by simp [intOf]; omega⟩
      · have hltI : ¬ ((to : Int) ≤ q.size) := by omega
        have OWL : Hid (wr.ownsRow w5.heap.size 38 2 _ L.length (cellsH L)) := hide (by have := unhide OWN; rw [show to - 1 = q.size by omega, unhide HL] at this; exact this)
        clear OWN
        obtain ⟨ow, cw_, rfl⟩ := owns_len (unhide OWL)
        have CE := hide (equal_hits wr _ _ _ _ L (own_below (unhide OY) (unhide BEL)) (unhide OWL) (by omega))
        go_wp2_with fail
        refine (unhide CE).mono ?_
        rintro e w6 ⟨rfl, b6⟩
        have CC := hide (check_made w6 _ ws T at_ X ((unhide HX5).below (bel_trans (unhide BEL) b6)) (unhide HWT) g hn)
        have B7 := hide (bel_trans (bel_trans (unhide B6) (unhide BEL)) b6)
        clear b6 CE
        go_wp2_with fail
        refine (unhide CC).mono ?_
        rintro e w7 ⟨rfl, b7⟩
        have B8 := hide (bel_trans (unhide B7) b7)
        clear b7 CC
        go_wp2_with fail
        go_ret
        exact ⟨rfl, unhide B8⟩)
theorem own : ownKnob Try.prog.godebug = none := by kernel_rfl

theorem small_of {H : Type} {a0 : DataW H} {a1 : ByteArray} (hk : Rows.uptoSmall H ([a0, .lit (.string a1.data.toList)] ++ []) = true) : Rows.uptoBulk a0 + a1.size ≤ 1048576 := by
  have h := of_decide_eq_true hk
  simp only [Rows.uptoBulkAll, Rows.uptoBulk, List.append_nil, Array.length_toList, ByteArray.size_data] at h
  omega

set_option maxRecDepth 100000 in
theorem contract (H : Type) (enc : TypeId × Value → H) (W : World) (base : Nat) (args : Array Value) (ds gs : List (DataW H)) (before : List MemPlace) (hsh : W.ShapedOpen Try.prog)
    (hval0 : ∀ (j : Nat) t v, Try.f5.params[j]? = some t → args[j]? = some v → Value.okWide Try.prog W .any base t v)
    (hW : DataW.Whole enc Try.prog Try.f5.params.toList Rows.phraseStandsSpec.vars false W args.toList ds gs before) (hk : Rows.uptoSmall H (ds ++ gs) = true) :
    Calls Try.prog 5 args W fun e W' => ∃ v, e = .returned v ∧ Rows.phraseStandsSpec.post enc Try.prog Try.f5 false true false false W args v W' := by
  have hval : ∀ (j : Nat) t v, Try.f5.params[j]? = some t → args[j]? = some v → Value.okWide Try.prog W .any base t v := hval0
  have hW' := hW
  obtain ⟨p, q, hA0, hV, rfl, hfz, hnd⟩ := hW
  have hA : DataW.TrodAll enc Try.prog W 0 (fun _ => true) true Try.f5.params.toList args.toList ds p := hA0
  rw [Try.params5] at hA hval
  obtain ⟨v0, vs0, d0, ds0, p0, q0, hargs, rfl, rfl, h0, r0⟩ := trodAll_cons hA
  obtain ⟨v1, vs1, d1, ds1, p1, q1, rfl, rfl, rfl, h1, r1⟩ := trodAll_cons r0
  obtain ⟨rfl, rfl, rfl⟩ := trodAll_nil r1
  obtain rfl : args = #[v0, v1] := by cases args; simp_all
  obtain ⟨rfl, rfl⟩ := trodVars_none hV
  obtain ⟨a1, rfl, rfl, rfl, w1⟩ := open_string Try.underlying9 (hval 1 9 v1 rfl rfl) h1
  have hsm := small_of hk
  obtain ⟨z0, hI0, hz0, hlt0⟩ := open_strs_in (hval 0 22 v0 rfl rfl) h0 (by omega)
  clear hA0 hval0
  refine (walk v0 z0 a1 (by omega) W hI0 hz0).mono fun e W' ⟨he, hb⟩ => ?_
  subst he
  exact ⟨_, rfl, _, _, _, [], (p0 ++ []), [], hW', (trodAll_cons_mk (shut_bool Try.underlying4 _) trodAll_mk0), (trodAll_cons_mk (Below.trod laidOutAll (by kernel_rfl) (of_decide_eq_true (by kernel_rfl)) h0 hb hlt0) (trodAll_cons_mk (shut_string Try.underlying9 w1) trodAll_mk0)), rfl, hb.frame _, fun h => by cases h⟩

set_option maxRecDepth 100000 in
theorem lifted (os : Os) (started : os.Started) (H : Type) (enc : TypeId × Value → H) (F : Stop.Interp) :
    ReturnsInHanded {} Try.checked os 5 .any ((Rows.OpenSpec.upto Rows.phraseStandsSpec).pre6 enc Try.prog Try.f5 Rows.phraseStandsUptoRow.domain false) (((Rows.OpenSpec.upto Rows.phraseStandsSpec).at F).post enc Try.prog Try.f5 false true false false) := by
  refine cond_shaped (C := Try.checked) (s := Rows.OpenSpec.upto Rows.phraseStandsSpec) (k := Rows.uptoSmall) rfl own started (by kernel_rfl) Try.func5
    (OpenSpec.witness (enc := enc) (C := Try.checked) (s := Rows.OpenSpec.upto Rows.phraseStandsSpec) (k := Rows.uptoSmall) rfl false ⟨#[], #[.slice none 0 0, .string ByteArray.empty], []⟩ 8 (by kernel_rfl) (by kernel_rfl) (by kernel_rfl)
      (x := ([.nil, .lit (.string [])], [], [])) (by kernel_rfl) rfl (by kernel_rfl)) ?_
  intro W base args ds gs before hsh hval hW hk
  exact contract H enc W base args ds gs before hsh hval hW hk

theorem over : Rows.PhraseStandsUptoSaid :=
  OpenClaim.holds_of_cond 5 Try.f5 rfl rfl rfl rfl rfl rfl rfl ⟨rfl, rfl, rfl, rfl, rfl⟩ rfl rfl rfl rfl rfl (by kernel_rfl) Try.func5 (by kernel_rfl)
    (of_decide_eq_true (by kernel_rfl)) (by unfold Func.isWrapper; first | (rw [if_pos (by decide +kernel)]; kernel_rfl) | (rw [if_neg (by decide +kernel)]; exact ⟨rfl, rfl⟩))
    (fun os started H enc _ F => lifted os started H enc F)
end Go.Proofs.Ytmmjcbfffcnfiaa.phraseStands
namespace Go.Proofs.Ytmmjcbfffcnfiaa
theorem phraseStands_holds : Rows.PhraseStandsUptoSaid := phraseStands.over
#print axioms phraseStands_holds
end Go.Proofs.Ytmmjcbfffcnfiaa
