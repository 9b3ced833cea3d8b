/- What is read is printed as it stood; a list is its nets one by one: whatever is handed in.
   Conditions: what is handed in is of bulk at most 1048576; the library's tables are as the program's text lays them, and its own variable MaxLen holds whatever number. -/
import Derived.Test.YtmhjfiaohbioeaaDoorRows
import Derived.Test.YtmhjfiaohbioeaaDoorTie
import Derived.Test.YtmhjfiaohbioeaaDoorCards
import Derived.WalkKit
import Derived.ProofKit
import Derived.OpenShut
import Derived.ShutString
import Derived.JoinedCond
import Derived.Test.YtmhjfiaohbioeaaDoorNd
import Derived.Test.YtmhjfiaohbioeaaDoorNf
import Derived.Test.YtmhjfiaohbioeaaDoorLq
import Derived.Stop.LaidErr
namespace Go.Proofs.YtmhjfiaohbioeaaDoor.netsOne
open Go.ChangeShapes Go.WideShapes Go.ChangeAt Go.RowKit
open Go.ChangeMaps (open_string shut_string)
open Kb
set_option linter.unusedVariables false
set_option maxRecDepth 20000

theorem tx1 : Nt.tx 1 32 = [48, 46, 48, 46, 48, 46, 49] := by
  unfold Nt.tx Nt.txA
  rw [if_neg (by decide), Lib.decDigits_one (i := 1 / 16777216) (by decide), Lib.decDigits_one (i := 1 % 256) (by decide)]
  rfl
theorem no_comma {l : List UInt8} {a b : Nat} (h : Nt.parse l = (a, b, 0)) : (44 : UInt8) ∉ l := by
  have hd : ∀ n, (44 : UInt8) ∉ Lib.decDigits n := Nt.dec_not (by decide)
  have ht : (44 : UInt8) ∉ Nt.tx a b := by
    unfold Nt.tx Nt.txA
    split <;> simp [hd]
  rcases Nt.tx_parse h with e | e
  · rw [← e]; exact ht
  · rw [← e]; simp [ht]
theorem twice {l : List UInt8} {a b : Nat} (h : Nt.parse l = (a, b, 0)) : Nt.list (l ++ 44 :: l) = ([(a, b), (a, b)], 0) := by
  have hc := no_comma h
  unfold Nt.list
  rw [Cs.cut_hit l hc, Cs.cut_no hc, if_neg (show ¬ 30 < [l, l].length by simp)]
  unfold Nt.listR Nt.listR Nt.listR
  rw [h]
  rfl
set_option maxHeartbeats 4000000 in
theorem walk_m (s : ByteArray) (m : Int) (hb : s.size ≤ 1048576) (w : World) (hm : MX m w) (ht : Lib.TabIs Tryd.prog w "internal/strconv.uint64pow10" .u64 Lib.pow10Tab) :
    Calls Tryd.prog 6 #[.string s] w fun e w' => e = .returned (.bool true) ∧ Below w.heap.size w w' := by
  have P0 := hide (fun (W : World) (hT : Lib.TabIs Tryd.prog W "internal/strconv.uint64pow10" .u64 Lib.pow10Tab) => print_yes 1 32 (by decide) ⟨by decide, by decide, by decide⟩ W hT _ tx1.symm)
  have hq0 : ((mk [48, 46, 48, 46, 48, 46, 49]).toList == [48, 46, 48, 46, 48, 46, 49]) = true := by rw [Lib.toList_data]; rfl
  obtain ⟨q0, hq0e⟩ : ∃ q, mk [48, 46, 48, 46, 48, 46, 49] = q := ⟨_, rfl⟩
  rw [hq0e] at P0 hq0
  clear hq0e
  have T := hide (Lib.tabBelow_of_tabIs ht)
  have M := hide hm
  clear hm ht
  obtain ⟨⟨a, b, z⟩, hp⟩ : ∃ q, Nt.parse s.data.toList = q := ⟨_, rfl⟩
  have P1 := hide (fun (W : World) (hW : MX m W) => nparse_any s m W (by omega) hW a b z hp)
  have HC : Hid (z ≠ 0 ∧ a = 0 ∧ b = 0 ∨ z = 0) := hide (by
    rcases Nt.parse_cases s.data.toList with e | e | ⟨a', b', e⟩
    · rw [hp] at e; cases e; exact .inl ⟨by decide, rfl, rfl⟩
    · rw [hp] at e; cases e; exact .inl ⟨by decide, rfl, rfl⟩
    · rw [hp] at e; cases e; exact .inr rfl)
  have HP := hide hp
  clear hp
  go_enter Tryd.func6, Tryd.ntmps6
  go_wp2_with fail
  refine ((unhide P0) w (unhide T).here).mono ?_
  rintro e w1 ⟨rfl, b1⟩
  have B1 := hide b1
  have T1 := hide ((unhide T).on b1)
  have M1 := hide ((unhide M).below b1)
  clear b1 P0 T M
  go_wp2_with fail
  refine ((unhide P1) w1 (unhide M1)).mono ?_
  rintro e w2 ⟨rfl, b2⟩
  have bb := (Below.refl w2.heap.size w2).alloc (Nat.le_refl _) (.cells #[.int .u32 a, .int .i64 b] 24)
  have B2 := hide (bel_trans (bel_trans (unhide B1) b2) bb)
  have T2 := hide ((unhide T1).on ((b2.mono (unhide B1).size).trans (bb.mono (bel_trans (unhide B1) b2).size)))
  have M2 := hide (((unhide M1).below b2).below bb)
  have X2 := NX.new (base := w.heap.size) w2 (bel_trans (unhide B1) b2).size a b
  obtain ⟨g2, hg2⟩ : ∃ g2, w2.heap.size = g2 := ⟨_, rfl⟩
  obtain ⟨W2, hW2⟩ : ∃ W2, w2.alloc (.cells #[.int .u32 a, .int .i64 b] 24) = W2 := ⟨_, rfl⟩
  rw [hW2] at X2 B2 T2 M2
  rw [hg2] at X2
  obtain ⟨x0, x1⟩ := X2.cells
  have XH := hide X2
  have hlx := X2.lt
  clear bb b2 X2 B1 T1 M1 P1
  rcases unhide HC with ⟨hz, rfl, rfl⟩ | rfl
  · have hzn : (z != 0) = true := by simpa using hz
    clear HC HP
    go_wp2_with fail
    go_ret
    refine ⟨rfl, ?_⟩
    have h := unhide B2
    rw [← hW2] at h
    exact h
  · obtain ⟨ha, hr⟩ := Nt.parse_right (unhide HP)
    obtain ⟨q, hq⟩ : ∃ q, mk (Nt.tx a b) = q := ⟨_, rfl⟩
    have PR := hide (fun (W : World) (hT : Lib.TabIs Tryd.prog W "internal/strconv.uint64pow10" .u64 Lib.pow10Tab) => print_yes a b ha hr W hT (Nt.tx a b) rfl)
    rw [hq] at PR
    have hql : q.size ≤ 18 := by rw [← hq, szM]; exact Nt.tx_len ha
    have HL := hide (fun (W : World) (hW : MX m W) => List_any (s ++ ⟨#[44]⟩ ++ s) m W (by rw [ByteArray.size_append, ByteArray.size_append]; show s.size + 1 + s.size ≤ _; omega) hW ([(a, b), (a, b)], 0) (by rw [cat_data, cat_data]; simpa using twice (unhide HP)))
    have HQ : Hid (q = s ∨ q ++ ⟨#[47, 51, 50]⟩ = s) := hide (by
      rcases Nt.tx_parse (unhide HP) with e | e
      · left; rw [← hq]; apply eq_of_lists; simpa [mk] using e
      · right; rw [← hq]; apply eq_of_lists; rw [cat_data]; simpa [mk] using e)
    clear HC HP hr hq
    go_wp2_with fail
    refine ((unhide PR) W2 (unhide T2).here).mono ?_
    rintro e w3 ⟨rfl, b3⟩
    have B3 := hide (bel_trans (unhide B2) b3)
    have M3 := hide ((unhide M2).below b3)
    have X3 := hide ((unhide XH).below b3)
    clear b3 B2 M2 T2 XH PR hW2 x0 x1 hg2
    go_wp2_with fail
    refine ((unhide HL) w3 (unhide M3)).mono ?_
    rintro e w4 ⟨v, rfl, own4, b4⟩
    have B4 := hide (bel_trans (unhide B3) b4)
    have X4 := hide ((unhide X3).below b4)
    have O4 := hide own4
    clear b4 own4 B3 M3 X3 HL
    obtain ⟨x0, x1⟩ := (unhide X4).cells
    have hl4 := (unhide X4).lt
    obtain ⟨W5, hW5⟩ : ∃ W5, w4.alloc (.cells #[.int .u32 a, .int .i64 b, .int .u32 a, .int .i64 b] 24) = W5 := ⟨_, rfl⟩
    have bb := (Below.refl w4.heap.size w4).alloc (Nat.le_refl _) (.cells #[.int .u32 a, .int .i64 b, .int .u32 a, .int .i64 b] 24)
    have B5 := hide (bel_trans (unhide B4) bb)
    have O5 := own_below (unhide O4) bb
    have L5 : (w4.alloc (.cells #[.int .u32 a, .int .i64 b, .int .u32 a, .int .i64 b] 24)).ownsRow w4.heap.size 24 2 (.slice (some ⟨w4.heap.size, 0, none⟩) 2 2) 2 (cellsNs [(a, b), (a, b)]) :=
      World.ownsRow_lit (e := 24) (size := 2) (base := w4.heap.size) w4 #[.int .u32 a, .int .i64 b, .int .u32 a, .int .i64 b] 2 (Nat.le_refl _) (by unfold maxLen; omega) rfl
    have CE := hide (equal_nets _ _ _ _ _ [(a, b), (a, b)] O5 L5 (by simp))
    rw [hW5] at B5 CE
    clear bb O5 L5
    rcases unhide HQ with rfl | he
    · clear HQ
      go_wp2_with fail
      refine (unhide CE).mono ?_
      rintro e w6 ⟨rfl, b6⟩
      have B6 := hide (bel_trans (unhide B5) b6)
      clear b6
      go_wp2_with fail
      go_ret
      exact ⟨rfl, unhide B6⟩
    · have hne : ¬ q = s := fun e => by have := congrArg ByteArray.size he; rw [e, ByteArray.size_append] at this; have h3 : (⟨#[47, 51, 50]⟩ : ByteArray).size = 3 := rfl; omega
      have hneL : ¬ q.toList = s.toList := fun e => hne (eq_of_lists (by rw [← Lib.toList_data, ← Lib.toList_data]; exact e))
      clear HQ
      go_wp2_with fail
      refine (unhide CE).mono ?_
      rintro e w6 ⟨rfl, b6⟩
      have B6 := hide (bel_trans (unhide B5) b6)
      clear b6
      go_wp2_with fail
      go_ret
      exact ⟨rfl, unhide B6⟩

theorem walk (s : ByteArray) (hb : s.size ≤ 1048576) (w : World) (hsh : w.ShapedOpen Tryd.prog) (hL : laidMetH Tryd.prog Rows.netsOneUptoRow.laid w) :
    Calls Tryd.prog 6 #[.string s] w fun e w' => e = .returned (.bool true) ∧ Below w.heap.size w w' := by
  obtain ⟨m, hm⟩ := Tryd.laysM145.s1_3 w hsh
  have h1 : laidMet Tryd.prog [("math/bits.deBruijn32tab", Rows.laid_math_bits_deBruijn32tab), ("math/bits.deBruijn64tab", Rows.laid_math_bits_deBruijn64tab), ("internal/strconv.uint64pow10", Rows.laid_internal_strconv_uint64pow10), ("unicode/utf8.acceptRanges", Rows.laid_unicode_utf8_acceptRanges), ("unicode/utf8.first", Rows.laid_unicode_utf8_first)] w := hL
  exact walk_m s m hb w hm (pow_tab h1.tail.tail)

theorem own : ownKnob Tryd.prog.godebug = none := by kernel_rfl

theorem small_of {H : Type} {a0 : ByteArray} (hk : Rows.uptoSmall H ([.lit (.string a0.data.toList)] ++ []) = true) : a0.size ≤ 1048576 := by
  have h := of_decide_eq_true hk
  simp only [Rows.uptoBulkAll, Rows.uptoBulk, List.append_nil, Array.length_toList, ByteArray.size_data] at h
  omega

theorem contract (H : Type) (enc : TypeId × Value → H) (W : World) (base : Nat) (args : Array Value) (ds gs : List (DataW H)) (before : List MemPlace) (hsh : W.ShapedOpen Tryd.prog)
    (hval0 : ∀ (j : Nat) t v, Tryd.f6.params[j]? = some t → args[j]? = some v → Value.okWide Tryd.prog W .any base t v)
    (hW : DataW.Whole enc Tryd.prog Tryd.f6.params.toList Rows.netsOneSpec.vars false W args.toList ds gs before) (hk : Rows.uptoSmall H (ds ++ gs) = true) (hL : laidMetH Tryd.prog Rows.netsOneUptoRow.laid W) :
    Calls Tryd.prog 6 args W fun e W' => ∃ v, e = .returned v ∧ Rows.netsOneSpec.post enc Tryd.prog Tryd.f6 false true false false W args v W' := by
  have hval : ∀ (j : Nat) t v, Tryd.f6.params[j]? = some t → args[j]? = some v → Value.okWide Tryd.prog W .any base t v := hval0
  have hW' := hW
  obtain ⟨p, q, hA0, hV, rfl, hfz, hnd⟩ := hW
  have hA : DataW.TrodAll enc Tryd.prog W 0 (fun _ => true) true Tryd.f6.params.toList args.toList ds p := hA0
  rw [Tryd.params6] at hA hval
  obtain ⟨v0, vs0, d0, ds0, p0, q0, hargs, rfl, rfl, h0, r0⟩ := trodAll_cons hA
  obtain ⟨rfl, rfl, rfl⟩ := trodAll_nil r0
  obtain rfl : args = #[v0] := by cases args; simp_all
  obtain ⟨rfl, rfl⟩ := trodVars_none hV
  obtain ⟨a0, rfl, rfl, rfl, w0⟩ := open_string Tryd.underlying9 (hval 0 9 v0 rfl rfl) h0
  clear hA0 hval0
  simp only [List.append_nil] at hW'
  refine (walk a0 (small_of hk) W hsh hL).mono fun e W' ⟨he, hb⟩ => ?_
  subst he
  exact ⟨_, rfl, _, _, _, [], [], [], hW', (trodAll_cons_mk (shut_bool Tryd.underlying4 _) trodAll_mk0), (trodAll_cons_mk (shut_string Tryd.underlying9 w0) trodAll_mk0), rfl, hb.frame _, fun h => by cases h⟩

theorem reads (os : Os) {H : Type} (enc : TypeId × Value → H) : ∃ places, DataW.whole enc Tryd.prog ((laidIn (World.holding Tryd.prog os ⟨#[], #[], []⟩)).forCall (fun _ _ => 0) ⟨#[], #[.string ByteArray.empty], []⟩).memory Tryd.f6.params.toList Rows.netsOneSpec.vars false (#[.string ByteArray.empty] : Array Value).toList 8 = some ([.lit (.string [])], [], places) :=
  ⟨[], by kernel_rfl⟩
theorem laid_met (os : Os) : laidMet Tryd.prog Rows.netsOneUptoRow.laid ((laidIn (World.holding Tryd.prog os ⟨#[], #[], []⟩)).forCall (fun _ _ => 0) ⟨#[], #[.string ByteArray.empty], []⟩).memory :=
  laidMet_of_run' 8 (by kernel_rfl) (by kernel_rfl)

set_option maxRecDepth 100000 in
theorem lifted (os : Os) (started : os.Started) (H : Type) (enc : TypeId × Value → H) (F : Stop.Interp) :
    ReturnsInHanded {} Tryd.checked os 6 .any ((Rows.OpenSpec.upto Rows.netsOneSpec).preRow enc Tryd.prog Tryd.f6 Rows.netsOneUptoRow.domain false Rows.netsOneUptoRow.laid) (((Rows.OpenSpec.upto Rows.netsOneSpec).at F).post enc Tryd.prog Tryd.f6 false true false false) := by
  obtain ⟨places, hx⟩ := reads os enc
  refine returnsInHanded_of_row (C := Tryd.checked) (s := Rows.OpenSpec.upto Rows.netsOneSpec) own started (by kernel_rfl) Tryd.func6
    (witness_row_at (enc := enc) (C := Tryd.checked) false (laidIn (World.holding Tryd.prog os ⟨#[], #[], []⟩)) #[.string ByteArray.empty] rfl (by kernel_rfl) (by kernel_rfl) (by kernel_rfl)
      (OpenSpec.preRow_of_cond 8 hx (by kernel_rfl) (fun k hk => by cases hk; kernel_rfl) (by kernel_rfl) (laid_met os))) ?_
  intro W base args ds gs before hval hW _ hcond _ hL hsh _
  exact contract H enc W base args ds gs before hsh hval hW (hcond _ rfl) hL

theorem row : Rows.NetsOneUptoSaid :=
  OpenClaim.holds_of_cond 6 Tryd.f6 rfl rfl rfl rfl rfl rfl rfl ⟨rfl, rfl, rfl, rfl, rfl⟩ rfl rfl rfl rfl rfl (by kernel_rfl) Tryd.func6 (by kernel_rfl)
    (of_decide_eq_true (by kernel_rfl)) (by unfold Func.isWrapper; first | (rw [if_pos (by decide +kernel)]; kernel_rfl) | (rw [if_neg (by decide +kernel)]; exact ⟨rfl, rfl⟩))
    (fun os started H enc _ F => by rw [OpenClaim.pre_eq_preRow]; exact lifted os started H enc F)

theorem plain (f : FuncId) (fn : Func) (hf : Tryd.pinned.checked.prog.funcNamed "gatewicket/wickkeep.NetsOne" = some f) (hfn : Tryd.pinned.checked.prog.funcs[f]? = some fn) :
    false = Tryd.pinned.checked.prog.looks [] ∧ ∀ (j : Nat) t, fn.params[j]? = some t → Tryd.pinned.checked.prog.wantsStandIn t = false := by
  obtain rfl : f = 6 := Option.some.inj ((show Tryd.prog.funcNamed "gatewicket/wickkeep.NetsOne" = some 6 by kernel_rfl).symm.trans hf) |>.symm
  obtain rfl : fn = Tryd.f6 := (Option.some.inj (Tryd.func6.symm.trans hfn)).symm
  refine ⟨by kernel_rfl, fun j t ht => ?_⟩
  rw [Tryd.params6] at ht
  have hm : t = 9 := by simpa using Array.mem_of_getElem? ht
  subst hm
  exact (show Tryd.prog.wantsStandIn 9 = false by kernel_rfl)

theorem over : Rows.NetsOneUptoCardSaid :=
  Claim7.holds_tied_plain_at .later [] _ _ _ _ row (fun _ h => by cases h) (by kernel_rfl) (fun _ h => by cases h) netsOneUpto_row_tie rfl ⟨rfl, rfl⟩ (by kernel_rfl) rfl plain (by kernel_rfl)
end Go.Proofs.YtmhjfiaohbioeaaDoor.netsOne
namespace Go.Proofs.YtmhjfiaohbioeaaDoor
theorem netsOne_holds : Rows.NetsOneUptoCardSaid := netsOne.over
#print axioms netsOne_holds
end Go.Proofs.YtmhjfiaohbioeaaDoor
