/- Bytes answers what the document says: whatever is handed in.
   Conditions: what is handed in is of bulk at most 1048576; the library's tables are as the program's text lays them, and its own variable MaxLen holds whatever number. -/
import Derived.Test.YtloidooaebhliaaDoorRows
import Derived.Test.YtloidooaebhliaaDoorTie
import Derived.Test.YtloidooaebhliaaDoorCards
import Derived.WalkKit
import Derived.ProofKit
import Derived.OpenShut
import Derived.ShutString
import Derived.JoinedCond
import Derived.Test.YtloidooaebhliaaDoorSv
import Derived.Test.YtloidooaebhliaaDoorLaid
import Derived.Stop.LaidErr
namespace Go.Proofs.YtloidooaebhliaaDoor.netsBytes
open Go.ChangeShapes Go.WideShapes Go.ChangeAt Go.RowKit
open Go.ChangeMaps (open_string shut_string)
open Kb
set_option linter.unusedVariables false
set_option maxRecDepth 20000

theorem bit_word2 (s : Se) (i : Nat) (hi : i < 4) (j : Nat) (hj : j < 64) : bit s (64 * i + j) = (wordS s i).toNat.testBit j := by
  unfold bit
  rw [show (64 * i + j) / 64 = i by omega, show (64 * i + j) % 64 = j by omega]
theorem bits_ext2 {s t : Se} (hs : FitS s) (ht : FitS t) (h : ∀ j, j < 256 → bit s j = bit t j) : s = t := by
  have hw : ∀ i, i < 4 → wordS s i = wordS t i := by
    intro i hi
    have h1 := wordS_fit hs i hi
    have h2 := wordS_fit ht i hi
    have : (wordS s i).toNat = (wordS t i).toNat := by
      apply Nat.eq_of_testBit_eq
      intro j
      by_cases hj : j < 64
      · have := h (64 * i + j) (by omega)
        rw [bit_word2 s i hi j hj, bit_word2 t i hi j hj] at this
        exact this
      · have e : ∀ n : Nat, n < 18446744073709551616 → n.testBit j = false := fun n hn => Nat.testBit_lt_two_pow (Nat.lt_of_lt_of_le (by omega : n < 2 ^ 64) (Nat.pow_le_pow_right (by omega) (by omega)))
        rw [e _ (by omega), e _ (by omega)]
    omega
  have h0 := hw 0 (by omega)
  have h1 := hw 1 (by omega)
  have h2 := hw 2 (by omega)
  have h3 := hw 3 (by omega)
  obtain ⟨a, b, c, d⟩ := s
  obtain ⟨a', b', c', d'⟩ := t
  simp only [wordS] at h0 h1 h2 h3
  rw [h0, h1, h2, h3]
def Ans (cs : List (List UInt8)) (q : Se) (z : Int) : Prop := (z = 0 ∧ FitS q ∧ (∀ x ∈ cs, (Nt.rng x).isSome = true) ∧ ∀ j, j < 256 → bit q j = cs.any (Nt.hits · j)) ∨ (z = 3 ∧ q = ⟨0, 0, 0, 0⟩ ∧ ∃ x ∈ cs, Nt.rng x = none)
theorem ans_one {cs : List (List UInt8)} {q q' : Se} {z z' : Int} (h : Ans cs q z) (h' : Ans cs q' z') : q = q' ∧ z = z' := by
  rcases h with ⟨h1, h2, h3, h4⟩ | ⟨h1, h2, x, hx, hn⟩
  · rcases h' with ⟨g1, g2, g3, g4⟩ | ⟨g1, g2, x, hx, hn⟩
    · exact ⟨bits_ext2 h2 g2 (fun j hj => by rw [h4 j hj, g4 j hj]), by rw [h1, g1]⟩
    · have := h3 x hx; rw [hn] at this; cases this
  · rcases h' with ⟨g1, g2, g3, g4⟩ | ⟨g1, g2, y, hy, hm⟩
    · have := g3 x hx; rw [hn] at this; cases this
    · exact ⟨by rw [h2, g2], by rw [h1, g1]⟩
theorem four_new (w : World) (a b c d : Value) (t : TypeId) : (w.alloc (.cells #[a, b, c, d] t)).cell? ⟨w.heap.size, 0, none⟩ = some a ∧ (w.alloc (.cells #[a, b, c, d] t)).cell? ⟨w.heap.size, 1, none⟩ = some b ∧ (w.alloc (.cells #[a, b, c, d] t)).cell? ⟨w.heap.size, 2, none⟩ = some c ∧ (w.alloc (.cells #[a, b, c, d] t)).cell? ⟨w.heap.size, 3, none⟩ = some d :=
  ⟨by rw [World.cell?_alloc_new]; rfl, by rw [World.cell?_alloc_new]; rfl, by rw [World.cell?_alloc_new]; rfl, by rw [World.cell?_alloc_new]; rfl⟩
set_option maxHeartbeats 4000000 in
theorem walk_m (s : ByteArray) (m : Int) (hb : s.size ≤ 1048576) (w : World) (hm : MX m w) :
    Calls Tryd.prog 3 #[.string s] w fun e w' => e = .returned (.bool true) ∧ Below w.heap.size w w' := by
  have H1 : Hid (Calls Tryd.prog 8 #[.string s] w fun e w' => ∃ q z, e = .returned (.tuple #[setV q, .int .i64 z]) ∧ Ans (Cs.cut 44 s.data.toList) q z ∧ Below w.heap.size w w') := hide ((Bytes_any s m w (by omega) hm).mono fun e w' ⟨h, b⟩ => by
    rcases h with ⟨q, h1, h2, h3, h4⟩ | ⟨h1, h2⟩
    · exact ⟨q, 0, h1, .inl ⟨rfl, h2, h3, h4⟩, b⟩
    · exact ⟨_, 3, h1, .inr ⟨rfl, rfl, h2⟩, b⟩)
  have H2 : Hid (∀ W, Calls Tryd.prog 9 #[.string s] W fun e w' => ∃ q z, e = .returned (.tuple #[setV q, .int .i64 z]) ∧ Ans (Cs.cut 44 s.data.toList) q z ∧ Below W.heap.size W w') := hide (fun W => (rranges_any s W (by omega) _ rfl).mono fun e w' ⟨h, b⟩ => by
    rcases h with ⟨q, h1, h2, h3, h4⟩ | ⟨h1, h2⟩
    · exact ⟨q, 0, h1, .inl ⟨rfl, h2, h3, h4⟩, b⟩
    · exact ⟨_, 3, h1, .inr ⟨rfl, rfl, h2⟩, b⟩)
  obtain ⟨cs, hcs⟩ : ∃ cs, Cs.cut 44 s.data.toList = cs := ⟨_, rfl⟩
  rw [hcs] at H1 H2
  clear hcs hm
  unfold setV at H1 H2
  go_enter Tryd.func3, Tryd.ntmps3
  go_wp2_with fail
  refine (unhide H1).mono ?_; rintro e w1 ⟨⟨a, b, c, d⟩, z, rfl, ans1, b1⟩
  have A1 := hide ans1
  have bb := (Below.refl w1.heap.size w1).alloc (Nat.le_refl _) (.cells #[.int .u64 a, .int .u64 b, .int .u64 c, .int .u64 d] 24)
  obtain ⟨n0, n1, n2, n3⟩ := four_new w1 (.int .u64 a) (.int .u64 b) (.int .u64 c) (.int .u64 d) 24
  have B1 := hide (bel_trans b1 bb)
  have hl1 : w1.heap.size < (w1.alloc (.cells #[.int .u64 a, .int .u64 b, .int .u64 c, .int .u64 d] 24)).heap.size := by simp
  obtain ⟨g1, hg1⟩ : ∃ g, w1.heap.size = g := ⟨_, rfl⟩
  obtain ⟨W1, hW1⟩ : ∃ W, w1.alloc (.cells #[.int .u64 a, .int .u64 b, .int .u64 c, .int .u64 d] 24) = W := ⟨_, rfl⟩
  rw [hW1] at n0 n1 n2 n3 B1 hl1
  rw [hg1] at n0 n1 n2 n3 hl1
  clear bb ans1 b1 H1
  dsimp only
  go_wp2_with fail
  clear hW1 hg1
  refine ((unhide H2) W1).mono ?_; rintro e w2 ⟨⟨a', b', c', d'⟩, z', rfl, ans2, b2⟩
  obtain ⟨hq, rfl⟩ := ans_one (unhide A1) ans2
  injection hq with e1 e2 e3 e4
  subst e1 e2 e3 e4
  have bb := (Below.refl w2.heap.size w2).alloc (Nat.le_refl _) (.cells #[.int .u64 a, .int .u64 b, .int .u64 c, .int .u64 d] 24)
  obtain ⟨m0, m1, m2, m3⟩ := four_new w2 (.int .u64 a) (.int .u64 b) (.int .u64 c) (.int .u64 d) 24
  have B2 := hide (bel_trans (bel_trans (unhide B1) b2) bb)
  have hl2 : g1 < w2.heap.size := Nat.lt_of_lt_of_le hl1 b2.size
  have k0 := cell_below (cell_below n0 hl1 b2) hl2 bb
  have k1 := cell_below (cell_below n1 hl1 b2) hl2 bb
  have k2 := cell_below (cell_below n2 hl1 b2) hl2 bb
  have k3 := cell_below (cell_below n3 hl1 b2) hl2 bb
  obtain ⟨g2, hg2⟩ : ∃ g, w2.heap.size = g := ⟨_, rfl⟩
  obtain ⟨W2, hW2⟩ : ∃ W, w2.alloc (.cells #[.int .u64 a, .int .u64 b, .int .u64 c, .int .u64 d] 24) = W := ⟨_, rfl⟩
  rw [hW2] at m0 m1 m2 m3 B2 k0 k1 k2 k3
  rw [hg2] at m0 m1 m2 m3
  have heq := eqSet a b c d a b c d
  rw [decide_eq_true rfl] at heq
  clear bb b2 ans2 n0 n1 n2 n3 H2 A1 B1 hl1
  dsimp only
  go_wp2_with fail
  go_ret
  exact ⟨by first | rfl | simp, unhide B2⟩
theorem walk (s : ByteArray) (hb : s.size ≤ 1048576) (w : World) (hsh : w.ShapedOpen Tryd.prog) (hL : laidMetH Tryd.prog Rows.netsBytesUptoRow.laid w) :
    Calls Tryd.prog 3 #[.string s] w fun e w' => e = .returned (.bool true) ∧ Below w.heap.size w w' := by
  obtain ⟨m, hm⟩ := Tryd.laysM145.s1_3 w hsh
  exact walk_m s m hb w hm
theorem own : ownKnob Tryd.prog.godebug = none := by kernel_rfl

theorem small_of {H : Type} {a0 : ByteArray} (hk : Rows.uptoSmall H ([.lit (.string a0.data.toList)] ++ []) = true) : a0.size ≤ 1048576 := by
  have h := of_decide_eq_true hk
  simp only [Rows.uptoBulkAll, Rows.uptoBulk, List.append_nil, Array.length_toList, ByteArray.size_data] at h
  omega

theorem contract (H : Type) (enc : TypeId × Value → H) (W : World) (base : Nat) (args : Array Value) (ds gs : List (DataW H)) (before : List MemPlace) (hsh : W.ShapedOpen Tryd.prog)
    (hval0 : ∀ (j : Nat) t v, Tryd.f3.params[j]? = some t → args[j]? = some v → Value.okWide Tryd.prog W .any base t v)
    (hW : DataW.Whole enc Tryd.prog Tryd.f3.params.toList Rows.netsBytesSpec.vars false W args.toList ds gs before) (hk : Rows.uptoSmall H (ds ++ gs) = true) (hL : laidMetH Tryd.prog Rows.netsBytesUptoRow.laid W) :
    Calls Tryd.prog 3 args W fun e W' => ∃ v, e = .returned v ∧ Rows.netsBytesSpec.post enc Tryd.prog Tryd.f3 false true false false W args v W' := by
  have hval : ∀ (j : Nat) t v, Tryd.f3.params[j]? = some t → args[j]? = some v → Value.okWide Tryd.prog W .any base t v := hval0
  have hW' := hW
  obtain ⟨p, q, hA0, hV, rfl, hfz, hnd⟩ := hW
  have hA : DataW.TrodAll enc Tryd.prog W 0 (fun _ => true) true Tryd.f3.params.toList args.toList ds p := hA0
  rw [Tryd.params3] at hA hval
  obtain ⟨v0, vs0, d0, ds0, p0, q0, hargs, rfl, rfl, h0, r0⟩ := trodAll_cons hA
  obtain ⟨rfl, rfl, rfl⟩ := trodAll_nil r0
  obtain rfl : args = #[v0] := by cases args; simp_all
  obtain ⟨rfl, rfl⟩ := trodVars_none hV
  obtain ⟨a0, rfl, rfl, rfl, w0⟩ := open_string Tryd.underlying9 (hval 0 9 v0 rfl rfl) h0
  clear hA0 hval0
  simp only [List.append_nil] at hW'
  refine (walk a0 (small_of hk) W hsh hL).mono fun e W' ⟨he, hb⟩ => ?_
  subst he
  exact ⟨_, rfl, _, _, _, [], [], [], hW', (trodAll_cons_mk (shut_bool Tryd.underlying4 _) trodAll_mk0), (trodAll_cons_mk (shut_string Tryd.underlying9 w0) trodAll_mk0), rfl, hb.frame _, fun h => by cases h⟩

theorem reads (os : Os) {H : Type} (enc : TypeId × Value → H) : ∃ places, DataW.whole enc Tryd.prog ((laidIn (World.holding Tryd.prog os ⟨#[], #[], []⟩)).forCall (fun _ _ => 0) ⟨#[], #[.string ByteArray.empty], []⟩).memory Tryd.f3.params.toList Rows.netsBytesSpec.vars false (#[.string ByteArray.empty] : Array Value).toList 8 = some ([.lit (.string [])], [], places) :=
  ⟨[], by kernel_rfl⟩
theorem laid_met (os : Os) : laidMet Tryd.prog Rows.netsBytesUptoRow.laid ((laidIn (World.holding Tryd.prog os ⟨#[], #[], []⟩)).forCall (fun _ _ => 0) ⟨#[], #[.string ByteArray.empty], []⟩).memory :=
  laidMet_of_run' 8 (by kernel_rfl) (by kernel_rfl)

set_option maxRecDepth 100000 in
theorem lifted (os : Os) (started : os.Started) (H : Type) (enc : TypeId × Value → H) (F : Stop.Interp) :
    ReturnsInHanded {} Tryd.checked os 3 .any ((Rows.OpenSpec.upto Rows.netsBytesSpec).preRow enc Tryd.prog Tryd.f3 Rows.netsBytesUptoRow.domain false Rows.netsBytesUptoRow.laid) (((Rows.OpenSpec.upto Rows.netsBytesSpec).at F).post enc Tryd.prog Tryd.f3 false true false false) := by
  obtain ⟨places, hx⟩ := reads os enc
  refine returnsInHanded_of_row (C := Tryd.checked) (s := Rows.OpenSpec.upto Rows.netsBytesSpec) own started (by kernel_rfl) Tryd.func3
    (witness_row_at (enc := enc) (C := Tryd.checked) false (laidIn (World.holding Tryd.prog os ⟨#[], #[], []⟩)) #[.string ByteArray.empty] rfl (by kernel_rfl) (by kernel_rfl) (by kernel_rfl)
      (OpenSpec.preRow_of_cond 8 hx (by kernel_rfl) (fun k hk => by cases hk; kernel_rfl) (by kernel_rfl) (laid_met os))) ?_
  intro W base args ds gs before hval hW _ hcond _ hL hsh _
  exact contract H enc W base args ds gs before hsh hval hW (hcond _ rfl) hL

theorem row : Rows.NetsBytesUptoSaid :=
  OpenClaim.holds_of_cond 3 Tryd.f3 rfl rfl rfl rfl rfl rfl rfl ⟨rfl, rfl, rfl, rfl, rfl⟩ rfl rfl rfl rfl rfl (by kernel_rfl) Tryd.func3 (by kernel_rfl)
    (of_decide_eq_true (by kernel_rfl)) (by unfold Func.isWrapper; first | (rw [if_pos (by decide +kernel)]; kernel_rfl) | (rw [if_neg (by decide +kernel)]; exact ⟨rfl, rfl⟩))
    (fun os started H enc _ F => by rw [OpenClaim.pre_eq_preRow]; exact lifted os started H enc F)

theorem plain (f : FuncId) (fn : Func) (hf : Tryd.pinned.checked.prog.funcNamed "gatewicket/wicklaw.NetsBytes" = some f) (hfn : Tryd.pinned.checked.prog.funcs[f]? = some fn) :
    false = Tryd.pinned.checked.prog.looks [] ∧ ∀ (j : Nat) t, fn.params[j]? = some t → Tryd.pinned.checked.prog.wantsStandIn t = false := by
  obtain rfl : f = 3 := Option.some.inj ((show Tryd.prog.funcNamed "gatewicket/wicklaw.NetsBytes" = some 3 by kernel_rfl).symm.trans hf) |>.symm
  obtain rfl : fn = Tryd.f3 := (Option.some.inj (Tryd.func3.symm.trans hfn)).symm
  refine ⟨by kernel_rfl, fun j t ht => ?_⟩
  rw [Tryd.params3] at ht
  have hm : t = 9 := by simpa using Array.mem_of_getElem? ht
  subst hm
  exact (show Tryd.prog.wantsStandIn 9 = false by kernel_rfl)

theorem over : Rows.NetsBytesUptoCardSaid :=
  Claim7.holds_tied_plain_at .later [] _ _ _ _ row (fun _ h => by cases h) (by kernel_rfl) (fun _ h => by cases h) netsBytesUpto_row_tie rfl ⟨rfl, rfl⟩ (by kernel_rfl) rfl plain (by kernel_rfl)
end Go.Proofs.YtloidooaebhliaaDoor.netsBytes
namespace Go.Proofs.YtloidooaebhliaaDoor
theorem netsBytes_holds : Rows.NetsBytesUptoCardSaid := netsBytes.over
#print axioms netsBytes_holds
end Go.Proofs.YtloidooaebhliaaDoor
