/- For every number n and every text s, together of bulk at most 1048576, with the tables of math/bits and of internal/strconv as the program's text lays them and whatever number the library's own variable MaxLen holds, the call of OctetBack returns true and leaves its arguments as they were; the conditions are the bulk and the tables, which the card ties to the text. -/
import Derived.Test.YtemkbobofoimaaaDoorRows
import Derived.Test.YtemkbobofoimaaaDoorTie
import Derived.Test.YtemkbobofoimaaaDoorCards
import Derived.WalkKit
import Derived.ProofKit
import Derived.OpenShut
import Derived.ShutString
import Derived.JoinedCond
import Derived.Deep.DeepHandedRow
import Derived.Lib.LaidTab
import Derived.Lib.LaidU8
import Derived.Stop.LaidErr
import Derived.Lib.AppendIntMem
import Derived.Test.YtemkbobofoimaaaDoorWw
import Derived.Test.YtemkbobofoimaaaDoorWf
import Derived.Test.YtemkbobofoimaaaDoorWh
namespace Go.Proofs.YtemkbobofoimaaaDoor.octetBack
open Go.ChangeShapes Go.WideShapes Go.ChangeAt Go.RowKit
open Go.ChangeMaps (open_string shut_string)
set_option linter.unusedVariables false

theorem bel_trans {w a b : World} (h : Below w.heap.size w a) (g : Below a.heap.size a b) : Below w.heap.size w b := h.trans (g.mono h.size)
theorem cell_below {w w' : World} {a : Addr} {v : Value} (h : w.cell? a = some v) (hb : Below w.heap.size w w') : w'.cell? a = some v :=
  (hb.cell (World.block_lt_of_cell? _ _ h)).trans h

/-- a number's rest, from 0 on -/
theorem tmod_bd (n m : Int) (hm : 0 < m) : -m < n.tmod m ∧ n.tmod m < m := by
  constructor
  · have := Int.lt_tmod_of_pos n hm; omega
  · exact Int.tmod_lt_of_pos n hm
set_option maxHeartbeats 1000000 in
theorem rest_any (n m : Int) (w : World) (hm : 0 < m) (hm2 : m ≤ 1000000000) (h0 : -9223372036854775808 ≤ n) (h1 : n ≤ 9223372036854775807) :
    Calls Tryd.prog 20 #[.int .i64 n, .int .i64 m] w fun e w' => ∃ r : Int, e = .returned (.int .i64 r) ∧ 0 ≤ r ∧ r < m ∧ w' = w := by
  have hb := tmod_bd n m hm
  go_enter Tryd.func20, Tryd.ntmps20
  go_wp2
  all_goals
    go_ret
    exact ⟨_, rfl, by omega, by omega, rfl⟩

theorem dig_dec (k : Nat) (h : k < 10) : Num.dig ((UInt8.ofNat (48 + k)).toNat : Int) = k := by
  have : ∀ k : Fin 10, Num.dig ((UInt8.ofNat (48 + k.1)).toNat : Int) = k.1 := by decide
  exact this ⟨k, h⟩
theorem step_10 {u d : Int} {c : UInt8} (h : Num.dig c.toNat = d) (h0 : 0 ≤ d) (h1 : d < 10) : Num.step 10 (some u) c = some (u * 10 + d) := by
  unfold Num.step; simp only [h]; rw [if_neg (by omega)]
theorem num_dec (f : Nat) : ∀ n : Nat, n ≤ f → Num.num 10 (Lib.decDigits n) = some (n : Int) := by
  induction f with
  | zero =>
    intro n h
    rw [Lib.decDigits_one (by omega)]
    show Num.step 10 (some 0) _ = _
    rw [step_10 (dig_dec n (by omega)) (by omega) (by omega)]; simp
  | succ f ih =>
    intro n h
    by_cases h10 : n < 10
    · rw [Lib.decDigits_one h10]
      show Num.step 10 (some 0) _ = _
      rw [step_10 (dig_dec n h10) (by omega) (by omega)]; simp
    · rw [Lib.decDigits, dif_neg h10, Num.num_snoc, ih (n / 10) (by omega), step_10 (dig_dec (n % 10) (by omega)) (by omega) (by omega)]
      congr 1; omega
theorem len_dec (k : Nat) : ∀ n : Nat, n < 10 ^ (k + 1) → 1 ≤ (Lib.decDigits n).length ∧ (Lib.decDigits n).length ≤ k + 1 := by
  induction k with
  | zero => intro n h; rw [Lib.decDigits_one (by omega)]; simp
  | succ k ih =>
    intro n h
    by_cases h10 : n < 10
    · rw [Lib.decDigits_one h10]; simp
    · rw [Lib.decDigits, dif_neg h10, List.length_append, List.length_singleton]
      have := ih (n / 10) (by rw [Nat.pow_succ] at h; omega)
      omega
theorem ans_dec (k : Int) (h0 : 0 ≤ k) (h1 : k < 1000000000) : Num.ans 10 9 (Lib.itoa k) = (k, 0) ∧ (Lib.itoa k).length ≤ 9 := by
  obtain ⟨n, rfl⟩ := Int.eq_ofNat_of_zero_le h0
  have e : Lib.itoa (n : Int) = Lib.decDigits n := by unfold Lib.itoa; rw [if_neg (by omega), Int.toNat_natCast]
  have hl := len_dec 8 n (by omega)
  rw [e]
  refine ⟨?_, hl.2⟩
  unfold Num.ans
  rw [if_neg (by omega), num_dec n n (Nat.le_refl _)]
theorem ans_hex (x : Int) (l : List UInt8) (h1 : 1 ≤ l.length) (h2 : l.length ≤ 7) (h : Num.num 16 l = some x) : Num.ans 16 7 l = (x, 0) := by
  unfold Num.ans; rw [if_neg (by omega), h]

/-- the calls, texts told by their bytes -/
theorem dec_at (l : List UInt8) (k : Int) (h : Num.ans 10 9 l = (k, 0)) (hl : l.length ≤ 9) (w : World) :
    Calls Tryd.prog 21 #[.string ⟨l.toArray⟩] w fun e w' => e = .returned (.tuple #[.int .i64 k, .int .i64 0]) ∧ w' = w := by
  have := dec_any ⟨l.toArray⟩ w (by unfold maxLen; simp [ByteArray.size]; omega)
  rw [show (⟨l.toArray⟩ : ByteArray).data.toList = l from by simp, h] at this
  exact this
theorem hex_at (l : List UInt8) (x : Int) (h : Num.ans 16 7 l = (x, 0)) (hl : l.length ≤ 7) (w : World) :
    Calls Tryd.prog 23 #[.string ⟨l.toArray⟩] w fun e w' => e = .returned (.tuple #[.int .i64 x, .int .i64 0]) ∧ w' = w := by
  have := hex_any ⟨l.toArray⟩ w (by unfold maxLen; simp [ByteArray.size]; omega)
  rw [show (⟨l.toArray⟩ : ByteArray).data.toList = l from by simp, h] at this
  exact this
theorem unquote_at (s q : ByteArray) (hq : q.data.toList = Qt.quote s.data.toList) (hl : q.size ≤ 8388608) (w : World) :
    Calls Tryd.prog 16 #[.string q] w fun e w' => e = .returned (.tuple #[.string s, .int .i64 0]) ∧ Below w.heap.size w w' := by
  have := unquote_any q w (by omega)
  rw [show uqV q.data.toList = s.data.toList from by unfold uqV; rw [hq, Qt.back]; rfl, show uqE q.data.toList = 0 from by unfold uqE; rw [hq, Qt.back]; rfl] at this
  exact this
theorem quote_at (s q : ByteArray) (hq : q.data.toList = Qt.quote s.data.toList) (hl : s.size ≤ 1048576) (w : World) :
    Calls Tryd.prog 18 #[.string s] w fun e w' => e = .returned (.string q) ∧ Below w.heap.size w w' := by
  have := quote_any s w (by omega)
  rw [← hq] at this
  exact this
theorem no_byte (l : List UInt8) (c : UInt8) (h : ∀ b ∈ l, b ≠ c) : Fnd.find l [c] 0 = -1 := by
  rcases Fnd.find_spec l [c] 0 with ⟨g, _⟩ | ⟨k, g1, g2, g3, g4, g5⟩
  · exact g
  · have := Lib.occAt_head (s := l) (sub := [c]) (c := c) (t := []) rfl g4
    exact absurd rfl (h c (List.mem_of_getElem? this))
theorem find_at (q : ByteArray) (c : UInt8) (m : Int) (h : Fnd.find q.data.toList [c] 0 = -1) (hl : q.size ≤ 8388608) (w : World) (hm : w.cell? ⟨0, 0, none⟩ = some (.int .i64 m)) :
    Calls Tryd.prog 10 #[.string q, .string ⟨#[c]⟩, .int .i64 0] w fun e w' => e = .returned (.int .i64 (-1)) ∧ w' = w := by
  have := find_any q ⟨#[c]⟩ 0 m w (by omega) (by omega) (by omega) hm
  rw [show (⟨#[c]⟩ : ByteArray).data.toList = [c] from rfl, h] at this
  exact this
theorem itoa_at (k : Int) (w : World) (h0 : 0 ≤ k) (h1 : k < 1000000000) (ht : Lib.TabIs Tryd.prog w "internal/strconv.uint64pow10" .u64 Lib.pow10Tab) :
    Calls Tryd.prog 22 #[.int .i64 k] w fun e w' => e = .returned (.string ⟨(Lib.itoa k).toArray⟩) ∧ Below w.heap.size w w' := by
  refine (Tryd.strconv_Itoa k (by omega) (by omega) w ht).mono ?_
  rintro e w' ⟨rfl, j, os, rfl⟩
  exact ⟨rfl, Lib.below_grow _ w (Nat.le_refl _) j os⟩

set_option maxHeartbeats 2000000 in
theorem walk_m (n m : Int) (s : ByteArray) (hb : s.size ≤ 1048576) (hi : -9223372036854775808 ≤ n ∧ n ≤ 9223372036854775807) (w : World)
    (hm : w.cell? ⟨0, 0, none⟩ = some (.int .i64 m)) (ht : Lib.TabIs Tryd.prog w "internal/strconv.uint64pow10" .u64 Lib.pow10Tab) (hd : w.cell? ⟨5, 15, none⟩ = some (.int .u8 4)) :
    Calls Tryd.prog 5 #[.int .i64 n, .string s] w fun e w' => e = .returned (.bool true) ∧ Below w.heap.size w w' := by
  obtain ⟨q, hq⟩ : ∃ q : ByteArray, q.data.toList = Qt.quote s.data.toList := ⟨⟨(Qt.quote s.data.toList).toArray⟩, by simp⟩
  have hql : q.size ≤ 8388608 := by
    have h1 := congrArg List.length hq
    have h2 := Qt.quote_len s.data.toList
    simp at h1 h2; omega
  have hqe : (q.toList == []) = false := by
    rw [ByteArray.toList_eq, hq]; simpa using Qt.quote_ne s.data.toList
  have hpl := Qt.quote_plain s.data.toList
  rw [← hq] at hpl
  have H1 := hide (fun w => rest_any n 1000000000 w (by omega) (by omega) hi.1 hi.2)
  have H2 := hide (fun w => rest_any n 268435456 w (by omega) (by omega) hi.1 hi.2)
  have H3 := hide (quote_at s q hq hb)
  have H4 := hide (unquote_at s q hq hql)
  have H5 := hide (find_at q 32 m (no_byte _ 32 (fun b hb e => by have := hpl b hb; rw [e] at this; revert this; decide)) hql)
  have H6 := hide (find_at q 10 m (no_byte _ 10 (fun b hb e => by have := hpl b hb; rw [e] at this; revert this; decide)) hql)
  have HM := hide hm
  have HD := hide hd
  have HT := hide ht
  clear hm hd ht hq hpl
  go_enter Tryd.func5, Tryd.ntmps5
  go_wp2_with fail
  refine ((unhide H1) _).mono ?_; rintro e wx ⟨k, rfl, k0, k1, rfl⟩
  go_wp2_with fail
  refine (itoa_at k _ k0 k1 (unhide HT)).mono ?_; rintro e w1 ⟨rfl, b1⟩
  have A1 := ans_dec k k0 k1
  have H7 := hide (fun w => dec_at _ k A1.1 A1.2 w)
  clear A1
  go_wp2_with fail
  refine ((unhide H7) _).mono ?_; rintro e wy ⟨rfl, rfl⟩
  go_wp2_with fail
  refine ((unhide H2) _).mono ?_; rintro e wz ⟨x, rfl, x0, x1, rfl⟩
  go_wp2_with fail
  refine (format_16 x _ x0 x1 (cell_below (unhide HD) b1)).mono ?_; rintro e w2 ⟨l, rfl, l1, l2, l3, b2⟩
  have H8 := hide (fun w => hex_at l x (ans_hex x l l1 l2 l3) l2 w)
  clear l1 l2 l3
  go_wp2_with fail
  refine ((unhide H8) _).mono ?_; rintro e wu ⟨rfl, rfl⟩
  go_wp2_with fail
  refine ((unhide H3) _).mono ?_; rintro e w3 ⟨rfl, b3⟩
  go_wp2_with fail
  refine ((unhide H4) _).mono ?_; rintro e w4 ⟨rfl, b4⟩
  have B := hide (bel_trans (bel_trans (bel_trans b1 b2) b3) b4)
  clear b1 b2 b3 b4
  go_wp2_with fail
  refine ((unhide H5) _ (cell_below (unhide HM) (unhide B))).mono ?_; rintro e w5 ⟨rfl, rfl⟩
  go_wp2_with fail
  refine ((unhide H6) _ (cell_below (unhide HM) (unhide B))).mono ?_; rintro e w6 ⟨rfl, rfl⟩
  go_wp2_with fail
  go_ret
  exact ⟨by simp [*], unhide B⟩

/-- a table of integers, as cells and as numbers -/
def intCells (d : DataW Unit) : Array Value := match d with
  | .agg l => (l.map fun x => match x with | .lit (.int k z) => Value.int k z | _ => Value.bool false).toArray
  | _ => #[]
def ints (d : DataW Unit) : List Int := match d with
  | .agg l => l.map fun x => match x with | .lit (.int _ z) => z | _ => 0
  | _ => []
/-- a world with the three tables as their initialisers lay them -/
def laidIn (w : World) : World :=
  { w with heap := ((w.heap.modify 4 fun
      | .cells _ t frozen => .cells (intCells Rows.laid_math_bits_deBruijn32tab) t frozen
      | o => o).modify 5 fun
      | .cells _ t frozen => .cells (intCells Rows.laid_math_bits_deBruijn64tab) t frozen
      | o => o).modify 3 fun
      | .cells _ t frozen => .cells (intCells Rows.laid_internal_strconv_uint64pow10) t frozen
      | o => o }

theorem d64_is : (Rows.laid_math_bits_deBruijn64tab : DataW Unit) = Lib.tabData .u8 (ints Rows.laid_math_bits_deBruijn64tab) := by kernel_rfl
theorem pow_is : (Rows.laid_internal_strconv_uint64pow10 : DataW Unit) = Lib.tabData .u64 Lib.pow10Tab := by kernel_rfl

theorem tabs {W : World} (hL : laidMet Tryd.prog [("math/bits.deBruijn32tab", Rows.laid_math_bits_deBruijn32tab), ("math/bits.deBruijn64tab", Rows.laid_math_bits_deBruijn64tab), ("internal/strconv.uint64pow10", Rows.laid_internal_strconv_uint64pow10)] W) :
    Lib.TabIs Tryd.prog W "internal/strconv.uint64pow10" .u64 Lib.pow10Tab ∧ W.cell? ⟨5, 15, none⟩ = some (.int .u8 4) := by
  have h1 := hL.tail
  have h2 := h1.tail
  rw [d64_is] at h1
  rw [pow_is] at h2
  refine ⟨Lib.tabIs_of_head (rest := []) (g := 3) (t := 81) (e := 68) (n := 20) (by kernel_rfl) (by kernel_rfl) Tryd.underlying81 Tryd.underlying68 (by kernel_rfl) (by kernel_rfl) h2, ?_⟩
  have h3 := Lib.tabIs_of_head (g := 5) (t := 92) (e := 5) (n := 64) (by kernel_rfl) (by kernel_rfl) Tryd.underlying92 Tryd.underlying5 (by kernel_rfl) (by kernel_rfl) h1
  exact (h3.cell (g := 5) (by kernel_rfl) 15 (by decide)).trans (by kernel_rfl)

theorem walk (a0 : Int) (a1 : ByteArray) (hb : a1.size ≤ 1048576) (hi : -9223372036854775808 ≤ a0 ∧ a0 ≤ 9223372036854775807) (w : World) (hsh : w.ShapedOpen Tryd.prog) (hL : laidMetH Tryd.prog Rows.octetBackUptoRow.laid w) :
    Calls Tryd.prog 5 #[.int .i64 a0, .string a1] w fun e w' => e = .returned (.bool true) ∧ Below w.heap.size w w' := by
  obtain ⟨m, hm⟩ := Tryd.laysM143.s1_3 w hsh
  have ht := tabs (W := w) hL
  exact walk_m a0 m a1 hb hi w hm ht.1 ht.2

theorem own : ownKnob Tryd.prog.godebug = none := by kernel_rfl

theorem small_of {H : Type} {a0 : Int} {a1 : ByteArray} (hk : Rows.uptoSmall H ([.lit (.int .i64 a0), .lit (.string a1.data.toList)] ++ []) = true) : a1.size ≤ 1048576 := by
  have h := of_decide_eq_true hk
  simp only [Rows.uptoBulkAll, Rows.uptoBulk, List.append_nil, Array.length_toList, ByteArray.size_data] at h
  omega

theorem contract (H : Type) (enc : TypeId × Value → H) (W : World) (base : Nat) (args : Array Value) (ds gs : List (DataW H)) (before : List MemPlace) (hsh : W.ShapedOpen Tryd.prog)
    (hval0 : ∀ (j : Nat) t v, Tryd.f5.params[j]? = some t → args[j]? = some v → Value.okWide Tryd.prog W .any base t v)
    (hW : DataW.Whole enc Tryd.prog Tryd.f5.params.toList Rows.octetBackSpec.vars false W args.toList ds gs before) (hk : Rows.uptoSmall H (ds ++ gs) = true) (hL : laidMetH Tryd.prog Rows.octetBackUptoRow.laid W) :
    Calls Tryd.prog 5 args W fun e W' => ∃ v, e = .returned v ∧ Rows.octetBackSpec.post enc Tryd.prog Tryd.f5 false true false false W args v W' := by
  have hval : ∀ (j : Nat) t v, Tryd.f5.params[j]? = some t → args[j]? = some v → Value.okWide Tryd.prog W .any base t v := hval0
  have hW' := hW
  obtain ⟨p, q, hA0, hV, rfl, hfz, hnd⟩ := hW
  have hA : DataW.TrodAll enc Tryd.prog W 0 (fun _ => true) true Tryd.f5.params.toList args.toList ds p := hA0
  rw [Tryd.params5] at hA hval
  obtain ⟨v0, vs0, d0, ds0, p0, q0, hargs, rfl, rfl, h0, r0⟩ := trodAll_cons hA
  obtain ⟨v1, vs1, d1, ds1, p1, q1, rfl, rfl, rfl, h1, r1⟩ := trodAll_cons r0
  obtain ⟨rfl, rfl, rfl⟩ := trodAll_nil r1
  obtain rfl : args = #[v0, v1] := by cases args; simp_all
  obtain ⟨rfl, rfl⟩ := trodVars_none hV
  obtain ⟨a0, rfl, rfl, rfl, w0⟩ := open_int Tryd.underlying3 (hval 0 3 v0 rfl rfl) h0
  obtain ⟨a1, rfl, rfl, rfl, w1⟩ := open_string Tryd.underlying9 (hval 1 9 v1 rfl rfl) h1
  clear hA0 hval0
  simp only [List.append_nil] at hW'
  have hi0 : -9223372036854775808 ≤ a0 ∧ a0 ≤ 9223372036854775807 := by simpa [Lit.wf, IntKind.min, IntKind.max, IntKind.signed, IntKind.bits] using w0
  refine (walk a0 a1 (small_of hk) hi0 W hsh hL).mono fun e W' ⟨he, hb⟩ => ?_
  subst he
  exact ⟨_, rfl, _, _, _, [], [], [], hW', (trodAll_cons_mk (shut_bool Tryd.underlying4 _) trodAll_mk0), (trodAll_cons_mk (shut_int Tryd.underlying3 w0) (trodAll_cons_mk (shut_string Tryd.underlying9 w1) trodAll_mk0)), rfl, hb.frame _, fun h => by cases h⟩

theorem reads (os : Os) {H : Type} (enc : TypeId × Value → H) : ∃ places, DataW.whole enc Tryd.prog ((laidIn (World.holding Tryd.prog os ⟨#[], #[], []⟩)).forCall (fun _ _ => 0) ⟨#[], #[.int .i64 0, .string ByteArray.empty], []⟩).memory Tryd.f5.params.toList Rows.octetBackSpec.vars false (#[.int .i64 0, .string ByteArray.empty] : Array Value).toList 8 = some ([.lit (.int .i64 0), .lit (.string [])], [], places) :=
  ⟨[], by kernel_rfl⟩
theorem laid_met (os : Os) : laidMet Tryd.prog Rows.octetBackUptoRow.laid ((laidIn (World.holding Tryd.prog os ⟨#[], #[], []⟩)).forCall (fun _ _ => 0) ⟨#[], #[.int .i64 0, .string ByteArray.empty], []⟩).memory :=
  laidMet_of_run' 8 (by kernel_rfl) (by kernel_rfl)

set_option maxRecDepth 100000 in
theorem lifted (os : Os) (started : os.Started) (H : Type) (enc : TypeId × Value → H) (F : Stop.Interp) :
    ReturnsInHanded {} Tryd.checked os 5 .any ((Rows.OpenSpec.upto Rows.octetBackSpec).preRow enc Tryd.prog Tryd.f5 Rows.octetBackUptoRow.domain false Rows.octetBackUptoRow.laid) (((Rows.OpenSpec.upto Rows.octetBackSpec).at F).post enc Tryd.prog Tryd.f5 false true false false) := by
  obtain ⟨places, hx⟩ := reads os enc
  refine returnsInHanded_of_row (C := Tryd.checked) (s := Rows.OpenSpec.upto Rows.octetBackSpec) own started (by kernel_rfl) Tryd.func5
    (witness_row_at (enc := enc) (C := Tryd.checked) false (laidIn (World.holding Tryd.prog os ⟨#[], #[], []⟩)) #[.int .i64 0, .string ByteArray.empty] rfl (by kernel_rfl) (by kernel_rfl) (by kernel_rfl)
      (OpenSpec.preRow_of_cond 8 hx (by kernel_rfl) (fun k hk => by cases hk; kernel_rfl) (by kernel_rfl) (laid_met os))) ?_
  intro W base args ds gs before hval hW _ hcond _ hL hsh _
  exact contract H enc W base args ds gs before hsh hval hW (hcond _ rfl) hL

theorem row : Rows.OctetBackUptoSaid :=
  OpenClaim.holds_of_cond 5 Tryd.f5 rfl rfl rfl rfl rfl rfl rfl ⟨rfl, rfl, rfl, rfl, rfl⟩ rfl rfl rfl rfl rfl (by kernel_rfl) Tryd.func5 (by kernel_rfl)
    (of_decide_eq_true (by kernel_rfl)) (by unfold Func.isWrapper; first | (rw [if_pos (by decide +kernel)]; kernel_rfl) | (rw [if_neg (by decide +kernel)]; exact ⟨rfl, rfl⟩))
    (fun os started H enc _ F => by rw [OpenClaim.pre_eq_preRow]; exact lifted os started H enc F)

theorem plain (f : FuncId) (fn : Func) (hf : Tryd.pinned.checked.prog.funcNamed "gatewicket/wickkeep.OctetBack" = some f) (hfn : Tryd.pinned.checked.prog.funcs[f]? = some fn) :
    false = Tryd.pinned.checked.prog.looks [] ∧ ∀ (j : Nat) t, fn.params[j]? = some t → Tryd.pinned.checked.prog.wantsStandIn t = false := by
  obtain rfl : f = 5 := Option.some.inj ((show Tryd.prog.funcNamed "gatewicket/wickkeep.OctetBack" = some 5 by kernel_rfl).symm.trans hf) |>.symm
  obtain rfl : fn = Tryd.f5 := (Option.some.inj (Tryd.func5.symm.trans hfn)).symm
  refine ⟨by kernel_rfl, fun j t ht => ?_⟩
  rw [Tryd.params5] at ht
  have hm : t = 3 ∨ t = 9 := by simpa using Array.mem_of_getElem? ht
  rcases hm with rfl | rfl
  · exact (show Tryd.prog.wantsStandIn 3 = false by kernel_rfl)
  · exact (show Tryd.prog.wantsStandIn 9 = false by kernel_rfl)

theorem over : Rows.OctetBackUptoCardSaid :=
  Claim7.holds_tied_plain_at .later [] _ _ _ _ row (fun _ h => by cases h) (by kernel_rfl) (fun _ h => by cases h) octetBackUpto_row_tie rfl ⟨rfl, rfl⟩ (by kernel_rfl) rfl plain (by kernel_rfl)
end Go.Proofs.YtemkbobofoimaaaDoor.octetBack
namespace Go.Proofs.YtemkbobofoimaaaDoor
theorem octetBack_holds : Rows.OctetBackUptoCardSaid := octetBack.over
#print axioms octetBack_holds
end Go.Proofs.YtemkbobofoimaaaDoor
