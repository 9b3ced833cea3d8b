/- Walks: a request at the front (the program's One). -/
import Derived.Test.YtmgealcolofomaaGreatDoorTx
import Derived.Test.YtmgealcolofomaaGreatDoorTy
import Derived.Test.YtmgealcolofomaaGreatDoorMj
import Derived.Test.YtmgealcolofomaaGreatDoorMm
import Derived.Test.YtmgealcolofomaaGreatDoorUA
import Derived.Test.YtmgealcolofomaaGreatDoorMk
import Derived.Deep.RegionWith
import Derived.BigRegion
/- A variable that holds a request; results of several kinds. -/
namespace Go.Proofs.YtmgealcolofomaaGreatDoor
open Go.RowKit Kb
set_option linter.unusedVariables false
set_option maxRecDepth 20000
open Mh (Fl)

theorem results_cctt {fn : Func} {p p' u u' : Tmp} {ty ty' : TypeId} (h : fn.results = #[.cell p ty, .cell p' ty', .tmp u, .tmp u']) (tmps : Array Value) (w : World) (g g' : Nat) (v v' : Value)
    (hp : tmps.getD p undef = .pointer (some ⟨g, 0, none⟩)) (hl : (loadVar ty ⟨g, 0, none⟩).run Tryz.prog w = .ok v w)
    (hq : tmps.getD p' undef = .pointer (some ⟨g', 0, none⟩)) (hl' : (loadVar ty' ⟨g', 0, none⟩).run Tryz.prog w = .ok v' w) (x : Value) (hx : tmps.getD u undef = x) (y : Value) (hy : tmps.getD u' undef = y) :
    (results fn tmps).run Tryz.prog w = .ok (.tuple #[v, v', x, y]) w := by
  have hp' : tmps[p]?.getD undef = .pointer (some ⟨g, 0, none⟩) := by simpa using hp
  have hq' : tmps[p']?.getD undef = .pointer (some ⟨g', 0, none⟩) := by simpa using hq
  have hx' : tmps[u]?.getD undef = x := by simpa using hx
  have hy' : tmps[u']?.getD undef = y := by simpa using hy
  simp [results, h, hp', hq', hx', hy', asAddr, hl, hl', Sem.run_bind, Result.andThen]
theorem results_ctt9 {fn : Func} {p u u' : Tmp} {ty : TypeId} (h : fn.results = #[.cell p ty, .tmp u, .tmp u']) (tmps : Array Value) (w : World) (g : Nat) (v : Value)
    (hp : tmps.getD p undef = .pointer (some ⟨g, 0, none⟩)) (hl : (loadVar ty ⟨g, 0, none⟩).run Tryz.prog w = .ok v w) (x : Value) (hx : tmps.getD u undef = x) (y : Value) (hy : tmps.getD u' undef = y) :
    (results fn tmps).run Tryz.prog w = .ok (.tuple #[v, x, y]) w := by
  have hp' : tmps[p]?.getD undef = .pointer (some ⟨g, 0, none⟩) := by simpa using hp
  have hx' : tmps[u]?.getD undef = x := by simpa using hx
  have hy' : tmps[u']?.getD undef = y := by simpa using hy
  simp [results, h, hp', hx', hy', asAddr, hl]
/-- a request's value -/
def reqV (m t : List UInt8) (v : Value) (b : List UInt8) : Value := .agg #[.string (mk m), .string (mk t), v, .string (mk b)]
def QX (w : World) (base g : Nat) (a b : ByteArray) (v : Value) (d : ByteArray) : Prop := w.ownsRow base 26 4 (.slice (some ⟨g, 0, none⟩) 1 1) 1 [.string a, .string b, v, .string d]
section
variable {w w' : World} {base g : Nat} {a b d : ByteArray} {v : Value}
theorem QX.cells (h : QX w base g a b v d) : w.cell? ⟨g, 0, none⟩ = some (.string a) ∧ w.cell? ⟨g, 1, none⟩ = some (.string b) ∧ w.cell? ⟨g, 2, none⟩ = some v ∧ w.cell? ⟨g, 3, none⟩ = some (.string d) :=
  ⟨World.ownsRow.cellAt h 0 (by omega), World.ownsRow.cellAt h 1 (by omega), World.ownsRow.cellAt h 2 (by omega), World.ownsRow.cellAt h 3 (by omega)⟩
theorem QX.frozen (h : QX w base g a b v d) : w.frozen? ⟨g, 0, none⟩ = false ∧ w.frozen? ⟨g, 1, none⟩ = false ∧ w.frozen? ⟨g, 2, none⟩ = false ∧ w.frozen? ⟨g, 3, none⟩ = false :=
  ⟨World.ownsRow.frozenAt h 0, World.ownsRow.frozenAt h 1, World.ownsRow.frozenAt h 2, World.ownsRow.frozenAt h 3⟩
theorem QX.lt (h : QX w base g a b v d) : base ≤ g ∧ g < w.heap.size := World.ownsRow.lt h g rfl
theorem QX.below (h : QX w base g a b v d) (b' : Below w.heap.size w w') : QX w' base g a b v d := own_below h b'
theorem QX.kept (h : QX w base g a b v d) {row : Option Nat} (k : w.grownBy w' row) (hne : row ≠ some g) : QX w' base g a b v d := World.ownsRow.kept h k (.inr (fun e => hne (by rw [← e]; rfl)))
theorem QX.new (W : World) (hB : base ≤ W.heap.size) (a b : ByteArray) (o : Option Addr) (n c : Nat) (d : ByteArray) : QX (W.alloc (.cells #[.string a, .string b, .slice o n c, .string d] 26)) base W.heap.size a b (.slice o n c) d :=
  World.ownsRow_lit (e := 26) (size := 4) (base := base) W #[.string a, .string b, .slice o n c, .string d] 1 hB (by unfold maxLen; omega) rfl
end
def putQ (w : World) (g : Nat) (a b : ByteArray) (v : Value) (d : ByteArray) : World := (((w.setCell ⟨g, 0, none⟩ (.string a)).setCell ⟨g, 1, none⟩ (.string b)).setCell ⟨g, 2, none⟩ v).setCell ⟨g, 3, none⟩ (.string d)
theorem QX.put {w : World} {base g : Nat} {a b d : ByteArray} {v : Value} (h : QX w base g a b v d) (a' b' : ByteArray) (v' : Value) (d' : ByteArray) : QX (putQ w g a' b' v' d') base g a' b' v' d' ∧ w.grownBy (putQ w g a' b' v' d') (some g) := by
  obtain ⟨v0, m0⟩ := World.ownsRow.stored h 0 (.string a')
  obtain ⟨v1, m1⟩ := v0.stored 1 (.string b')
  obtain ⟨v2, m2⟩ := v1.stored 2 v'
  obtain ⟨v3, m3⟩ := v2.stored 3 (.string d')
  exact ⟨v3, ((m0.trans m1).trans m2).trans m3⟩
theorem QX.load {w : World} {base g : Nat} {a b d : ByteArray} {o : Option Addr} {n c : Nat} (h : QX w base g a b (.slice o n c) d) : (loadVar 26 ⟨g, 0, none⟩).run Tryz.prog w = .ok (.agg #[.string a, .string b, .slice o n c, .string d]) w := by
  obtain ⟨fr, hh⟩ := own_one' h
  exact run_loadVar_row w g 26 26 #[.string a, .string b, .slice o n c, .string d] fr _ hh Tryz.underlying26 rfl (by kernel_rfl)
theorem QX.loaded {w : World} {base g : Nat} {a b d : ByteArray} {v : Value} (h : QX w base g a b v d) (a' b' : ByteArray) (o : Option Addr) (n c : Nat) (d' : ByteArray) : (loadVar 26 ⟨g, 0, none⟩).run Tryz.prog (putQ w g a' b' (.slice o n c) d') = .ok (.agg #[.string a', .string b', .slice o n c, .string d']) (putQ w g a' b' (.slice o n c) d') := (h.put a' b' _ d').1.load
/-- a variable that holds three numbers -/
def cells3 (x y z : Int) : List Value := [.int .i64 x, .int .i64 y, .int .i64 z]
end Go.Proofs.YtmgealcolofomaaGreatDoor

/- Walks: are two requests the same? -/
namespace Go.Proofs.YtmgealcolofomaaGreatDoor
open Go.RowKit Kb
set_option linter.unusedVariables false
set_option maxRecDepth 20000
open Mh (Fl)
theorem eq_tq (a : ByteArray) : (a.toList == a.toList) = true := by simp
end Go.Proofs.YtmgealcolofomaaGreatDoor

/- Walks: bounds, a head's end, a body (the program's); bounds (the document's). -/
namespace Go.Proofs.YtmgealcolofomaaGreatDoor
open Go.RowKit Kb
set_option linter.unusedVariables false
set_option maxRecDepth 20000
open Mh (Fl)

theorem within_any (n l h : Int) (w : World) :
    Calls Tryz.prog 27 #[.int .i64 n, .int .i64 l, .int .i64 h] w fun e w' => e = .returned (.bool (decide (l ≤ n) && decide (n ≤ h))) ∧ w' = w := by
  obtain ⟨b1, hb1⟩ : ∃ b, decide (l ≤ n) = b := ⟨_, rfl⟩
  obtain ⟨b2, hb2⟩ : ∃ b, decide (n ≤ h) = b := ⟨_, rfl⟩
  rw [hb1, hb2]
  cases b1
  · have h1 : ¬ l ≤ n := by simpa using hb1
    clear hb1 hb2
    go_enter Tryz.func27, Tryz.ntmps27
    go_wp2_with fail
    go_ret
    exact ⟨rfl, rfl⟩
  · have h1 : l ≤ n := by simpa using hb1
    clear hb1
    cases b2
    · have h2 : ¬ n ≤ h := by simpa using hb2
      clear hb2
      go_enter Tryz.func27, Tryz.ntmps27
      go_wp2_with fail
      go_ret
      exact ⟨rfl, rfl⟩
    · have h2 : n ≤ h := by simpa using hb2
      clear hb2
      go_enter Tryz.func27, Tryz.ntmps27
      go_wp2_with fail
      go_ret
      exact ⟨rfl, rfl⟩
/-- bounds' value -/
def bndV (hd bd ar : Int) : Value := .agg #[.int .i64 hd, .int .i64 bd, .int .i64 ar]
theorem check1_any (hd bd ar : Int) (w : World) :
    Calls Tryz.prog 17 #[bndV hd bd ar] w fun e w' => e = .returned (.int .i64 (On.bnd hd bd ar)) ∧ Below w.heap.size w w' := by
  unfold bndV On.bnd
  have H1 := hide (fun W => within_any hd 30 4096 W)
  have H2 := hide (fun W => within_any bd 0 4096 W)
  have H3 := hide (fun W => within_any ar 1 40 W)
  obtain ⟨b1, hb1⟩ : ∃ b, (decide (30 ≤ hd) && decide (hd ≤ 4096)) = b := ⟨_, rfl⟩
  obtain ⟨b2, hb2⟩ : ∃ b, (decide (0 ≤ bd) && decide (bd ≤ 4096)) = b := ⟨_, rfl⟩
  obtain ⟨b3, hb3⟩ : ∃ b, (decide (1 ≤ ar) && decide (ar ≤ 40)) = b := ⟨_, rfl⟩
  rw [hb1] at H1
  rw [hb2] at H2
  rw [hb3] at H3
  have HR : Hid ((if (30 ≤ hd ∧ hd ≤ 4096) ∧ (0 ≤ bd ∧ bd ≤ 4096) ∧ 1 ≤ ar ∧ ar ≤ 40 then (0 : Int) else 1) = if b1 && (b2 && b3) then 0 else 1) := hide (by
    rw [← hb1, ← hb2, ← hb3]
    congr 1
    simp)
  rw [unhide HR]
  clear hb1 hb2 hb3 HR
  obtain ⟨z0, z1, z2⟩ := three_newF w (.int .i64 hd) (.int .i64 bd) (.int .i64 ar) 34
  have bb := hide ((Below.refl w.heap.size w).alloc (Nat.le_refl _) (.cells #[.int .i64 hd, .int .i64 bd, .int .i64 ar] 34))
  obtain ⟨W0, hW0⟩ : ∃ W, w.alloc (.cells #[.int .i64 hd, .int .i64 bd, .int .i64 ar] 34) = W := ⟨_, rfl⟩
  rw [hW0] at z0 z1 z2 bb
  cases b1
  · go_enter Tryz.func17, Tryz.ntmps17
    go_wp2_with fail
    clear hW0
    refine ((unhide H1) W0).mono ?_; rintro e w1 ⟨rfl, rfl⟩
    go_wp2_with fail
    go_ret
    exact ⟨rfl, unhide bb⟩
  cases b2
  · go_enter Tryz.func17, Tryz.ntmps17
    go_wp2_with fail
    clear hW0
    refine ((unhide H1) W0).mono ?_; rintro e w1 ⟨rfl, rfl⟩
    go_wp2_with fail
    refine ((unhide H2) _).mono ?_; rintro e w1 ⟨rfl, rfl⟩
    go_wp2_with fail
    go_ret
    exact ⟨rfl, unhide bb⟩
  go_enter Tryz.func17, Tryz.ntmps17
  go_wp2_with fail
  clear hW0
  refine ((unhide H1) W0).mono ?_; rintro e w1 ⟨rfl, rfl⟩
  go_wp2_with fail
  refine ((unhide H2) _).mono ?_; rintro e w1 ⟨rfl, rfl⟩
  go_wp2_with fail
  refine ((unhide H3) _).mono ?_; rintro e w1 ⟨rfl, rfl⟩
  cases b3
  · go_wp2_with fail
    go_ret
    exact ⟨rfl, unhide bb⟩
  · go_wp2_with fail
    go_ret
    exact ⟨rfl, unhide bb⟩
namespace On
/-- how many bytes the head has, or what is wrong -/
def sizeP (hd : Nat) (s : L8) : Int × Int := if endAt hd s = -1 then (0, if hd ≤ s.length then 5 else 7) else (endAt hd s + 4, 0)
end On
theorem headSize_any (s : ByteArray) (hd : Nat) (m : Int) (w : World) (h4 : hd ≤ 4096) (hs : s.size ≤ 1073741824) (hm : MH m w) (o : Int × Int) (ho : On.sizeP hd s.data.toList = o) :
    Calls Tryz.prog 28 #[.string s, .int .i64 (hd : Int)] w fun e w' => e = .returned (.tuple #[.int .i64 o.1, .int .i64 o.2]) ∧ w' = w := by
  obtain ⟨k, hk⟩ : ∃ k, min s.size hd = k := ⟨_, rfl⟩
  have hmn : min (s.size : Int) (hd : Int) = (k : Int) := by omega
  have hks : (k : Int) ≤ s.size := by omega
  have hIX := Tryz.strings_Index (s.extract 0 k) ⟨#[13, 10, 13, 10]⟩ m w (by simp; omega) hm
  have hl : (s.extract 0 k).data.toList = s.data.toList.take hd := by
    rw [take_data]
    rcases Nat.le_total s.size hd with h | h
    · rw [show k = s.size by omega, List.take_of_length_le (by rw [len_data]; omega), List.take_of_length_le (by rw [len_data]; omega)]
    · rw [show k = hd by omega]
  rw [hl] at hIX
  unfold On.sizeP at ho
  rw [len_data] at ho
  have hec := On.end_cases hd s.data.toList
  unfold On.endAt at ho hec
  rw [show On.he = (⟨#[13, 10, 13, 10]⟩ : ByteArray).data.toList from rfl] at ho hec
  obtain ⟨z, hz⟩ : ∃ z, Lib.index (s.data.toList.take hd) (⟨#[13, 10, 13, 10]⟩ : ByteArray).data.toList = z := ⟨_, rfl⟩
  rw [hz] at hIX ho hec
  have HI := hide hIX
  have hzz : z = -1 ∨ (0 ≤ z ∧ z ≤ 4096) := by
    rcases hec with h | ⟨i, h, h2, _⟩
    · exact .inl h
    · exact .inr (by omega)
  clear hec hz hIX hl hk hm
  rcases hzz with rfl | hzz
  · rw [if_pos rfl] at ho
    by_cases hlt : hd ≤ s.size
    · rw [if_pos hlt] at ho
      subst ho
      have hlt' : (hd : Int) ≤ s.size := by omega
      go_enter Tryz.func28, Tryz.ntmps28
      go_wp2_with fail
      refine (unhide HI).mono ?_; rintro e w1 ⟨rfl, rfl⟩
      go_wp2_with fail
      go_ret2
      exact ⟨rfl, rfl⟩
    · rw [if_neg hlt] at ho
      subst ho
      have hlt' : ¬ (hd : Int) ≤ s.size := by omega
      go_enter Tryz.func28, Tryz.ntmps28
      go_wp2_with fail
      refine (unhide HI).mono ?_; rintro e w1 ⟨rfl, rfl⟩
      go_wp2_with fail
      go_ret2
      exact ⟨rfl, rfl⟩
  · rw [if_neg (by omega)] at ho
    subst ho
    obtain ⟨hz0, hz1⟩ := hzz
    go_enter Tryz.func28, Tryz.ntmps28
    go_wp2_with fail
    refine (unhide HI).mono ?_; rintro e w1 ⟨rfl, rfl⟩
    go_wp2_with fail
    go_ret2
    exact ⟨rfl, rfl⟩
theorem readLength_any (s : ByteArray) (sz bd : Int) (w : World) (hs : s.size ≤ 1073741824) (h0 : 0 ≤ sz) (o : List UInt8 × Int × Int) (ho : Cu.tell (On.body bd s.data.toList 2 sz) = o) :
    Calls Tryz.prog 30 #[.string s, .int .i64 sz, .int .i64 bd] w fun e w' => e = .returned (.tuple #[.string (mk o.1), .int .i64 o.2.1, .int .i64 o.2.2]) ∧ Below w.heap.size w w' := by
  unfold On.body at ho
  rw [if_pos rfl, len_data] at ho
  by_cases h1 : bd < sz
  · rw [if_pos h1] at ho
    subst ho
    go_enter Tryz.func30, Tryz.ntmps30
    go_wp2_with fail
    go_ret3
    exact ⟨rfl, Below.refl _ _⟩
  rw [if_neg h1] at ho
  by_cases h2 : (s.size : Int) < sz
  · rw [if_pos h2] at ho
    subst ho
    go_enter Tryz.func30, Tryz.ntmps30
    go_wp2_with fail
    go_ret3
    exact ⟨rfl, Below.refl _ _⟩
  rw [if_neg h2] at ho
  subst ho
  obtain ⟨k, rfl⟩ : ∃ k : Nat, sz = k := ⟨sz.toNat, by omega⟩
  have HC := hide (fun W => clone_any (s.extract 0 k) W (by simp; omega))
  have hk : mk (s.data.toList.take k) = s.extract 0 k := by apply eq_of_lists; rw [take_data]; simp [mk]
  dsimp only [Cu.tell]
  rw [Int.toNat_natCast, hk]
  have hks : (k : Int) ≤ s.size := by omega
  go_enter Tryz.func30, Tryz.ntmps30
  go_wp2_with fail
  refine ((unhide HC) w).mono ?_; rintro e w1 ⟨rfl, b1⟩
  go_wp2_with fail
  go_ret3
  exact ⟨rfl, b1⟩
end Go.Proofs.YtmgealcolofomaaGreatDoor

/- Walks: a body, a head and its body's size (the program's). -/
namespace Go.Proofs.YtmgealcolofomaaGreatDoor
open Go.RowKit Kb
set_option linter.unusedVariables false
set_option maxRecDepth 20000
open Mh (Fl)

theorem readBody_any (s : ByteArray) (k sz bd : Int) (w : World) (hs : s.size ≤ 1073741824) (h0 : k = 2 → 0 ≤ sz) (hb : 0 ≤ bd ∧ bd ≤ 4096) (o : List UInt8 × Int × Int) (ho : Cu.tell (On.body bd s.data.toList k sz) = o) :
    Calls Tryz.prog 19 #[.string s, .agg #[.int .i64 k, .int .i64 sz], .int .i64 bd] w fun e w' => e = .returned (.tuple #[.string (mk o.1), .int .i64 o.2.1, .int .i64 o.2.2]) ∧ Below w.heap.size w w' := by
  have HL := hide (fun (h : k = 2) W => readLength_any s sz bd W hs (h0 h) o (by rw [← h]; exact ho))
  have HC := hide (fun (h : Cu.tell (Cu.chunks bd s.data.toList) = o) W => chunks_any s bd W (by omega) (by omega) o h)
  have K := BX.new (base := w.heap.size) w (Nat.le_refl _) k sz
  have bb := hide ((Below.refl w.heap.size w).alloc (Nat.le_refl _) (.cells #[.int .i64 k, .int .i64 sz] 47))
  obtain ⟨W0, hW0⟩ : ∃ W, w.alloc (.cells #[.int .i64 k, .int .i64 sz] 47) = W := ⟨_, rfl⟩
  rw [hW0] at K bb
  obtain ⟨k0, k1⟩ := K.cells
  clear K
  unfold On.body at ho
  by_cases h2 : k = 2
  · have HL2 := hide ((unhide HL) h2)
    subst h2
    clear HL HC ho
    go_enter Tryz.func19, Tryz.ntmps19
    go_wp2_with fail
    clear hW0
    refine ((unhide HL2) W0).mono ?_; rintro e w1 ⟨rfl, b1⟩
    go_wp2_with fail
    go_ret3
    exact ⟨rfl, bel_trans (unhide bb) b1⟩
  rw [if_neg h2] at ho
  have hk : (k == 2) = false := by simpa using h2
  by_cases h3 : k = 3
  · rw [if_pos h3] at ho
    have HC2 := hide ((unhide HC) ho)
    subst h3
    clear HL HC ho hk h2 h0
    go_enter Tryz.func19, Tryz.ntmps19
    go_wp2_with fail
    clear hW0
    refine ((unhide HC2) W0).mono ?_; rintro e w1 ⟨rfl, b1⟩
    go_wp2_with fail
    go_ret3
    exact ⟨rfl, bel_trans (unhide bb) b1⟩
  rw [if_neg h3] at ho
  have hk3 : (k == 3) = false := by simpa using h3
  subst ho
  go_enter Tryz.func19, Tryz.ntmps19
  go_wp2_with fail
  go_ret3
  exact ⟨rfl, unhide bb⟩
/-- a head's variable and a body's, one behind the other -/
structure HB2 (N : Nat) (w : World) (W : World) : Prop where
  hx : ∃ a b v, HX W N N a b v
  bx : ∃ x y, BX W N (N + 1) x y
  size : w.heap.size = N
  bel : Below N w W
theorem HB2.new (w : World) : HB2 w.heap.size w ((w.alloc (.cells #[.string ⟨#[]⟩, .string ⟨#[]⟩, .slice none 0 0] 24)).alloc (.cells #[.int .i64 0, .int .i64 0] 47)) := by
  have b1 := (Below.refl w.heap.size w).alloc (Nat.le_refl _) (.cells #[.string ⟨#[]⟩, .string ⟨#[]⟩, .slice none 0 0] 24)
  have X := HX.new (base := w.heap.size) w (Nat.le_refl _) ⟨#[]⟩ ⟨#[]⟩ none 0 0
  obtain ⟨W1, hW1⟩ : ∃ W, w.alloc (.cells #[.string ⟨#[]⟩, .string ⟨#[]⟩, .slice none 0 0] 24) = W := ⟨_, rfl⟩
  have hs : W1.heap.size = w.heap.size + 1 := by rw [← hW1]; simp
  rw [hW1] at b1 X ⊢
  have b2 : Below W1.heap.size W1 _ := (Below.refl _ W1).alloc (Nat.le_refl _) (.cells #[.int .i64 0, .int .i64 0] 47)
  have Y := BX.new (base := w.heap.size) W1 (by omega) 0 0
  rw [hs] at Y
  exact ⟨⟨_, _, _, X.below b2⟩, ⟨_, _, Y⟩, rfl, bel_trans b1 b2⟩
theorem HB2.below {N : Nat} {w W W' : World} (h : HB2 N w W) (b : Below W.heap.size W W') : HB2 N w W' := by
  obtain ⟨⟨a, b', v, hx⟩, ⟨x, y, hy⟩, hs, hb⟩ := h
  exact ⟨⟨a, b', v, hx.below b⟩, ⟨x, y, hy.below b⟩, hs, by rw [← hs] at hb ⊢; exact bel_trans hb b⟩
theorem HB2.frozen {N : Nat} {w W : World} (h : HB2 N w W) : (W.frozen? ⟨N, 0, none⟩ = false ∧ W.frozen? ⟨N, 1, none⟩ = false ∧ W.frozen? ⟨N, 2, none⟩ = false) ∧ W.frozen? ⟨N + 1, 0, none⟩ = false ∧ W.frozen? ⟨N + 1, 1, none⟩ = false := by
  obtain ⟨⟨a, b', v, hx⟩, ⟨x, y, hy⟩, hs, hb⟩ := h
  exact ⟨hx.frozen, hy.frozen⟩
theorem HB2.cells {N : Nat} {w W : World} (h : HB2 N w W) : ∃ (a b : ByteArray) (v : Value) (x y : Int), (W.cell? ⟨N, 0, none⟩ = some (.string a) ∧ W.cell? ⟨N, 1, none⟩ = some (.string b) ∧ W.cell? ⟨N, 2, none⟩ = some v) ∧ W.cell? ⟨N + 1, 0, none⟩ = some (.int .i64 x) ∧ W.cell? ⟨N + 1, 1, none⟩ = some (.int .i64 y) := by
  obtain ⟨⟨a, b', v, hx⟩, ⟨x, y, hy⟩, hs, hb⟩ := h
  exact ⟨a, b', v, x, y, hx.cells, hy.cells⟩
theorem HB2.put {N : Nat} {w W : World} (h : HB2 N w W) (a b : ByteArray) (o : Option Addr) (n c : Nat) (x y : Int) :
    (loadVar 24 ⟨N, 0, none⟩).run Tryz.prog (putB (putH W N a b (.slice o n c)) (N + 1) x y) = .ok (.agg #[.string a, .string b, .slice o n c]) (putB (putH W N a b (.slice o n c)) (N + 1) x y)
    ∧ (loadVar 47 ⟨N + 1, 0, none⟩).run Tryz.prog (putB (putH W N a b (.slice o n c)) (N + 1) x y) = .ok (.agg #[.int .i64 x, .int .i64 y]) (putB (putH W N a b (.slice o n c)) (N + 1) x y)
    ∧ Below N w (putB (putH W N a b (.slice o n c)) (N + 1) x y)
    ∧ (∀ (B sz' : Nat) (t : TypeId) (v : Value) (l : List Value) (n' : Nat), N + 2 ≤ B → W.ownsRow B t sz' v n' l → (putB (putH W N a b (.slice o n c)) (N + 1) x y).ownsRow B t sz' v n' l)
    ∧ HB2 N w (putB (putH W N a b (.slice o n c)) (N + 1) x y)
    ∧ (loadVar 24 ⟨N, 0, none⟩).run Tryz.prog (putB (putH W N a b (.slice o n c)) (N + 1) x y).drew = .ok (.agg #[.string a, .string b, .slice o n c]) (putB (putH W N a b (.slice o n c)) (N + 1) x y).drew
    ∧ (loadVar 47 ⟨N + 1, 0, none⟩).run Tryz.prog (putB (putH W N a b (.slice o n c)) (N + 1) x y).drew = .ok (.agg #[.int .i64 x, .int .i64 y]) (putB (putH W N a b (.slice o n c)) (N + 1) x y).drew := by
  obtain ⟨⟨a', b', v', hx⟩, ⟨x', y', hy⟩, hs, hb⟩ := h
  obtain ⟨p1, g1⟩ := hx.put a b (.slice o n c) rfl
  have hy1 := hy.kept g1 (by intro e; have := Option.some.inj e; omega)
  obtain ⟨p2, g2⟩ := hy1.put x y
  have p1' := p1.kept g2 (by intro e; have := Option.some.inj e; omega)
  have bl : Below N w (putB (putH W N a b (.slice o n c)) (N + 1) x y) := (hb.grown g1 (by rw [← hs]; exact hb.size) (fun q hq => by have := Option.some.inj hq; omega)).grown g2 (by have h1 := hb.size; have h2 := g1.size; omega) (fun q hq => by have := Option.some.inj hq; omega)
  refine ⟨p1'.load, hy1.loaded x y, bl, ?_, ⟨⟨_, _, _, p1'⟩, ⟨_, _, p2⟩, hs, bl⟩, (p1'.below (Below.refl _ _).drew).load, (p2.below (Below.refl _ _).drew).load⟩
  intro B sz' t v l n' hB ho
  have o1 := ho.kept g1 (.inr (fun e => by have := (ho.lt _ e).1; omega))
  exact o1.kept g2 (.inr (fun e => by have := (o1.lt _ e).1; omega))
namespace On
/-- how a head is told -/
def tellH : Except Int ((L8 × L8 × List Fl) × (Int × Int) × Nat) → (L8 × L8 × List Fl) × (Int × Int) × Int × Int
  | .error e => (([], [], []), (0, 0), 0, e)
  | .ok (h, z, n) => (h, z, n, 0)
end On
set_option maxHeartbeats 4000000 in
theorem readHead_any (s : ByteArray) (hd : Nat) (m : Int) (w : World) (h4 : hd ≤ 4096) (hs : s.size ≤ 16777216) (hm : MH m w) (o : (List UInt8 × List UInt8 × List Fl) × (Int × Int) × Int × Int) (ho : On.tellH (On.headP hd s.data.toList) = o) :
    Calls Tryz.prog 18 #[.string s, .int .i64 (hd : Int)] w fun e w' => ∃ v, e = .returned (.tuple #[.agg #[.string (mk o.1.1), .string (mk o.1.2.1), v], .agg #[.int .i64 o.2.1.1, .int .i64 o.2.1.2], .int .i64 o.2.2.1, .int .i64 o.2.2.2]) ∧ w'.ownsRow w.heap.size 39 2 v o.1.2.2.length (cellsF o.1.2.2) ∧ Below w.heap.size w w' := by
  have HS := hide (fun W (hW : MH m W) => headSize_any s hd m W h4 (by omega) hW _ rfl)
  have H0 := hide (HB2.new w)
  obtain ⟨W0, hW0⟩ : ∃ W, (w.alloc (.cells #[.string ⟨#[]⟩, .string ⟨#[]⟩, .slice none 0 0] 24)).alloc (.cells #[.int .i64 0, .int .i64 0] 47) = W := ⟨_, rfl⟩
  rw [hW0] at H0
  have HM0 := hide (hm.below (unhide H0).bel)
  have hN : w.heap.size + 2 = W0.heap.size := by rw [← hW0]; simp
  have HZ : Hid (∀ W, HB2 w.heap.size w W → ∀ y : Int, o = (([], [], []), (0, 0), 0, y) → (putB (putH W w.heap.size ⟨#[]⟩ ⟨#[]⟩ (.slice none 0 0)) (w.heap.size + 1) 0 0).ownsRow w.heap.size 39 2 (.slice none 0 0) o.1.2.2.length (cellsF o.1.2.2) ∧ Below w.heap.size w (putB (putH W w.heap.size ⟨#[]⟩ ⟨#[]⟩ (.slice none 0 0)) (w.heap.size + 1) 0 0)) :=
    hide (fun W h y e => by
      subst e
      exact ⟨World.ownsRow_nil _ _ _ _, (h.put _ _ none 0 0 0 0).2.2.1⟩)
  clear hm
  rcases On.end_cases hd s.data.toList with hend | ⟨i, hi, hi1, hi2, hi3, hi4⟩
  · have HO : Hid (o = (([], [], []), (0, 0), 0, if hd ≤ s.size then 5 else 7)) := hide (by
      rw [← ho]; unfold On.headP; rw [if_pos hend, len_data]; rfl)
    unfold On.sizeP at HS
    rw [if_pos hend, len_data] at HS
    obtain ⟨y, hy⟩ : ∃ y : Int, (if hd ≤ s.size then (5 : Int) else 7) = y := ⟨_, rfl⟩
    have hy0 : (y != 0) = true := by rw [← hy]; split <;> rfl
    rw [hy] at HS HO
    clear hy hend ho
    obtain ⟨⟨f0, f1, f2⟩, f3, f4⟩ := (unhide H0).frozen
    obtain ⟨_, _, _, _, _, ⟨y0, y1, y2⟩, y3, y4⟩ := (unhide H0).cells
    obtain ⟨l1, l2, _, _, _, _, _⟩ := (unhide H0).put ⟨#[]⟩ ⟨#[]⟩ none 0 0 0 0
    have L1 := hide l1
    have L2 := hide l2
    have HR := hide ((unhide HZ) W0 (unhide H0) y (unhide HO))
    clear l1 l2 HZ
    go_enter Tryz.func18, Tryz.ntmps18
    go_wp2_with fail
    clear hW0
    refine ((unhide HS) W0 (unhide HM0)).mono ?_; rintro e w1 ⟨rfl, rfl⟩
    go_wp2_with fail
    (try simp only [Exit.inBlock, Exit.then])
    refine bodyPost_ret_by (v := .tuple #[.agg #[.string ⟨#[]⟩, .string ⟨#[]⟩, .slice none 0 0], .agg #[.int .i64 0, .int .i64 0], .int .i64 0, .int .i64 y]) ?_ rfl ⟨.slice none 0 0, by rw [unhide HO]; rfl, (unhide HR).1, (unhide HR).2⟩
    refine results_cctt (p := 4) (p' := 5) (u := 6) (u' := 7) (ty := 24) (ty' := 47) ?_ _ _ w.heap.size (w.heap.size + 1) _ _ ?_ (unhide L1) ?_ (unhide L2) _ ?_ _ ?_ <;> rfl
  · unfold On.sizeP at HS
    rw [if_neg (by omega), hi] at HS
    unfold On.headP at ho
    rw [if_neg (by omega), hi, Int.toNat_natCast] at ho
    obtain ⟨n, hn⟩ : ∃ n, i + 4 = n := ⟨_, rfl⟩
    have hn2 : (i : Int) + 4 = (n : Int) := by omega
    rw [len_data] at hi2
    have hns : (n : Int) ≤ s.size := by omega
    rw [hn] at ho
    rw [hn2] at HS
    obtain ⟨⟨a, b, fs, z⟩, hp⟩ : ∃ p, Mh.parse (s.data.toList.take n) = p := ⟨_, rfl⟩
    have hrb : fs.length ≤ 1048576 ∧ (z = 0 → fs.length ≤ 30 ∧ ∀ f ∈ fs, f.1.length + f.2.length ≤ 68719476736) := by
      rcases Mh.parse_cases (s.data.toList.take n) with ⟨e, he, h45⟩ | ⟨m', t', fs', h0⟩
      · rw [hp] at he
        injection he with e1 e2; injection e2 with e2 e3; injection e3 with e3 e4
        subst e3 e4
        exact ⟨by decide, fun h => by omega⟩
      · rw [hp] at h0
        injection h0 with e1 e2; injection e2 with e2 e3; injection e3 with e3 e4
        subst e1 e2 e3 e4
        have hck := (Mh.check_ok (Mh.parse_ok hp).2.2)
        exact ⟨by omega, fun _ => ⟨hck.2.2.2.1, fun f hf => by have := (Mh.fieldE_ok (hck.2.2.2.2 f hf)).2.2; omega⟩⟩
    have HP := hide (fun W (hW : MH m W) => hparse_any (s.extract 0 n) m W (by simp; omega) hW a b fs z (by rw [take_data]; exact hp))
    rw [hp] at ho
    dsimp only at ho
    have HO := hide ho
    have HRB := hide hrb
    clear hp ho hi hi1 hi2 hi3 hi4 hn hn2 hrb
    go_enter Tryz.func18, Tryz.ntmps18
    go_wp2_with fail
    clear hW0
    refine ((unhide HS) W0 (unhide HM0)).mono ?_; rintro e wx ⟨rfl, rfl⟩
    go_wp2_with fail
    refine ((unhide HP) _ (unhide HM0)).mono ?_; rintro e w1 ⟨v, rfl, own1, b1⟩
    obtain ⟨vo, vc, rfl⟩ := own_forms own1
    have H1 := hide ((unhide H0).below b1)
    have O1 := hide own1
    have hs1 := b1.size
    clear b1 own1 H0 HM0 HP HS
    obtain ⟨x, hx⟩ : ∃ x, mk a = x := ⟨_, rfl⟩
    obtain ⟨y, hy⟩ : ∃ y, mk b = y := ⟨_, rfl⟩
    have HXY : Hid (mk a = x ∧ mk b = y) := hide ⟨hx, hy⟩
    rw [hx, hy]
    clear hx hy
    have Y := HX.new (base := w1.heap.size) w1 (Nat.le_refl _) x y vo fs.length vc
    have bb := (Below.refl w1.heap.size w1).alloc (Nat.le_refl _) (.cells #[.string x, .string y, .slice vo fs.length vc] 24)
    obtain ⟨g4, hg4⟩ : ∃ g, w1.heap.size = g := ⟨_, rfl⟩
    obtain ⟨W2, hW2⟩ : ∃ W, w1.alloc (.cells #[.string x, .string y, .slice vo fs.length vc] 24) = W := ⟨_, rfl⟩
    have H2 := hide ((unhide H1).below bb)
    have O2 := hide (own_below (unhide O1) bb)
    rw [hW2] at Y bb H2 O2
    rw [hg4] at Y
    have hN2 : w.heap.size + 2 ≤ g4 := by omega
    have hs2 := bb.size
    clear bb H1 O1
    have Y2 := hide Y
    clear Y
    obtain ⟨⟨f0, f1, f2⟩, f3, f4⟩ := (unhide H2).frozen
    obtain ⟨_, _, _, _, _, ⟨y0, y1, y2⟩, y3, y4⟩ := (unhide H2).cells
    by_cases h0 : z = 0
    · obtain ⟨⟨k, sz, e3⟩, hz⟩ : ∃ r, Cu.sizeOf fs = r := ⟨_, rfl⟩
      have HF := hide (fun W (bW : Below W2.heap.size W2 W) => of_any a b (.slice vo fs.length vc) fs W (Flds.own (own_below (unhide O2) bW) (by have := (unhide HRB).1; omega)) ((unhide HRB).2 h0).2 (by have := ((unhide HRB).2 h0).1; omega) _ hz)
      unfold headV at HF
      rw [(unhide HXY).1, (unhide HXY).2] at HF
      dsimp only at HF
      have HO2 : Hid (On.tellH (if e3 ≠ 0 then .error e3 else .ok ((a, b, fs), (k, sz), n)) = o) := hide (by
        have := unhide HO
        rw [if_neg (by simpa using h0), hz] at this
        exact this)
      obtain ⟨v0, v1, v2⟩ := (unhide Y2).cells
      have hz0 : (z != 0) = false := by simpa using h0
      have hl4 := (unhide Y2).lt.2
      clear HO HRB hz h0
      go_wp2_with fail
      clear hW2 hg4
      refine ((unhide HF) W2 (Below.refl _ _)).mono ?_; rintro e w3 ⟨rfl, b3⟩
      have H3 := hide ((unhide H2).below b3)
      have O3 := hide (own_below (unhide O2) b3)
      have Y3 := hide ((unhide Y2).below b3)
      have hs3 := b3.size
      clear b3 H2 O2 HF Y2 v0 v1 v2
      have K := BX.new (base := w3.heap.size) w3 (Nat.le_refl _) k sz
      have bb := (Below.refl w3.heap.size w3).alloc (Nat.le_refl _) (.cells #[.int .i64 k, .int .i64 sz] 47)
      obtain ⟨g5, hg5⟩ : ∃ g, w3.heap.size = g := ⟨_, rfl⟩
      obtain ⟨W4, hW4⟩ : ∃ W, w3.alloc (.cells #[.int .i64 k, .int .i64 sz] 47) = W := ⟨_, rfl⟩
      have H4 := hide ((unhide H3).below bb)
      have O4 := hide (own_below (unhide O3) bb)
      have Y4 := hide ((unhide Y3).below bb)
      rw [hW4] at K bb H4 O4 Y4
      rw [hg5] at K
      have K4 := hide K
      clear K bb H3 O3 Y3 f0 f1 f2 f3 f4 y0 y1 y2 y3 y4
      obtain ⟨⟨f0, f1, f2⟩, f3, f4⟩ := (unhide H4).frozen
      obtain ⟨_, _, _, _, _, ⟨y0, y1, y2⟩, y3, y4⟩ := (unhide H4).cells
      obtain ⟨v0, v1, v2⟩ := (unhide Y4).cells
      obtain ⟨k0, k1⟩ := (unhide K4).cells
      by_cases he : e3 = 0
      · have hb0 : (e3 != 0) = false := by simpa using he
        have HEE : Hid (o = ((a, b, fs), (k, sz), (n : Int), 0)) := hide (by
          have := unhide HO2; rw [if_neg (by simpa using he)] at this; exact this.symm)
        obtain ⟨_, _, hb, ho, _, l1, l2⟩ := (unhide H4).put x y vo fs.length vc k sz
        have L1 := hide l1
        have L2 := hide l2
        have HB := hide hb.drew
        have HR := hide (own_mono2 (own_below (ho _ _ _ _ _ _ (by omega) (unhide O4)) (Below.refl _ _).drew) (show w.heap.size ≤ wx.heap.size by omega))
        clear l1 l2 hb ho HO2 HZ
        go_wp2_with fail
        go_region
        go_wp2_with fail
        (try simp only [Exit.inBlock, Exit.then])
        refine bodyPost_ret_by (v := .tuple #[.agg #[.string x, .string y, .slice vo fs.length vc], .agg #[.int .i64 k, .int .i64 sz], .int .i64 n, .int .i64 0]) ?_ rfl ⟨.slice vo fs.length vc, by rw [unhide HEE, ← (unhide HXY).1, ← (unhide HXY).2], by rw [unhide HEE]; exact unhide HR, unhide HB⟩
        refine results_cctt (p := 4) (p' := 5) (u := 6) (u' := 7) (ty := 24) (ty' := 47) ?_ _ _ w.heap.size (w.heap.size + 1) _ _ ?_ (unhide L1) ?_ (unhide L2) _ ?_ _ ?_ <;> rfl
      · have hb0 : (e3 != 0) = true := by simpa using he
        have HEE : Hid (o = (([], [], []), (0, 0), 0, e3)) := hide (by
          have := unhide HO2; rw [if_pos he] at this; exact this.symm)
        obtain ⟨l1, l2, _, _, _, _, _⟩ := (unhide H4).put ⟨#[]⟩ ⟨#[]⟩ none 0 0 0 0
        have L1 := hide l1
        have L2 := hide l2
        have HR := hide ((unhide HZ) W4 (unhide H4) e3 (unhide HEE))
        clear l1 l2 HZ HO2
        go_wp2_with fail
        (try simp only [Exit.inBlock, Exit.then])
        refine bodyPost_ret_by (v := .tuple #[.agg #[.string ⟨#[]⟩, .string ⟨#[]⟩, .slice none 0 0], .agg #[.int .i64 0, .int .i64 0], .int .i64 0, .int .i64 e3]) ?_ rfl ⟨.slice none 0 0, by rw [unhide HEE]; rfl, (unhide HR).1, (unhide HR).2⟩
        refine results_cctt (p := 4) (p' := 5) (u := 6) (u' := 7) (ty := 24) (ty' := 47) ?_ _ _ w.heap.size (w.heap.size + 1) _ _ ?_ (unhide L1) ?_ (unhide L2) _ ?_ _ ?_ <;> rfl
    · have hz0 : (z != 0) = true := by simpa using h0
      have HEE : Hid (o = (([], [], []), (0, 0), 0, z)) := hide (by
        have := unhide HO; rw [if_pos h0] at this; exact this.symm)
      obtain ⟨l1, l2, _, _, _, _, _⟩ := (unhide H2).put ⟨#[]⟩ ⟨#[]⟩ none 0 0 0 0
      have L1 := hide l1
      have L2 := hide l2
      have HR := hide ((unhide HZ) W2 (unhide H2) z (unhide HEE))
      clear l1 l2 HZ HO HRB
      go_wp2_with fail
      (try simp only [Exit.inBlock, Exit.then])
      refine bodyPost_ret_by (v := .tuple #[.agg #[.string ⟨#[]⟩, .string ⟨#[]⟩, .slice none 0 0], .agg #[.int .i64 0, .int .i64 0], .int .i64 0, .int .i64 z]) ?_ rfl ⟨.slice none 0 0, by rw [unhide HEE]; rfl, (unhide HR).1, (unhide HR).2⟩
      refine results_cctt (p := 4) (p' := 5) (u := 6) (u' := 7) (ty := 24) (ty' := 47) ?_ _ _ w.heap.size (w.heap.size + 1) _ _ ?_ (unhide L1) ?_ (unhide L2) _ ?_ _ ?_ <;> rfl
end Go.Proofs.YtmgealcolofomaaGreatDoor

namespace Go.Proofs.YtmgealcolofomaaGreatDoor
open Go.RowKit Kb
set_option linter.unusedVariables false
set_option maxRecDepth 20000
open Mh (Fl)
namespace On
/-- how a request is told -/
def tellQ : Except Int (Rq × Nat) → Rq × Int × Int
  | .error e => (([], [], [], []), 0, e)
  | .ok (q, n) => (q, n, 0)
/-- Check first -/
def oneB (hd bd ar : Int) (s : L8) : Except Int (Rq × Nat) := if bnd hd bd ar ≠ 0 then .error (bnd hd bd ar) else one hd.toNat bd s
theorem bnd_ok {hd bd ar : Int} (h : bnd hd bd ar = 0) : (30 ≤ hd ∧ hd ≤ 4096) ∧ (0 ≤ bd ∧ bd ≤ 4096) ∧ 1 ≤ ar ∧ ar ≤ 40 := by
  unfold bnd at h
  split at h
  · assumption
  · cases h
theorem one_len {hd : Nat} {bd : Int} {s : L8} {a b t : L8} {fs : List Fl} {n z : Int} (h : tellQ (one hd bd s) = ((a, b, fs, t), n, z)) : fs.length ≤ 4398046511104 := by
  rcases ho : one hd bd s with e | ⟨q, k⟩
  · rw [ho] at h
    dsimp only [tellQ] at h
    injection h with e1 e2; injection e1 with e1 e3; injection e3 with e3 e4; injection e4 with e4 e5
    rw [← e4]; decide
  · rw [ho] at h
    dsimp only [tellQ] at h
    injection h with e1 e2
    unfold one at ho
    rcases hp : headP hd s with e | ⟨⟨a', b', fs'⟩, z', m⟩
    · rw [hp] at ho; cases ho
    · rw [hp] at ho
      obtain ⟨i, _, _, _, _, hpa, _⟩ := headP_ok hp
      have hck := (Mh.check_ok (Mh.parse_ok hpa).2.2).2.2.2.1
      dsimp only at ho hck
      split at ho
      · cases ho
      · cases ho
        injection e1 with e1 e3; injection e3 with e3 e4; injection e4 with e4 e5
        rw [← e4]; omega
theorem ans_ge (l : L8) : 0 ≤ (Num.ans 10 9 l).1 := by
  unfold Num.ans
  split
  · exact Int.le_refl _
  · split
    · exact Int.le_refl _
    · rename_i n h
      exact (Num.num_bd 10 (by omega) (by omega) l.length _ _ rfl h).1
theorem sz_ge (fs : List Fl) : (Cu.sizeOf fs).1 = 2 → 0 ≤ (Cu.sizeOf fs).2.1 := by
  intro h
  unfold Cu.sizeOf Cu.sizeE at h ⊢
  split at h
  · cases h
  rename_i h1
  rw [if_neg h1]
  split at h
  · rename_i h2
    rw [if_pos h2]
    unfold Cu.lens at h ⊢
    split at h
    · rename_i h3
      rw [if_pos h3]
      split at h
      · cases h
      · rename_i h4
        rw [if_neg h4]
        dsimp only
        exact ans_ge _
    · cases h
  rename_i h2
  rw [if_neg h2]
  split at h
  · rename_i h3
    unfold Cu.cods at h
    split at h <;> cases h
  · cases h
end On
theorem HB2.put2 {N : Nat} {w W : World} (h : HB2 N w W) (a b : ByteArray) (v : Value) (hv : v.oneCell' = true) (x y : Int) :
    HX (putB (putH W N a b v) (N + 1) x y) N N a b v ∧ BX (putB (putH W N a b v) (N + 1) x y) N (N + 1) x y ∧ Below N w (putB (putH W N a b v) (N + 1) x y) := by
  obtain ⟨⟨a', b', v', hx⟩, ⟨x', y', hy⟩, hs, hb⟩ := h
  obtain ⟨p1, g1⟩ := hx.put a b v hv
  have hy1 := hy.kept g1 (by intro e; have := Option.some.inj e; omega)
  obtain ⟨p2, g2⟩ := hy1.put x y
  have p1' := p1.kept g2 (by intro e; have := Option.some.inj e; omega)
  exact ⟨p1', p2, (hb.grown g1 (by rw [← hs]; exact hb.size) (fun q hq => by have := Option.some.inj hq; omega)).grown g2 (by have h1 := hb.size; have h2 := g1.size; omega) (fun q hq => by have := Option.some.inj hq; omega)⟩
/-- bounds in a variable, and a request's variable -/
structure QB (N : Nat) (w : World) (hd bd ar : Int) (W : World) : Prop where
  bx : W.cell? ⟨N, 0, none⟩ = some (.int .i64 hd) ∧ W.cell? ⟨N, 1, none⟩ = some (.int .i64 bd) ∧ W.cell? ⟨N, 2, none⟩ = some (.int .i64 ar)
  qx : ∃ a b v d, QX W N (N + 1) a b v d
  size : w.heap.size = N
  bel : Below N w W
theorem QB.new (w : World) (hd bd ar : Int) : QB w.heap.size w hd bd ar ((w.alloc (.cells #[.int .i64 hd, .int .i64 bd, .int .i64 ar] 34)).alloc (.cells #[.string ⟨#[]⟩, .string ⟨#[]⟩, .slice none 0 0, .string ⟨#[]⟩] 26)) := by
  obtain ⟨z0, z1, z2⟩ := three_newF w (.int .i64 hd) (.int .i64 bd) (.int .i64 ar) 34
  have b1 := (Below.refl w.heap.size w).alloc (Nat.le_refl _) (.cells #[.int .i64 hd, .int .i64 bd, .int .i64 ar] 34)
  obtain ⟨W1, hW1⟩ : ∃ W, w.alloc (.cells #[.int .i64 hd, .int .i64 bd, .int .i64 ar] 34) = W := ⟨_, rfl⟩
  have hs : W1.heap.size = w.heap.size + 1 := by rw [← hW1]; simp
  rw [hW1] at b1 z0 z1 z2 ⊢
  have b2 : Below W1.heap.size W1 _ := (Below.refl _ W1).alloc (Nat.le_refl _) (.cells #[.string ⟨#[]⟩, .string ⟨#[]⟩, .slice none 0 0, .string ⟨#[]⟩] 26)
  have Y := QX.new (base := w.heap.size) W1 (by omega) ⟨#[]⟩ ⟨#[]⟩ none 0 0 ⟨#[]⟩
  rw [hs] at Y
  have hl : w.heap.size < W1.heap.size := by omega
  exact ⟨⟨cell_below z0 hl b2, cell_below z1 hl b2, cell_below z2 hl b2⟩, ⟨_, _, _, _, Y⟩, rfl, bel_trans b1 b2⟩
theorem QB.below {N : Nat} {w W W' : World} {hd bd ar : Int} (h : QB N w hd bd ar W) (b : Below W.heap.size W W') : QB N w hd bd ar W' := by
  obtain ⟨⟨h0, h1, h2⟩, ⟨a, b', v, d, hx⟩, hs, hb⟩ := h
  have hl : N < W.heap.size := by have := hx.lt.2; omega
  exact ⟨⟨cell_below h0 hl b, cell_below h1 hl b, cell_below h2 hl b⟩, ⟨a, b', v, d, hx.below b⟩, hs, by rw [← hs] at hb ⊢; exact bel_trans hb b⟩
theorem QB.frozen {N : Nat} {w W : World} {hd bd ar : Int} (h : QB N w hd bd ar W) : W.frozen? ⟨N + 1, 0, none⟩ = false ∧ W.frozen? ⟨N + 1, 1, none⟩ = false ∧ W.frozen? ⟨N + 1, 2, none⟩ = false ∧ W.frozen? ⟨N + 1, 3, none⟩ = false := by
  obtain ⟨_, ⟨a, b', v, d, hx⟩, hs, hb⟩ := h
  exact hx.frozen
theorem QB.cells {N : Nat} {w W : World} {hd bd ar : Int} (h : QB N w hd bd ar W) : ∃ (a b : ByteArray) (v : Value) (d : ByteArray), W.cell? ⟨N + 1, 0, none⟩ = some (.string a) ∧ W.cell? ⟨N + 1, 1, none⟩ = some (.string b) ∧ W.cell? ⟨N + 1, 2, none⟩ = some v ∧ W.cell? ⟨N + 1, 3, none⟩ = some (.string d) := by
  obtain ⟨_, ⟨a, b', v, d, hx⟩, hs, hb⟩ := h
  exact ⟨a, b', v, d, hx.cells⟩
theorem QB.put {N : Nat} {w W : World} {hd bd ar : Int} (h : QB N w hd bd ar W) (a b : ByteArray) (o : Option Addr) (n c : Nat) (d : ByteArray) :
    (loadVar 26 ⟨N + 1, 0, none⟩).run Tryz.prog (putQ W (N + 1) a b (.slice o n c) d) = .ok (.agg #[.string a, .string b, .slice o n c, .string d]) (putQ W (N + 1) a b (.slice o n c) d)
    ∧ Below N w (putQ W (N + 1) a b (.slice o n c) d)
    ∧ (∀ (B sz' : Nat) (t : TypeId) (v : Value) (l : List Value) (n' : Nat), N + 2 ≤ B → W.ownsRow B t sz' v n' l → (putQ W (N + 1) a b (.slice o n c) d).ownsRow B t sz' v n' l) := by
  obtain ⟨_, ⟨a', b', v', d', hx⟩, hs, hb⟩ := h
  obtain ⟨p1, g1⟩ := hx.put a b (.slice o n c) d
  refine ⟨p1.load, hb.grown g1 (by rw [← hs]; exact hb.size) (fun q hq => by have := Option.some.inj hq; omega), ?_⟩
  intro B sz' t v l n' hB ho
  exact ho.kept g1 (.inr (fun e => by have := (ho.lt _ e).1; omega))
set_option maxHeartbeats 4000000 in
theorem one_any (s : ByteArray) (hd bd ar : Int) (m : Int) (w : World) (hs : s.size ≤ 16777216) (hm : MH m w) (o : On.Rq × Int × Int) (ho : On.tellQ (On.oneB hd bd ar s.data.toList) = o) :
    Calls Tryz.prog 7 #[.string s, bndV hd bd ar] w fun e w' => ∃ v, e = .returned (.tuple #[.agg #[.string (mk o.1.1), .string (mk o.1.2.1), v, .string (mk o.1.2.2.2)], .int .i64 o.2.1, .int .i64 o.2.2]) ∧ w'.ownsRow w.heap.size 39 2 v o.1.2.2.1.length (cellsF o.1.2.2.1) ∧ Below w.heap.size w w' := by
  have HC := hide (fun W => check1_any hd bd ar W)
  unfold bndV at HC ⊢
  have H0 := hide (QB.new w hd bd ar)
  obtain ⟨W0, hW0⟩ : ∃ W, (w.alloc (.cells #[.int .i64 hd, .int .i64 bd, .int .i64 ar] 34)).alloc (.cells #[.string ⟨#[]⟩, .string ⟨#[]⟩, .slice none 0 0, .string ⟨#[]⟩] 26) = W := ⟨_, rfl⟩
  rw [hW0] at H0
  have HM0 := hide (hm.below (unhide H0).bel)
  have hN : w.heap.size + 2 = W0.heap.size := by rw [← hW0]; simp
  have HZ : Hid (∀ W, QB w.heap.size w hd bd ar W → ∀ y : Int, o = (([], [], [], []), 0, y) → (loadVar 26 ⟨w.heap.size + 1, 0, none⟩).run Tryz.prog (putQ W (w.heap.size + 1) ⟨#[]⟩ ⟨#[]⟩ (.slice none 0 0) ⟨#[]⟩) = .ok (.agg #[.string ⟨#[]⟩, .string ⟨#[]⟩, .slice none 0 0, .string ⟨#[]⟩]) (putQ W (w.heap.size + 1) ⟨#[]⟩ ⟨#[]⟩ (.slice none 0 0) ⟨#[]⟩) ∧ (putQ W (w.heap.size + 1) ⟨#[]⟩ ⟨#[]⟩ (.slice none 0 0) ⟨#[]⟩).ownsRow w.heap.size 39 2 (.slice none 0 0) o.1.2.2.1.length (cellsF o.1.2.2.1) ∧ Below w.heap.size w (putQ W (w.heap.size + 1) ⟨#[]⟩ ⟨#[]⟩ (.slice none 0 0) ⟨#[]⟩)) :=
    hide (fun W h y e => by
      subst e
      exact ⟨(h.put _ _ none 0 0 _).1, World.ownsRow_nil _ _ _ _, (h.put _ _ none 0 0 _).2.1⟩)
  clear hm
  obtain ⟨z0, z1, z2⟩ := (unhide H0).bx
  by_cases hb : On.bnd hd bd ar = 0
  · obtain ⟨⟨h30, h4⟩, ⟨hb0, hb1⟩, _⟩ := On.bnd_ok hb
    unfold On.oneB at ho
    rw [if_neg (by simpa using hb)] at ho
    rw [hb] at HC
    obtain ⟨hn, rfl⟩ : ∃ n : Nat, hd = n := ⟨hd.toNat, by omega⟩
    rw [Int.toNat_natCast] at ho
    unfold On.one at ho
    have HH := hide (fun W (hW : MH m W) => readHead_any s hn m W (by omega) hs hW _ rfl)
    clear hb
    rcases hp : On.headP hn s.data.toList with e1 | ⟨⟨a, b, fs⟩, ⟨k, sz⟩, n⟩
    · rw [hp] at ho HH
      have he1 : (e1 != 0) = true := by
        have : On.one hn bd s.data.toList = .error e1 := by unfold On.one; rw [hp]
        have := On.one_errs this
        have h0 : e1 ≠ 0 := by omega
        simpa using h0
      dsimp only [On.tellH] at HH
      have HO := hide ho.symm
      clear hp ho
      go_enter Tryz.func7, Tryz.ntmps7
      go_wp2_with fail
      clear hW0
      refine ((unhide HC) W0).mono ?_; rintro e w1 ⟨rfl, b1⟩
      have H1 := hide ((unhide H0).below b1)
      have HM1 := hide ((unhide HM0).below b1)
      obtain ⟨x0, x1, x2⟩ := (unhide H1).bx
      clear b1 H0 HM0 HC z0 z1 z2
      go_wp2_with fail
      refine ((unhide HH) w1 (unhide HM1)).mono ?_; rintro e w2 ⟨v, rfl, own2, b2⟩
      obtain ⟨vo, vc, rfl⟩ := own_forms own2
      have H2 := hide ((unhide H1).below b2)
      have e0 : mk [] = ByteArray.empty := rfl
      rw [e0]
      clear b2 own2 H1 HM1 HH x0 x1 x2
      have H5 := hide (HB2.new w2)
      obtain ⟨g3, hg3⟩ : ∃ g, w2.heap.size = g := ⟨_, rfl⟩
      obtain ⟨W3, hW3⟩ : ∃ W, (w2.alloc (.cells #[.string ⟨#[]⟩, .string ⟨#[]⟩, .slice none 0 0] 24)).alloc (.cells #[.int .i64 0, .int .i64 0] 47) = W := ⟨_, rfl⟩
      rw [hW3] at H5
      obtain ⟨⟨a0, a1, a2⟩, a3, a4⟩ := (unhide H5).frozen
      obtain ⟨_, _, _, _, _, ⟨a5, a6, a7⟩, a8, a9⟩ := (unhide H5).cells
      obtain ⟨X4, K4, bb⟩ := (unhide H5).put2 ByteArray.empty ByteArray.empty (.slice vo 0 vc) rfl 0 0
      obtain ⟨W4, hW4⟩ : ∃ W, putB (putH W3 w2.heap.size ByteArray.empty ByteArray.empty (.slice vo 0 vc)) (w2.heap.size + 1) 0 0 = W := ⟨_, rfl⟩
      rw [hW4] at X4 K4 bb
      unfold putB putH at hW4
      have H4 := hide ((unhide H2).below bb)
      rw [hg3] at hW4 a0 a1 a2 a3 a4 a5 a6 a7 a8 a9
      clear bb H2 H5 X4 K4
      obtain ⟨f0, f1, f2, f3⟩ := (unhide H4).frozen
      obtain ⟨_, _, _, _, y0, y1, y2, y3⟩ := (unhide H4).cells
      have HR := hide ((unhide HZ) W4 (unhide H4) e1 (unhide HO))
      clear HZ
      go_wp2_with fail
      (try simp only [Exit.inBlock, Exit.then])
      refine bodyPost_ret_by (v := .tuple #[.agg #[.string ⟨#[]⟩, .string ⟨#[]⟩, .slice none 0 0, .string ⟨#[]⟩], .int .i64 0, .int .i64 e1]) ?_ rfl ⟨.slice none 0 0, by rw [unhide HO]; rfl, (unhide HR).2.1, (unhide HR).2.2⟩
      refine results_ctt9 (p := 4) (u := 5) (u' := 6) (ty := 26) ?_ _ _ (w.heap.size + 1) _ ?_ (unhide HR).1 _ ?_ _ ?_ <;> rfl
    · rw [hp] at ho HH
      dsimp only at ho
      dsimp only [On.tellH] at HH
      obtain ⟨i, _, hni, hnh, hnl, hpa, hsz⟩ := On.headP_ok hp
      rw [len_data] at hnl
      dsimp only at hsz
      have hsg := On.sz_ge fs
      rw [hsz] at hsg
      have hns : (n : Int) ≤ s.size := by omega
      obtain ⟨r, hr⟩ : ∃ r, s.extract n s.size = r := ⟨_, rfl⟩
      have hrl : r.data.toList = s.data.toList.drop n := by rw [← hr]; exact extract_drop _ _
      have hrs : r.size ≤ 16777216 := by rw [← hr]; simp; omega
      rw [← hrl] at ho
      obtain ⟨⟨t, c, e5⟩, hq⟩ : ∃ q, Cu.tell (On.body bd r.data.toList k sz) = q := ⟨_, rfl⟩
      have HB := hide (fun W => readBody_any r k sz bd W (by omega) hsg ⟨hb0, hb1⟩ _ hq)
      have HO : Hid ((e5 ≠ 0 → o = (([], [], [], []), 0, e5)) ∧ (e5 = 0 → o = ((a, b, fs, t), (n : Int) + c, 0) ∧ 0 ≤ c ∧ c ≤ 16777216)) := hide (by
        rcases hbo : On.body bd r.data.toList k sz with e' | ⟨t', c'⟩
        · rw [hbo] at ho hq
          dsimp only [Cu.tell] at hq
          injection hq with q1 q2; injection q2 with q2 q3
          subst q1 q2 q3
          have : On.one hn bd s.data.toList = .error e' := by unfold On.one; rw [hp]; dsimp only; rw [← hrl, hbo]
          have := On.one_errs this
          exact ⟨fun _ => ho.symm, fun h => by omega⟩
        · have hle := (On.body_ok hb0 hbo).1
          rw [len_data] at hle
          rw [hbo] at ho hq
          dsimp only [Cu.tell] at hq
          injection hq with q1 q2; injection q2 with q2 q3
          subst q1 q2 q3
          refine ⟨fun h => absurd rfl h, fun _ => ⟨by rw [← ho]; dsimp only [On.tellQ]; rw [Int.natCast_add], by omega, by omega⟩⟩)
      clear ho hq hpa hsz hsg hp hrl hni hnh
      have HFN : Hid (fs.length = fs.length) := hide rfl
      go_enter Tryz.func7, Tryz.ntmps7
      go_wp2_with fail
      clear hW0
      refine ((unhide HC) W0).mono ?_; rintro e w1 ⟨rfl, b1⟩
      have H1 := hide ((unhide H0).below b1)
      have HM1 := hide ((unhide HM0).below b1)
      obtain ⟨x0, x1, x2⟩ := (unhide H1).bx
      have hs1 := b1.size
      clear b1 H0 HM0 HC z0 z1 z2
      go_wp2_with fail
      refine ((unhide HH) w1 (unhide HM1)).mono ?_; rintro e w2 ⟨v, rfl, own2, b2⟩
      obtain ⟨vo, vc, rfl⟩ := own_forms own2
      have H2 := hide ((unhide H1).below b2)
      have O2 := hide own2
      have hs2 := b2.size
      clear b2 own2 H1 HM1 HH x0 x1 x2
      obtain ⟨x, hx⟩ : ∃ x, mk a = x := ⟨_, rfl⟩
      obtain ⟨y, hy⟩ : ∃ y, mk b = y := ⟨_, rfl⟩
      have HXY : Hid (mk a = x ∧ mk b = y) := hide ⟨hx, hy⟩
      rw [hx, hy]
      clear hx hy
      have H5 := hide (HB2.new w2)
      obtain ⟨g3, hg3⟩ : ∃ g, w2.heap.size = g := ⟨_, rfl⟩
      obtain ⟨W3, hW3⟩ : ∃ W, (w2.alloc (.cells #[.string ⟨#[]⟩, .string ⟨#[]⟩, .slice none 0 0] 24)).alloc (.cells #[.int .i64 0, .int .i64 0] 47) = W := ⟨_, rfl⟩
      rw [hW3] at H5
      obtain ⟨⟨a0, a1, a2⟩, a3, a4⟩ := (unhide H5).frozen
      obtain ⟨_, _, _, _, _, ⟨a5, a6, a7⟩, a8, a9⟩ := (unhide H5).cells
      obtain ⟨X4, K4, bb⟩ := (unhide H5).put2 x y (.slice vo fs.length vc) rfl k sz
      obtain ⟨W4, hW4⟩ : ∃ W, putB (putH W3 w2.heap.size x y (.slice vo fs.length vc)) (w2.heap.size + 1) k sz = W := ⟨_, rfl⟩
      rw [hW4] at X4 K4 bb
      unfold putB putH at hW4
      have H4 := hide ((unhide H2).below bb)
      have O4 := hide (own_below (unhide O2) bb)
      have hs4 := bb.size
      rw [hg3] at hW4 a0 a1 a2 a3 a4 a5 a6 a7 a8 a9 X4 K4
      have X5 := hide X4
      have K5 := hide K4
      clear bb H2 O2 H5 X4 K4
      obtain ⟨x0, x1, x2⟩ := (unhide H4).bx
      obtain ⟨k0, k1⟩ := (unhide K5).cells
      go_wp2_with fail
      clear hW3 hW4 hg3 a0 a1 a2 a3 a4 a5 a6 a7 a8 a9
      go_region_with ((go_at_call 19); refine ((unhide HB) _).mono ?_; rintro e w5 ⟨rfl, b5⟩)
      all_goals (
        have H6 := hide ((unhide H4).below ((bel_trans (Below.refl _ _).drew b5)))
        have O6 := hide (own_below (unhide O4) (bel_trans (Below.refl _ _).drew b5))
        have X6 := hide ((unhide X5).below (bel_trans (Below.refl _ _).drew b5))
        clear b5 H4 O4 X5 K5 HB x0 x1 x2 k0 k1
        obtain ⟨f0, f1, f2, f3⟩ := (unhide H6).frozen
        obtain ⟨_, _, _, _, y0, y1, y2, y3⟩ := (unhide H6).cells
        by_cases he : e5 = 0
        · have HEE := hide ((unhide HO).2 he)
          have he0 : (e5 != 0) = false := by simpa using he
          obtain ⟨hc0, hc1⟩ := (unhide HEE).2
          obtain ⟨x0, x1, x2⟩ := (unhide X6).cells
          obtain ⟨q, hq⟩ : ∃ q, mk t = q := ⟨_, rfl⟩
          rw [hq]
          obtain ⟨l1, hbel, hown⟩ := (unhide H6).put x y vo fs.length vc q
          have L1 := hide l1
          have HBL := hide hbel
          have HOW := hide (own_mono2 (hown _ _ _ _ _ _ (by omega) (unhide O6)) (show w.heap.size ≤ w1.heap.size by omega))
          have HVV : Hid ((Value.agg #[.string x, .string y, .slice vo fs.length vc, .string q]) = .agg #[.string (mk o.1.1), .string (mk o.1.2.1), .slice vo fs.length vc, .string (mk o.1.2.2.2)] ∧ o.2.1 = (n : Int) + c ∧ o.2.2 = 0 ∧ o.1.2.2.1 = fs) := hide (by
            rw [(unhide HEE).1]
            exact ⟨by rw [← (unhide HXY).1, ← (unhide HXY).2, ← hq], rfl, rfl, rfl⟩)
          clear l1 hbel hown hq HO HZ HEE HXY he O6
          go_wp2_with fail
          (try simp only [Exit.inBlock, Exit.then])
          refine bodyPost_ret_by (v := .tuple #[.agg #[.string x, .string y, .slice vo fs.length vc, .string q], .int .i64 ((n : Int) + c), .int .i64 0]) ?_ rfl ⟨.slice vo fs.length vc, by rw [← (unhide HVV).1, (unhide HVV).2.1, (unhide HVV).2.2.1], by rw [(unhide HVV).2.2.2]; exact unhide HOW, unhide HBL⟩
          refine results_ctt9 (p := 4) (u := 5) (u' := 6) (ty := 26) ?_ _ _ (w.heap.size + 1) _ ?_ (unhide L1) _ ?_ _ ?_ <;> rfl
        · have HEE := hide ((unhide HO).1 he)
          have he0 : (e5 != 0) = true := by simpa using he
          have HR := hide ((unhide HZ) _ (unhide H6) e5 (unhide HEE))
          clear HO HZ HXY he O6 X6
          go_wp2_with fail
          (try simp only [Exit.inBlock, Exit.then])
          refine bodyPost_ret_by (v := .tuple #[.agg #[.string ⟨#[]⟩, .string ⟨#[]⟩, .slice none 0 0, .string ⟨#[]⟩], .int .i64 0, .int .i64 e5]) ?_ rfl ⟨.slice none 0 0, by rw [unhide HEE]; rfl, (unhide HR).2.1, (unhide HR).2.2⟩
          refine results_ctt9 (p := 4) (u := 5) (u' := 6) (ty := 26) ?_ _ _ (w.heap.size + 1) _ ?_ (unhide HR).1 _ ?_ _ ?_ <;> rfl
      )
  · unfold On.oneB at ho
    rw [if_pos hb] at ho
    obtain ⟨y, hy⟩ : ∃ y, On.bnd hd bd ar = y := ⟨_, rfl⟩
    rw [hy] at HC hb ho
    have hy0 : (y != 0) = true := by simpa using hb
    have HO := hide ho.symm
    clear hy hb ho
    go_enter Tryz.func7, Tryz.ntmps7
    go_wp2_with fail
    clear hW0
    refine ((unhide HC) W0).mono ?_; rintro e w1 ⟨rfl, b1⟩
    have H1 := hide ((unhide H0).below b1)
    clear b1 H0 HM0 HC z0 z1 z2
    obtain ⟨f0, f1, f2, f3⟩ := (unhide H1).frozen
    obtain ⟨_, _, _, _, y0, y1, y2, y3⟩ := (unhide H1).cells
    have HR := hide ((unhide HZ) _ (unhide H1) y (unhide HO))
    clear HZ
    go_wp2_with fail
    (try simp only [Exit.inBlock, Exit.then])
    refine bodyPost_ret_by (v := .tuple #[.agg #[.string ⟨#[]⟩, .string ⟨#[]⟩, .slice none 0 0, .string ⟨#[]⟩], .int .i64 0, .int .i64 y]) ?_ rfl ⟨.slice none 0 0, by rw [unhide HO]; rfl, (unhide HR).2.1, (unhide HR).2.2⟩
    refine results_ctt9 (p := 4) (u := 5) (u' := 6) (ty := 26) ?_ _ _ (w.heap.size + 1) _ ?_ (unhide HR).1 _ ?_ _ ?_ <;> rfl
end Go.Proofs.YtmgealcolofomaaGreatDoor
