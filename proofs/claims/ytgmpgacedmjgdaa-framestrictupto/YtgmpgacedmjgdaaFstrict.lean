/- With both fields, or with two that differ, there is no size: whatever is handed in.
   Conditions: what is handed in is of bulk at most 1048576. -/
import Derived.Test.YtgmpgacedmjgdaaRows
import Derived.WalkKit
import Derived.ProofKit
import Derived.OpenShut
import Derived.ShutString
import Derived.JoinedCond
import Derived.Test.YtgmpgacedmjgdaaTh
import Derived.Test.YtgmpgacedmjgdaaTj
import Derived.Test.YtgmpgacedmjgdaaWrap
namespace Go.Proofs.Ytgmpgacedmjgdaa
open Go.RowKit Kb
set_option linter.unusedVariables false
set_option maxRecDepth 20000
open Mh (Fl)
namespace Cu
def nameT : List UInt8 := [116, 114, 97, 110, 115, 102, 101, 114, 45, 101, 110, 99, 111, 100, 105, 110, 103]
theorem gets_app (n : List UInt8) (a b : List Fl) : Mh.gets n (a ++ b) = Mh.gets n a ++ Mh.gets n b := by
  unfold Mh.gets; rw [List.filter_append, List.map_append]
theorem both_no (fs : List Fl) (a b : List UInt8) : sizeOf (fs ++ [(nameL, a), (nameT, b)]) = (0, 0, 4) := by
  have h1 : valsL (fs ++ [(nameL, a), (nameT, b)]) ≠ [] := by
    unfold valsL; rw [gets_app]
    have : Mh.gets (lower nameL) [(nameL, a), (nameT, b)] = [a] := by
      unfold Mh.gets
      simp [show ¬ lower nameT = lower nameL from by decide]
    rw [this]; simp
  have h2 : valsC (fs ++ [(nameL, a), (nameT, b)]) ≠ [] := by
    unfold valsC; rw [gets_app]
    have : Mh.gets (lower nameC) [(nameL, a), (nameT, b)] = [b] := by
      unfold Mh.gets
      simp [show ¬ lower nameL = lower nameC from by decide, show lower nameT = lower nameC from by decide]
    rw [this]; simp
  unfold sizeOf sizeE
  rw [if_neg (fun h => h1 h.1), if_neg h2, if_neg h1]
theorem differ_no (fs : List Fl) (a b : List UInt8) (h : a ≠ b) : sizeOf (fs ++ [(nameL, a), (nameL, b)]) = (0, 0, 4) := by
  have e1 : valsL (fs ++ [(nameL, a), (nameL, b)]) = valsL fs ++ [a, b] := by
    unfold valsL; rw [gets_app]
    have : Mh.gets (lower nameL) [(nameL, a), (nameL, b)] = [a, b] := by
      unfold Mh.gets
      simp
    rw [this]
  have h1 : valsL (fs ++ [(nameL, a), (nameL, b)]) ≠ [] := by rw [e1]; simp
  unfold sizeOf sizeE
  rw [if_neg (fun h => h1 h.1)]
  by_cases h2 : valsC (fs ++ [(nameL, a), (nameL, b)]) = []
  · rw [if_pos h2, e1]
    unfold lens
    rw [if_neg]
    intro hall
    apply h
    exact (hall a (by simp)).trans (hall b (by simp)).symm
  · rw [if_neg h2, if_neg h1]
end Cu
theorem cellsF_two (fs : List Fl) (a b c d : List UInt8) : cellsF (fs ++ [(a, b), (c, d)]) = cellsF fs ++ [.string (mk a), .string (mk b), .string (mk c), .string (mk d)] := by
  simp [cellsF]
theorem cell_four_new (w : World) (a b c d : Value) (t : TypeId) (g : Nat) (hg : w.heap.size = g) : ∀ j u, [a, b, c, d][j]? = some u → (w.alloc (.cells #[a, b, c, d] t)).cell? ((⟨g, 0, none⟩ : Addr).add j) = some u := by
  subst hg
  intro j u hj
  rw [Addr.add_lit, Nat.zero_add, World.cell?_alloc_new w _ _ j]
  simpa using hj
end Go.Proofs.Ytgmpgacedmjgdaa
namespace Go.Proofs.Ytgmpgacedmjgdaa.frameStrict
open Go.ChangeShapes Go.WideShapes Go.ChangeAt Go.RowKit
open Go.ChangeMaps (open_string shut_string)
open Kb
open Mh (Fl)
set_option linter.unusedVariables false
set_option maxRecDepth 20000

theorem frame_eq {a b : ByteArray} (h : a = b) : (a.toList == b.toList) = true := by rw [h]; simp
theorem seven : Cu.sizeOf [([99, 111, 110, 116, 101, 110, 116, 45, 76, 69, 78, 71, 84, 72], [48, 55])] = (2, 7, 0) := by decide +kernel
theorem lit_flds (W : World) (a b : List UInt8) : Flds (W.alloc (.cells #[.string (mk a), .string (mk b)] 45)) (.slice (some ⟨W.heap.size, 0, none⟩) 1 1) [(a, b)] :=
  Flds.own (fs := [(a, b)]) (World.ownsRow_lit (e := 45) (size := 2) (base := W.heap.size) W #[.string (mk a), .string (mk b)] 1 (Nat.le_refl _) (by unfold maxLen; omega) rfl) (by simp)
set_option maxHeartbeats 4000000 in
theorem walk (m t : List UInt8) (u : Value) (fs : List Fl) (a b : ByteArray) (hb : a.size + b.size ≤ 1048576) (w : World) (hu : Flds w u fs) (hz : m.length + t.length ≤ 1048576 ∧ fs.length ≤ 1048576 ∧ ∀ f ∈ fs, f.1.length + f.2.length ≤ 1048576) :
    Calls Try.prog 5 #[headV m t u, .string a, .string b] w fun e w' => e = .returned (.bool true) ∧ Below w.heap.size w w' := by
  obtain ⟨hmt, hfl, hff⟩ := hz
  have HOF := hide (fun W m t v gs (hF : Flds W v gs) (h1 : ∀ f ∈ gs, f.1.length + f.2.length ≤ 68719476736) (h2 : gs.length ≤ 1099511627776) r (hr : Cu.sizeOf gs = r) => of_any m t v gs W hF h1 h2 r hr)
  unfold headV at HOF ⊢
  obtain ⟨o, c, rfl, hc⟩ := hu.form
  have HU := hide hu
  have HFF := hide hff
  have hroom := hu.room
  clear hu hff
  have HCL := hide (fun W (h : Below w.heap.size w W) => cloneF_any W _ fs ((unhide HU).below h) (by omega))
  obtain ⟨i0, hi, hz0, hz1, hz2⟩ := info_parts infoF
  obtain ⟨x, hx⟩ : ∃ x, mk m = x := ⟨_, rfl⟩
  obtain ⟨y, hy⟩ : ∃ y, mk t = y := ⟨_, rfl⟩
  rw [hx, hy]
  have HOF2 := hide (fun W => unhide HOF W m t)
  rw [hx, hy] at HOF2
  clear hx hy hmt
  have HB1 : Hid (∀ f ∈ fs ++ [(Cu.nameL, a.data.toList), (Cu.nameT, b.data.toList)], f.1.length + f.2.length ≤ 68719476736) := hide (by
    intro f hf
    rcases List.mem_append.1 hf with hf | hf
    · have := (unhide HFF) f hf; omega
    · simp at hf
      rcases hf with rfl | rfl <;> simp [Cu.nameL, Cu.nameT] <;> omega)
  have HB2 : Hid (∀ f ∈ fs ++ [(Cu.nameL, a.data.toList), (Cu.nameL, b.data.toList)], f.1.length + f.2.length ≤ 68719476736) := hide (by
    intro f hf
    rcases List.mem_append.1 hf with hf | hf
    · have := (unhide HFF) f hf; omega
    · simp at hf
      rcases hf with rfl | rfl <;> simp [Cu.nameL] <;> omega)
  -- the head in a block of its own, and the first call's literal
  have X0 := HV.new (base := w.heap.size) w (Nat.le_refl _) x y o fs.length c
  have b0 := (Below.refl w.heap.size w).alloc (Nat.le_refl _) (.cells #[.string x, .string y, .slice o fs.length c] 39)
  obtain ⟨W0, hW0⟩ : ∃ W, w.alloc (.cells #[.string x, .string y, .slice o fs.length c] 39) = W := ⟨_, rfl⟩
  rw [hW0] at X0 b0
  obtain ⟨g1, hg1⟩ : ∃ g, W0.heap.size = g := ⟨_, rfl⟩
  have F1 := lit_flds W0 [99, 111, 110, 116, 101, 110, 116, 45, 76, 69, 78, 71, 84, 72] [48, 55]
  have bb1 := (Below.refl W0.heap.size W0).alloc (Nat.le_refl _) (.cells #[.string (mk [99, 111, 110, 116, 101, 110, 116, 45, 76, 69, 78, 71, 84, 72]), .string (mk [48, 55])] 45)
  have B1 := hide (bel_trans b0 bb1)
  have X1 := hide (X0.below bb1)
  have HO1 := hide ((unhide HOF) _ [] [] _ _ F1 (by intro f hf; simp at hf; rw [hf]; decide) (by decide) _ seven)
  obtain ⟨W1, hW1⟩ : ∃ W, W0.alloc (.cells #[.string (mk [99, 111, 110, 116, 101, 110, 116, 45, 76, 69, 78, 71, 84, 72]), .string (mk [48, 55])] 45) = W := ⟨_, rfl⟩
  rw [hW1] at B1 X1 HO1
  rw [show mk [] = (⟨#[]⟩ : ByteArray) from rfl] at HO1
  rw [hg1] at HO1
  have hW1' : W0.alloc (.cells #[.string ⟨#[99, 111, 110, 116, 101, 110, 116, 45, 76, 69, 78, 71, 84, 72]⟩, .string ⟨#[48, 55]⟩] 45) = W1 := hW1
  clear F1 bb1 b0 X0 HOF hW1
  go_enter Try.func5, Try.ntmps5
  go_wp2_with fail
  refine (unhide HO1).mono ?_; rintro e w2 ⟨rfl, b2⟩
  have B2 := hide (bel_trans (unhide B1) b2)
  have X2 := hide ((unhide X1).below b2)
  clear hW0 hW1' hg1 HO1 b2 X1 B1

  -- the body's own variable, then the head's copy
  have Xa3 := hide ((unhide X2).below ((Below.refl w2.heap.size w2).alloc (Nat.le_refl _) (.cells #[.int .i64 2, .int .i64 7] 41)))
  have Ba3 := hide (bel_trans (unhide B2) ((Below.refl w2.heap.size w2).alloc (Nat.le_refl _) (.cells #[.int .i64 2, .int .i64 7] 41)))
  have Ka3 := hide (BX.new (base := w2.heap.size) w2 (Nat.le_refl _) 2 7)
  obtain ⟨Wa3, hWa3⟩ : ∃ W, w2.alloc (.cells #[.int .i64 2, .int .i64 7] 41) = W := ⟨_, rfl⟩
  rw [hWa3] at Xa3 Ba3 Ka3
  obtain ⟨k0, k1⟩ := (unhide Ka3).cells
  have Ya4 := hide (HV.new (base := w.heap.size) Wa3 (unhide Ba3).size x y o fs.length c)
  have Xa4 := hide ((unhide Xa3).below ((Below.refl Wa3.heap.size Wa3).alloc (Nat.le_refl _) (.cells #[.string x, .string y, .slice o fs.length c] 39)))
  have Ba4 := hide (bel_trans (unhide Ba3) ((Below.refl Wa3.heap.size Wa3).alloc (Nat.le_refl _) (.cells #[.string x, .string y, .slice o fs.length c] 39)))
  obtain ⟨ga4, hga4⟩ : ∃ g, Wa3.heap.size = g := ⟨_, rfl⟩
  obtain ⟨Wa4, hWa4⟩ : ∃ W, Wa3.alloc (.cells #[.string x, .string y, .slice o fs.length c] 39) = W := ⟨_, rfl⟩
  rw [hWa4] at Ya4 Xa4 Ba4
  rw [hga4] at Ya4
  obtain ⟨z0, z1, z2⟩ := (unhide Xa3).cells
  obtain ⟨y0, y1, y2⟩ := (unhide Xa4).cells
  have hgla := (unhide Ya4).lt
  have hxl := (unhide Xa4).lt.2
  have hgne : w.heap.size < ga4 := by rw [← hga4]; exact (unhide Xa3).lt.2
  have HCa := hide ((unhide HCL) Wa4 (unhide Ba4))
  go_wp2_with fail
  clear hWa3 hWa4 hga4 z0 z1 z2 y0 y1 y2 k0 k1 Ka3
  refine (unhide HCa).mono ?_; rintro e wa5 ⟨va5, rfl, ba5, owna5⟩
  obtain ⟨oa5, ca5, rfl⟩ := own_forms owna5
  have Ba5 := hide (bel_trans (unhide Ba4) ba5)
  have Xa5 := hide ((unhide Xa4).below ba5)
  have Ya5 := hide ((unhide Ya4).below ba5)
  have Oa5 := hide owna5
  have hsa5 := ba5.size
  clear owna5 ba5 HCa Xa4 Ya4 Xa3 Ba3
  have Xa6 := hide ((unhide Xa5).below ((Below.refl wa5.heap.size wa5).alloc (Nat.le_refl _) (.cells #[.string ⟨#[67, 111, 110, 116, 101, 110, 116, 45, 76, 101, 110, 103, 116, 104]⟩, .string a, .string ⟨#[116, 114, 97, 110, 115, 102, 101, 114, 45, 101, 110, 99, 111, 100, 105, 110, 103]⟩, .string b] 45)))
  have Ya6 := hide ((unhide Ya5).below ((Below.refl wa5.heap.size wa5).alloc (Nat.le_refl _) (.cells #[.string ⟨#[67, 111, 110, 116, 101, 110, 116, 45, 76, 101, 110, 103, 116, 104]⟩, .string a, .string ⟨#[116, 114, 97, 110, 115, 102, 101, 114, 45, 101, 110, 99, 111, 100, 105, 110, 103]⟩, .string b] 45)))
  have Ba6 := hide (bel_trans (unhide Ba5) ((Below.refl wa5.heap.size wa5).alloc (Nat.le_refl _) (.cells #[.string ⟨#[67, 111, 110, 116, 101, 110, 116, 45, 76, 101, 110, 103, 116, 104]⟩, .string a, .string ⟨#[116, 114, 97, 110, 115, 102, 101, 114, 45, 101, 110, 99, 111, 100, 105, 110, 103]⟩, .string b] 45)))
  have Oa6 := hide ((unhide Oa5).alloc (.cells #[.string ⟨#[67, 111, 110, 116, 101, 110, 116, 45, 76, 101, 110, 103, 116, 104]⟩, .string a, .string ⟨#[116, 114, 97, 110, 115, 102, 101, 114, 45, 101, 110, 99, 111, 100, 105, 110, 103]⟩, .string b] 45))
  obtain ⟨ga6, hga6⟩ : ∃ g, wa5.heap.size = g := ⟨_, rfl⟩
  have hca6 := cell_four_new wa5 (.string ⟨#[67, 111, 110, 116, 101, 110, 116, 45, 76, 101, 110, 103, 116, 104]⟩) (.string a) (.string ⟨#[116, 114, 97, 110, 115, 102, 101, 114, 45, 101, 110, 99, 111, 100, 105, 110, 103]⟩) (.string b) 45 ga6 hga6
  obtain ⟨Wa6, hWa6⟩ : ∃ W, wa5.alloc (.cells #[.string ⟨#[67, 111, 110, 116, 101, 110, 116, 45, 76, 101, 110, 103, 116, 104]⟩, .string a, .string ⟨#[116, 114, 97, 110, 115, 102, 101, 114, 45, 101, 110, 99, 111, 100, 105, 110, 103]⟩, .string b] 45) = W := ⟨_, rfl⟩
  rw [hWa6] at Xa6 Ya6 Ba6 Oa6 hca6
  have hsa6 : Wa4.heap.size ≤ Wa6.heap.size := by rw [← hWa6]; simp; omega
  have HCEa := hide hca6
  have HAPa : Hid (∀ w7 oo cc, Wa6.grownBy w7 (Value.slice oa5 fs.length ca5).ownBlock → w7.ownsRow Wa4.heap.size 45 2 (.slice oo (fs.length + 2) cc) (fs.length + 2) (cellsF fs ++ [.string ⟨#[67, 111, 110, 116, 101, 110, 116, 45, 76, 101, 110, 103, 116, 104]⟩, .string a, .string ⟨#[116, 114, 97, 110, 115, 102, 101, 114, 45, 101, 110, 99, 111, 100, 105, 110, 103]⟩, .string b]) →
      HV w7 w.heap.size ga4 x y (.slice o fs.length c) ∧ ∃ W8, w7.setCell ⟨ga4, 2, none⟩ (.slice oo (fs.length + 2) cc) = W8 ∧ HV W8 w.heap.size ga4 x y (.slice oo (fs.length + 2) cc) ∧ HV W8 w.heap.size w.heap.size x y (.slice o fs.length c) ∧ Below w.heap.size w W8 ∧ Flds W8 (.slice oo (fs.length + 2) cc) (fs ++ [(Cu.nameL, a.data.toList), (Cu.nameT, b.data.toList)])) := hide (fun w7 oo cc gr own => by
    have hr : ∀ q, (Value.slice oa5 fs.length ca5).ownBlock = some q → Wa4.heap.size ≤ q := own_lt (unhide Oa6)
    have hya := hgla
    have hg4 : ga4 < Wa4.heap.size := hya.2
    have Y7 := (unhide Ya6).kept gr (fun e => by have := hr _ e; omega)
    have hlw := (unhide Xa6).lt.2
    have hxlt : w.heap.size < Wa4.heap.size := hxl
    have X7 := (unhide Xa6).kept gr (fun e => by have := hr _ e; omega)
    obtain ⟨Y8, k8⟩ := Y7.set2 (.slice oo (fs.length + 2) cc)
    have X8 := X7.kept k8 (fun e => by have := Option.some.inj e; omega)
    have own8 := World.ownsRow.kept own k8 (.inr (fun e => by have := (own.lt ga4 e).1; omega))
    refine ⟨Y7, _, rfl, Y8, X8, ?_, ?_⟩
    · exact ((unhide Ba6).grown gr (unhide Ba6).size (fun q hq => Nat.le_trans (by omega) (hr q hq))).grown k8 (by have := gr.size; have := (unhide Ba6).size; omega) (fun q hq => by have := Option.some.inj hq; omega)
    · have e := cellsF_two fs Cu.nameL a.data.toList Cu.nameT b.data.toList
      rw [mk_data, mk_data] at e
      have own9 : (w7.setCell ⟨ga4, 2, none⟩ (.slice oo (fs.length + 2) cc)).ownsRow Wa4.heap.size 45 2 (.slice oo (fs.length + 2) cc) (fs ++ [(Cu.nameL, a.data.toList), (Cu.nameT, b.data.toList)]).length (cellsF (fs ++ [(Cu.nameL, a.data.toList), (Cu.nameT, b.data.toList)])) := by
        rw [e, List.length_append]; exact own8
      exact Flds.own (v := .slice oo (fs.length + 2) cc) own9 (by rw [List.length_append]; show fs.length + 2 ≤ _; omega))
  have b3 : fs.length + 2 ≤ maxLen := by unfold maxLen; omega
  have b4 : (fs.length + 2) * 32 ≤ 140737488355328 := by omega
  obtain ⟨y0, y1, y2⟩ := (unhide Ya6).cells
  obtain ⟨f0, f1, f2⟩ := (unhide Ya6).frozen
  clear hca6
  go_wp2_with (at_builtin; go_loud (refine wpList_append_own _ rfl _ _ 37 rfl Wa4.heap.size 45 i0 (.agg #[.string ByteArray.empty, .string ByteArray.empty]) 2 32 Try.underlying37 hi hz0 hz1 hz2 rfl (by decide) _ fs.length (cellsF fs) rfl (unhide Oa6) _ 2 2 _ rfl rfl (unhide HCEa) (by simp [Value.oneCell']) b3 b4 hsa6 ?_; intro v7 wa7 own7 grow7 _; obtain ⟨ooa, cca, rfl⟩ := own_forms own7; obtain ⟨Y7, Wa8, hWa8, Y8, X8, B8, F8⟩ := (unhide HAPa) wa7 ooa cca grow7 own7; clear own7 grow7; obtain ⟨q0, q1, q2⟩ := Y7.cells; obtain ⟨e0, e1, e2⟩ := Y7.frozen; obtain ⟨r0, r1, r2⟩ := Y8.cells))
  have B8' := hide B8
  have X8' := hide X8
  have HO8 := hide ((unhide HOF2) Wa8 _ _ F8 (unhide HB1) (by rw [List.length_append]; show fs.length + 2 ≤ _; omega) _ (Cu.both_no fs a.data.toList b.data.toList))
  clear Y7 hWa8 Y8 X8 B8 F8 q0 q1 q2 e0 e1 e2 r0 r1 r2 HAPa HCEa Xa6 Ya6 Ba6 Oa6 Xa5 Ya5 Ba5 Oa5 HB1
  refine (unhide HO8).mono ?_; rintro e w9 ⟨rfl, b9⟩
  have B9 := hide (bel_trans (unhide B8') b9)
  have X9 := hide ((unhide X8').below b9)
  clear b9 HO8 B8' X8'

  -- the body's own variable, then the head's copy
  have Xb3 := hide ((unhide X9).below ((Below.refl w9.heap.size w9).alloc (Nat.le_refl _) (.cells #[.int .i64 0, .int .i64 0] 41)))
  have Bb3 := hide (bel_trans (unhide B9) ((Below.refl w9.heap.size w9).alloc (Nat.le_refl _) (.cells #[.int .i64 0, .int .i64 0] 41)))
  have Kb3 := hide (BX.new (base := w9.heap.size) w9 (Nat.le_refl _) 0 0)
  obtain ⟨Wb3, hWb3⟩ : ∃ W, w9.alloc (.cells #[.int .i64 0, .int .i64 0] 41) = W := ⟨_, rfl⟩
  rw [hWb3] at Xb3 Bb3 Kb3
  obtain ⟨k0, k1⟩ := (unhide Kb3).cells
  obtain ⟨l0, l1⟩ := (unhide Kb3).frozen
  have hput : (Wb3.setCell ⟨w9.heap.size, 0, none⟩ (.int .i64 0)).setCell ⟨w9.heap.size, 1, none⟩ (.int .i64 0) = Wb3 := by
    rw [← hWb3, World.setCell_alloc_new, World.setCell_alloc_new]; rfl
  have Yb4 := hide (HV.new (base := w.heap.size) Wb3 (unhide Bb3).size x y o fs.length c)
  have Xb4 := hide ((unhide Xb3).below ((Below.refl Wb3.heap.size Wb3).alloc (Nat.le_refl _) (.cells #[.string x, .string y, .slice o fs.length c] 39)))
  have Bb4 := hide (bel_trans (unhide Bb3) ((Below.refl Wb3.heap.size Wb3).alloc (Nat.le_refl _) (.cells #[.string x, .string y, .slice o fs.length c] 39)))
  obtain ⟨gb4, hgb4⟩ : ∃ g, Wb3.heap.size = g := ⟨_, rfl⟩
  obtain ⟨Wb4, hWb4⟩ : ∃ W, Wb3.alloc (.cells #[.string x, .string y, .slice o fs.length c] 39) = W := ⟨_, rfl⟩
  rw [hWb4] at Yb4 Xb4 Bb4
  rw [hgb4] at Yb4
  obtain ⟨z0, z1, z2⟩ := (unhide Xb3).cells
  obtain ⟨y0, y1, y2⟩ := (unhide Xb4).cells
  have hglb := (unhide Yb4).lt
  have hxl := (unhide Xb4).lt.2
  have hgne : w.heap.size < gb4 := by rw [← hgb4]; exact (unhide Xb3).lt.2
  have HCb := hide ((unhide HCL) Wb4 (unhide Bb4))
  go_wp2_with fail
  clear hWb3 hWb4 hgb4 z0 z1 z2 y0 y1 y2 k0 k1 l0 l1 hput Kb3
  refine (unhide HCb).mono ?_; rintro e wb5 ⟨vb5, rfl, bb5, ownb5⟩
  obtain ⟨ob5, cb5, rfl⟩ := own_forms ownb5
  have Bb5 := hide (bel_trans (unhide Bb4) bb5)
  have Xb5 := hide ((unhide Xb4).below bb5)
  have Yb5 := hide ((unhide Yb4).below bb5)
  have Ob5 := hide ownb5
  have hsb5 := bb5.size
  clear ownb5 bb5 HCb Xb4 Yb4 Xb3 Bb3
  have Xb6 := hide ((unhide Xb5).below ((Below.refl wb5.heap.size wb5).alloc (Nat.le_refl _) (.cells #[.string ⟨#[67, 111, 110, 116, 101, 110, 116, 45, 76, 101, 110, 103, 116, 104]⟩, .string a, .string ⟨#[67, 111, 110, 116, 101, 110, 116, 45, 76, 101, 110, 103, 116, 104]⟩, .string b] 45)))
  have Yb6 := hide ((unhide Yb5).below ((Below.refl wb5.heap.size wb5).alloc (Nat.le_refl _) (.cells #[.string ⟨#[67, 111, 110, 116, 101, 110, 116, 45, 76, 101, 110, 103, 116, 104]⟩, .string a, .string ⟨#[67, 111, 110, 116, 101, 110, 116, 45, 76, 101, 110, 103, 116, 104]⟩, .string b] 45)))
  have Bb6 := hide (bel_trans (unhide Bb5) ((Below.refl wb5.heap.size wb5).alloc (Nat.le_refl _) (.cells #[.string ⟨#[67, 111, 110, 116, 101, 110, 116, 45, 76, 101, 110, 103, 116, 104]⟩, .string a, .string ⟨#[67, 111, 110, 116, 101, 110, 116, 45, 76, 101, 110, 103, 116, 104]⟩, .string b] 45)))
  have Ob6 := hide ((unhide Ob5).alloc (.cells #[.string ⟨#[67, 111, 110, 116, 101, 110, 116, 45, 76, 101, 110, 103, 116, 104]⟩, .string a, .string ⟨#[67, 111, 110, 116, 101, 110, 116, 45, 76, 101, 110, 103, 116, 104]⟩, .string b] 45))
  obtain ⟨gb6, hgb6⟩ : ∃ g, wb5.heap.size = g := ⟨_, rfl⟩
  have hcb6 := cell_four_new wb5 (.string ⟨#[67, 111, 110, 116, 101, 110, 116, 45, 76, 101, 110, 103, 116, 104]⟩) (.string a) (.string ⟨#[67, 111, 110, 116, 101, 110, 116, 45, 76, 101, 110, 103, 116, 104]⟩) (.string b) 45 gb6 hgb6
  obtain ⟨Wb6, hWb6⟩ : ∃ W, wb5.alloc (.cells #[.string ⟨#[67, 111, 110, 116, 101, 110, 116, 45, 76, 101, 110, 103, 116, 104]⟩, .string a, .string ⟨#[67, 111, 110, 116, 101, 110, 116, 45, 76, 101, 110, 103, 116, 104]⟩, .string b] 45) = W := ⟨_, rfl⟩
  rw [hWb6] at Xb6 Yb6 Bb6 Ob6 hcb6
  have hsb6 : Wb4.heap.size ≤ Wb6.heap.size := by rw [← hWb6]; simp; omega
  have HCEb := hide hcb6
  have HAPb : Hid (∀ w7 oo cc, Wb6.grownBy w7 (Value.slice ob5 fs.length cb5).ownBlock → w7.ownsRow Wb4.heap.size 45 2 (.slice oo (fs.length + 2) cc) (fs.length + 2) (cellsF fs ++ [.string ⟨#[67, 111, 110, 116, 101, 110, 116, 45, 76, 101, 110, 103, 116, 104]⟩, .string a, .string ⟨#[67, 111, 110, 116, 101, 110, 116, 45, 76, 101, 110, 103, 116, 104]⟩, .string b]) →
      HV w7 w.heap.size gb4 x y (.slice o fs.length c) ∧ ∃ W8, w7.setCell ⟨gb4, 2, none⟩ (.slice oo (fs.length + 2) cc) = W8 ∧ HV W8 w.heap.size gb4 x y (.slice oo (fs.length + 2) cc) ∧ HV W8 w.heap.size w.heap.size x y (.slice o fs.length c) ∧ Below w.heap.size w W8 ∧ Flds W8 (.slice oo (fs.length + 2) cc) (fs ++ [(Cu.nameL, a.data.toList), (Cu.nameL, b.data.toList)])) := hide (fun w7 oo cc gr own => by
    have hr : ∀ q, (Value.slice ob5 fs.length cb5).ownBlock = some q → Wb4.heap.size ≤ q := own_lt (unhide Ob6)
    have hya := hglb
    have hg4 : gb4 < Wb4.heap.size := hya.2
    have Y7 := (unhide Yb6).kept gr (fun e => by have := hr _ e; omega)
    have hlw := (unhide Xb6).lt.2
    have hxlt : w.heap.size < Wb4.heap.size := hxl
    have X7 := (unhide Xb6).kept gr (fun e => by have := hr _ e; omega)
    obtain ⟨Y8, k8⟩ := Y7.set2 (.slice oo (fs.length + 2) cc)
    have X8 := X7.kept k8 (fun e => by have := Option.some.inj e; omega)
    have own8 := World.ownsRow.kept own k8 (.inr (fun e => by have := (own.lt gb4 e).1; omega))
    refine ⟨Y7, _, rfl, Y8, X8, ?_, ?_⟩
    · exact ((unhide Bb6).grown gr (unhide Bb6).size (fun q hq => Nat.le_trans (by omega) (hr q hq))).grown k8 (by have := gr.size; have := (unhide Bb6).size; omega) (fun q hq => by have := Option.some.inj hq; omega)
    · have e := cellsF_two fs Cu.nameL a.data.toList Cu.nameL b.data.toList
      rw [mk_data, mk_data] at e
      have own9 : (w7.setCell ⟨gb4, 2, none⟩ (.slice oo (fs.length + 2) cc)).ownsRow Wb4.heap.size 45 2 (.slice oo (fs.length + 2) cc) (fs ++ [(Cu.nameL, a.data.toList), (Cu.nameL, b.data.toList)]).length (cellsF (fs ++ [(Cu.nameL, a.data.toList), (Cu.nameL, b.data.toList)])) := by
        rw [e, List.length_append]; exact own8
      exact Flds.own (v := .slice oo (fs.length + 2) cc) own9 (by rw [List.length_append]; show fs.length + 2 ≤ _; omega))
  have b3 : fs.length + 2 ≤ maxLen := by unfold maxLen; omega
  have b4 : (fs.length + 2) * 32 ≤ 140737488355328 := by omega
  obtain ⟨y0, y1, y2⟩ := (unhide Yb6).cells
  obtain ⟨f0, f1, f2⟩ := (unhide Yb6).frozen
  clear hcb6
  go_wp2_with (at_builtin; go_loud (refine wpList_append_own _ rfl _ _ 37 rfl Wb4.heap.size 45 i0 (.agg #[.string ByteArray.empty, .string ByteArray.empty]) 2 32 Try.underlying37 hi hz0 hz1 hz2 rfl (by decide) _ fs.length (cellsF fs) rfl (unhide Ob6) _ 2 2 _ rfl rfl (unhide HCEb) (by simp [Value.oneCell']) b3 b4 hsb6 ?_; intro v7 wb7 own7 grow7 _; obtain ⟨oob, ccb, rfl⟩ := own_forms own7; obtain ⟨Y7, Wb8, hWb8, Y8, X8, B8, F8⟩ := (unhide HAPb) wb7 oob ccb grow7 own7; clear own7 grow7; obtain ⟨q0, q1, q2⟩ := Y7.cells; obtain ⟨e0, e1, e2⟩ := Y7.frozen; obtain ⟨r0, r1, r2⟩ := Y8.cells))
  have B8' := hide B8
  obtain ⟨r, hr⟩ : ∃ r, Cu.sizeOf (fs ++ [(Cu.nameL, a.data.toList), (Cu.nameL, b.data.toList)]) = r := ⟨_, rfl⟩
  have HO8 := hide ((unhide HOF2) Wb8 _ _ F8 (unhide HB2) (by rw [List.length_append]; show fs.length + 2 ≤ _; omega) r hr)
  clear Y7 hWb8 Y8 X8 B8 F8 q0 q1 q2 e0 e1 e2 r0 r1 r2 HAPb HCEb Xb6 Yb6 Bb6 Ob6 Xb5 Yb5 Bb5 Ob5 HB2
  by_cases hab : a = b
  · have e1 := frame_eq hab
    obtain ⟨r1, r2, r3⟩ := r
    clear hr
    refine (unhide HO8).mono ?_; rintro e w10 ⟨rfl, b10⟩
    go_wp2_with fail
    go_ret
    exact ⟨rfl, (bel_trans (unhide B8') b10).alloc (bel_trans (unhide B8') b10).size _⟩
  · have hr' := Cu.differ_no fs a.data.toList b.data.toList (fun e => hab (eq_of_lists e))
    rw [hr] at hr'
    subst hr'
    have e1 := str_f hab
    refine (unhide HO8).mono ?_; rintro e w10 ⟨rfl, b10⟩
    go_wp2_with fail
    go_ret
    exact ⟨rfl, (bel_trans (unhide B8') b10).alloc (bel_trans (unhide B8') b10).size _⟩
theorem own : ownKnob Try.prog.godebug = none := by kernel_rfl

theorem small_of {H : Type} {a0 : DataW H} {a1 : ByteArray} {a2 : ByteArray} (hk : Rows.uptoSmall H ([a0, .lit (.string a1.data.toList), .lit (.string a2.data.toList)] ++ []) = true) : Rows.uptoBulk a0 + a1.size + a2.size ≤ 1048576 := by
  have h := of_decide_eq_true hk
  simp only [Rows.uptoBulkAll, Rows.uptoBulk, List.append_nil, Array.length_toList, ByteArray.size_data] at h
  omega

set_option maxRecDepth 100000 in
theorem contract (H : Type) (enc : TypeId × Value → H) (W : World) (base : Nat) (args : Array Value) (ds gs : List (DataW H)) (before : List MemPlace) (hsh : W.ShapedOpen Try.prog)
    (hval0 : ∀ (j : Nat) t v, Try.f5.params[j]? = some t → args[j]? = some v → Value.okWide Try.prog W .any base t v)
    (hW : DataW.Whole enc Try.prog Try.f5.params.toList Rows.frameStrictSpec.vars false W args.toList ds gs before) (hk : Rows.uptoSmall H (ds ++ gs) = true) :
    Calls Try.prog 5 args W fun e W' => ∃ v, e = .returned v ∧ Rows.frameStrictSpec.post enc Try.prog Try.f5 false true false false W args v W' := by
  have hval : ∀ (j : Nat) t v, Try.f5.params[j]? = some t → args[j]? = some v → Value.okWide Try.prog W .any base t v := hval0
  have hW' := hW
  obtain ⟨p, q, hA0, hV, rfl, hfz, hnd⟩ := hW
  have hA : DataW.TrodAll enc Try.prog W 0 (fun _ => true) true Try.f5.params.toList args.toList ds p := hA0
  rw [Try.params5] at hA hval
  obtain ⟨v0, vs0, d0, ds0, p0, q0, hargs, rfl, rfl, h0, r0⟩ := trodAll_cons hA
  obtain ⟨v1, vs1, d1, ds1, p1, q1, rfl, rfl, rfl, h1, r1⟩ := trodAll_cons r0
  obtain ⟨v2, vs2, d2, ds2, p2, q2, rfl, rfl, rfl, h2, r2⟩ := trodAll_cons r1
  obtain ⟨rfl, rfl, rfl⟩ := trodAll_nil r2
  obtain rfl : args = #[v0, v1, v2] := by cases args; simp_all
  obtain ⟨rfl, rfl⟩ := trodVars_none hV
  obtain ⟨a1, rfl, rfl, rfl, w1⟩ := open_string Try.underlying9 (hval 1 9 v1 rfl rfl) h1
  obtain ⟨a2, rfl, rfl, rfl, w2⟩ := open_string Try.underlying9 (hval 2 9 v2 rfl rfl) h2
  have hsm := small_of hk
  obtain ⟨m0, t0, u0, f0, rfl, hI0, hz0, hlt0⟩ := open_head_in (hval 0 39 v0 rfl rfl) h0 (by omega)
  clear hA0 hval0
  refine (walk m0 t0 u0 f0 a1 a2 (by omega) W hI0 hz0).mono fun e W' ⟨he, hb⟩ => ?_
  subst he
  exact ⟨_, rfl, _, _, _, [], (p0 ++ ([] ++ ([] ++ []))), [], hW', (trodAll_cons_mk (shut_bool Try.underlying4 _) trodAll_mk0), (trodAll_cons_mk (Below.trod laidOutAll (by kernel_rfl) (of_decide_eq_true (by kernel_rfl)) h0 hb hlt0) (trodAll_cons_mk (shut_string Try.underlying9 w1) (trodAll_cons_mk (shut_string Try.underlying9 w2) trodAll_mk0))), rfl, hb.frame _, fun h => by cases h⟩

set_option maxRecDepth 100000 in
theorem lifted (os : Os) (started : os.Started) (H : Type) (enc : TypeId × Value → H) (F : Stop.Interp) :
    ReturnsInHanded {} Try.checked os 5 .any ((Rows.OpenSpec.upto Rows.frameStrictSpec).pre6 enc Try.prog Try.f5 Rows.frameStrictUptoRow.domain false) (((Rows.OpenSpec.upto Rows.frameStrictSpec).at F).post enc Try.prog Try.f5 false true false false) := by
  refine cond_shaped (C := Try.checked) (s := Rows.OpenSpec.upto Rows.frameStrictSpec) (k := Rows.uptoSmall) rfl own started (by kernel_rfl) Try.func5
    (OpenSpec.witness (enc := enc) (C := Try.checked) (s := Rows.OpenSpec.upto Rows.frameStrictSpec) (k := Rows.uptoSmall) rfl false ⟨#[], #[.agg #[.string ByteArray.empty, .string ByteArray.empty, .slice none 0 0], .string ByteArray.empty, .string ByteArray.empty], []⟩ 8 (by kernel_rfl) (by kernel_rfl) (by kernel_rfl)
      (x := ([.agg [.lit (.string []), .lit (.string []), .nil], .lit (.string []), .lit (.string [])], [], [])) (by kernel_rfl) rfl (by kernel_rfl)) ?_
  intro W base args ds gs before hsh hval hW hk
  exact contract H enc W base args ds gs before hsh hval hW hk

theorem over : Rows.FrameStrictUptoSaid :=
  OpenClaim.holds_of_cond 5 Try.f5 rfl rfl rfl rfl rfl rfl rfl ⟨rfl, rfl, rfl, rfl, rfl⟩ rfl rfl rfl rfl rfl (by kernel_rfl) Try.func5 (by kernel_rfl)
    (of_decide_eq_true (by kernel_rfl)) (by unfold Func.isWrapper; first | (rw [if_pos (by decide +kernel)]; kernel_rfl) | (rw [if_neg (by decide +kernel)]; exact ⟨rfl, rfl⟩))
    (fun os started H enc _ F => lifted os started H enc F)
end Go.Proofs.Ytgmpgacedmjgdaa.frameStrict
namespace Go.Proofs.Ytgmpgacedmjgdaa
theorem frameStrict_holds : Rows.FrameStrictUptoSaid := frameStrict.over
#print axioms frameStrict_holds
end Go.Proofs.Ytgmpgacedmjgdaa
