/- A head that is handed in stays, the room behind its fields too; what is answered shares nothing with it: whatever is handed in.
   Conditions: what is handed in is of bulk at most 1048576; the library's tables are as the program's text lays them, and its own variable MaxLen holds whatever number. -/
import Derived.Test.YtmgealcolofomaaDoorRows
import Derived.Test.YtmgealcolofomaaDoorTie
import Derived.Test.YtmgealcolofomaaDoorCards
import Derived.WalkKit
import Derived.ProofKit
import Derived.OpenShut
import Derived.ShutString
import Derived.JoinedCond
import Derived.Deep.RegionHeld3
import Derived.Test.YtmgealcolofomaaDoorDZ
import Derived.Test.YtmgealcolofomaaDoorLX
import Derived.Test.YtmgealcolofomaaDoorMm
import Derived.Stop.LaidErr
namespace Go.Proofs.YtmgealcolofomaaDoor.headOwn
open Go.ChangeShapes Go.WideShapes Go.ChangeAt Go.RowKit
open Go.ChangeMaps (open_string shut_string)
open Kb
open Mh (Fl)
set_option linter.unusedVariables false
set_option maxRecDepth 20000
set_option maxRecDepth 20000

theorem flds_front {w : World} {B g c : Nat} {fs : List Fl} {ys : List Value} (own : w.ownsRow B 57 2 (.slice (some ⟨g, 0, none⟩) (fs.length + 2) c) (fs.length + 2) (cellsF fs ++ ys)) (hc : fs.length + 2 ≤ c) (hr : fs.length ≤ 1048576) : Flds w (.slice (some ⟨g, 0, none⟩) fs.length c) fs := by
  refine ⟨⟨_, c, rfl, by omega⟩, by omega, .inr ⟨_, _, rfl⟩, fun hne => ⟨g, 0, c, rfl, (own.lt g rfl).2, fun j f hj => ?_⟩⟩
  have hj2 : j < fs.length := (List.getElem?_eq_some_iff.1 hj).1
  have hl := cellsF_len fs
  obtain ⟨e0, e1⟩ := cellsF_at hj
  rw [Nat.zero_add, own.cellAt (j * 2) (by omega), own.cellAt (j * 2 + 1) (by omega), List.getElem?_append_left (by omega), List.getElem?_append_left (by omega)]
  exact ⟨e0, e1⟩
theorem spoil_both {w : World} {B n : Nat} {v : Value} {xs : List Value} (a b : ByteArray) (own : w.ownsRow B 57 2 v n xs) :
    Calls Tryd.prog 20 #[v, .agg #[.string a, .string b]] w fun e w' => e = .returned (.tuple #[]) ∧ w.grownBy w' v.ownBlock := by
  rcases own.2 with ⟨rfl, _⟩ | ⟨g, cap, cur, rfl, _, _, hnc, _⟩
  · exact (spoil_nil a b w).mono fun e w' ⟨k1, k2⟩ => ⟨k1, ⟨k2.os, k2.tape, k2.output, k2.size, fun k hk _ => k2.block k hk⟩⟩
  · exact spoil_any g cap n B a b xs w own hnc
set_option maxHeartbeats 8000000 in
theorem walk_m (m t : List UInt8) (u : Value) (fs : List Fl) (k : Int) (w : World) (hu : Flds w u fs) (hz : m.length + t.length ≤ 1048576 ∧ fs.length ≤ 1048576 ∧ ∀ f ∈ fs, f.1.length + f.2.length ≤ 1048576) (hm : MH k w)
    (hT : Lib.TabIs Tryd.prog w "internal/strconv.uint64pow10" .u64 Lib.pow10Tab) :
    Calls Tryd.prog 5 #[headV m t u] w fun e w' => e = .returned (.bool true) ∧ Below w.heap.size w w' := by
  obtain ⟨hz1, hz2, hz4⟩ := hz
  obtain ⟨p0, hp0⟩ : ∃ q : ByteArray, (⟨#[113]⟩ : ByteArray) = q := ⟨_, rfl⟩
  have HU := hide (fun W (h : Below w.heap.size w W) => hu.below h)
  have HOF : Hid (∀ W, Calls Tryd.prog 17 #[.agg #[.string ⟨#[]⟩, .string ⟨#[]⟩, .slice none 0 0]] W fun e w' => ∃ k1 k2 k3 : Int, e = .returned (.tuple #[.agg #[.int .i64 k1, .int .i64 k2], .int .i64 k3]) ∧ k1 = 1 ∧ k3 = 0 ∧ Below W.heap.size W w') := hide (fun W => (of_any [] [] (.slice none 0 0) [] W (Flds.nil W) (by simp) (by simp) _ rfl).mono fun e w' ⟨h1, h2⟩ => ⟨_, _, _, h1, rfl, rfl, h2⟩)
  have HST := hide (fun W v (h : Below w.heap.size w W) (h2 : Flds W v fs) => strip_any m t v fs k W h2 hz2 hz1 hz4 (hm.below h))
  have hsl : (Se.strip fs).length ≤ 1048576 := Nat.le_trans (Se.less_len _ _) hz2
  have HSM1 := hide (fun W v v' (h1 : Flds W v fs) (h2 : Flds W v' fs) => same_any m t v v' fs W h1 h2)
  have HSM2 := hide (fun W v v' (h1 : Flds W v (Se.strip fs)) (h2 : Flds W v' (Se.strip fs)) => same_any m t v v' (Se.strip fs) W h1 h2)
  have HFW : Hid (∀ W v, Below w.heap.size w W → Flds W v fs → Calls Tryd.prog 6 #[.agg #[.string (mk m), .string (mk t), v, .string ⟨#[]⟩]] W fun e w' => ∃ (q : ByteArray) (z : Int), e = .returned (.tuple #[.string q, .int .i64 z]) ∧ Below W.heap.size W w') := hide (fun W v h h2 => (sfwd_any m t v fs ⟨#[]⟩ k W h2 hz2 hz1 (by decide) hz4 (hm.below h) (stab_below hT h) _ rfl).mono fun e w' ⟨h1, h2⟩ => ⟨_, _, h1, h2⟩)
  have HRM : Hid (∀ W, Below w.heap.size w W → Calls Tryd.prog 18 #[u, .agg #[.string ⟨#[113]⟩, .string ⟨#[]⟩]] W fun e w' => ∃ g c, e = .returned (.slice (some ⟨g, 0, none⟩) fs.length c) ∧ fs.length + 2 ≤ c ∧ w'.ownsRow W.heap.size 57 2 (.slice (some ⟨g, 0, none⟩) (fs.length + 2) c) (fs.length + 2) (cellsF fs ++ [.string ⟨#[113]⟩, .string ⟨#[]⟩, .string ⟨#[113]⟩, .string ⟨#[]⟩]) ∧ Below W.heap.size W w') := hide (fun W h => (roomy_any u fs ⟨#[113]⟩ ⟨#[]⟩ W (hu.below h) hz2).mono fun e w' ⟨g, c, h1, h2, h3⟩ => ⟨g, c, h1, by
    obtain ⟨g', c', k1, k2⟩ := own_form h2 (by omega)
    injection k1 with e1 e2 e3; omega, h2, h3⟩)
  have HKP := hide (fun W B g c (own : W.ownsRow B 57 2 (.slice (some ⟨g, 0, none⟩) (fs.length + 2) c) (fs.length + 2) (cellsF fs ++ [.string ⟨#[113]⟩, .string ⟨#[]⟩, .string ⟨#[113]⟩, .string ⟨#[]⟩])) (hc : fs.length + 2 ≤ c) => kept_any g c fs.length B ⟨#[113]⟩ ⟨#[]⟩ (cellsF fs) W own (cellsF_len fs) hz2 hc)
  unfold headV at HST HSM1 HSM2 ⊢
  obtain ⟨uo, c, rfl, hc⟩ := hu.form
  obtain ⟨x, hx⟩ : ∃ x, mk m = x := ⟨_, rfl⟩
  obtain ⟨y, hy⟩ : ∃ y, mk t = y := ⟨_, rfl⟩
  obtain ⟨sf, hsf⟩ : ∃ l, Se.strip fs = l := ⟨_, rfl⟩
  rw [hx, hy] at HST HSM1 HSM2 HFW ⊢
  rw [hsf] at HST HSM2 hsl
  clear hx hy hsf hu hm hT hz4 hp0 p0
  have X1 := HX.new (base := w.heap.size) w (Nat.le_refl _) x y uo fs.length c
  have bb1 := (Below.refl w.heap.size w).alloc (Nat.le_refl _) (.cells #[.string x, .string y, .slice uo fs.length c] 24)
  obtain ⟨W1, hW1⟩ : ∃ W, w.alloc (.cells #[.string x, .string y, .slice uo fs.length c] 24) = W := ⟨_, rfl⟩
  rw [hW1] at X1 bb1
  have B1 := hide bb1
  have HBOX := hide (fun W (h : Below W1.heap.size W1 W) => (⟨(X1.below h).cells, (X1.below h).lt.2⟩ : (_ ∧ _ ∧ _) ∧ _))
  have hl1 := X1.lt.2
  clear X1 bb1
  go_enter Tryd.func5, Tryd.ntmps5
  go_wp2_with fail
  clear hW1
  refine ((unhide HOF) W1).mono ?_; rintro e w2 ⟨k1, k2, k3, rfl, hk1, hk3, b2⟩
  have hk1b : (k1 != 1) = false := by rw [hk1]; rfl
  have hk3b : (k3 != 0) = false := by rw [hk3]; rfl
  have X3 := BX.new (base := w2.heap.size) w2 (Nat.le_refl _) k1 k2
  have bb3 := (Below.refl w2.heap.size w2).alloc (Nat.le_refl _) (.cells #[.int .i64 k1, .int .i64 k2] 52)
  obtain ⟨g3, hg3⟩ : ∃ g, w2.heap.size = g := ⟨_, rfl⟩
  obtain ⟨W3, hW3⟩ : ∃ W, w2.alloc (.cells #[.int .i64 k1, .int .i64 k2] 52) = W := ⟨_, rfl⟩
  rw [hW3] at X3 bb3
  rw [hg3] at X3
  obtain ⟨c0, c1⟩ := X3.cells
  have hg3l := X3.lt.2
  have B3 := hide (bel_trans b2 bb3)
  obtain ⟨⟨a0, a1, a2⟩, hl3⟩ := (unhide HBOX) W3 (unhide B3)
  have X5 := HX.new (base := W3.heap.size) W3 (Nat.le_refl _) x y uo fs.length c
  have bb5 := (Below.refl W3.heap.size W3).alloc (Nat.le_refl _) (.cells #[.string x, .string y, .slice uo fs.length c] 24)
  obtain ⟨g5, hg5⟩ : ∃ g, W3.heap.size = g := ⟨_, rfl⟩
  have hg15 : W1.heap.size ≤ g5 := by rw [← hg5]; exact (unhide B3).size
  obtain ⟨W5, hW5⟩ : ∃ W, W3.alloc (.cells #[.string x, .string y, .slice uo fs.length c] 24) = W := ⟨_, rfl⟩
  rw [hW5] at X5 bb5
  rw [hg5] at X5
  have HX5 := hide X5
  have hg5l := X5.lt.2
  have B5 := hide (bel_trans (unhide B3) bb5)
  obtain ⟨⟨d0, d1, d2⟩, hl5⟩ := (unhide HBOX) W5 (unhide B5)
  clear X3 bb3 b2 X5 bb5 B3 HOF hk1 hk3
  go_wp2_with fail
  clear hW3 hg3 hW5 hg5 c0 c1 hg3l a0 a1 a2 hl3 d0 d1 d2 hl5 hk1b hk3b
  refine ((unhide HRM) W5 (bel_trans (unhide B1) (unhide B5))).mono ?_; rintro e w6 ⟨gr, cr, rfl, hcr, own6, b6⟩
  have X6 := (unhide HX5).below b6
  obtain ⟨f0, f1, f2⟩ := X6.frozen
  obtain ⟨c50, c51, c52⟩ := X6.cells
  have hg56 := X6.lt.2
  obtain ⟨X7, k7⟩ := X6.set2 (.slice (some ⟨gr, 0, none⟩) fs.length cr)
  have hgr5 := own6.lt gr rfl
  have own7 := World.ownsRow.kept own6 k7 (.inr (fun e => by have h := Option.some.inj e; have h' : gr = g5 := h; omega))
  have B7 := (bel_trans (unhide B5) b6).grown k7 (bel_trans (unhide B5) b6).size (fun q hq => by have := Option.some.inj hq; omega)
  obtain ⟨W7, hW7⟩ : ∃ W, w6.setCell ⟨g5, 2, none⟩ (.slice (some ⟨gr, 0, none⟩) fs.length cr) = W := ⟨_, rfl⟩
  rw [hW7] at X7 own7 B7
  have hgr7 := (own7.lt gr rfl).2
  have HX7 := hide X7
  have HO7 := hide own7
  have HB7 := hide B7
  obtain ⟨e50, e51, e52⟩ := X7.cells
  have hg57 := X7.lt.2
  clear X6 b6 k7 own6 own7 X7 B7 HX5 B5 HRM
  go_wp2_with fail
  clear hW7 f0 f1 f2 c50 c51 c52 hg56 e50 e51 e52 hg57
  refine ((unhide HST) W7 _ (bel_trans (unhide B1) (unhide HB7)) (flds_front (unhide HO7) hcr hz2)).mono ?_; rintro e w8 ⟨v8, rfl, own8, b8⟩
  obtain ⟨so, sc, rfl⟩ := own_forms own8
  have X9 := HX.new (base := w8.heap.size) w8 (Nat.le_refl _) x y so sf.length sc
  have bb9 := (Below.refl w8.heap.size w8).alloc (Nat.le_refl _) (.cells #[.string x, .string y, .slice so sf.length sc] 24)
  obtain ⟨g9, hg9⟩ : ∃ g, w8.heap.size = g := ⟨_, rfl⟩
  have hsv : Hid (∀ q, (Value.slice so sf.length sc).ownBlock = some q → W7.heap.size ≤ q ∧ q < g9) := hide (by rw [← hg9]; exact own8.lt)
  have hg79 : W7.heap.size ≤ g9 := by rw [← hg9]; exact b8.size
  obtain ⟨W9, hW9⟩ : ∃ W, w8.alloc (.cells #[.string x, .string y, .slice so sf.length sc] 24) = W := ⟨_, rfl⟩
  rw [hW9] at X9 bb9
  rw [hg9] at X9
  have hg9l := X9.lt.2
  have b79 := bel_trans b8 bb9
  have HX9 := hide ((unhide HX7).below b79)
  have HO9 := hide (own_below (unhide HO7) b79)
  have HS9 := hide (own_below own8 bb9)
  have HY9 := hide X9
  have HB9 := hide (bel_trans (unhide HB7) b79)
  obtain ⟨e50, e51, e52⟩ := (unhide HX9).cells
  have hg59 := (unhide HX9).lt.2
  clear own8 X9 bb9 b8 b79 HX7 HO7 HB7
  go_wp2_with fail
  clear hW9 hg9 e50 e51 e52 hg59
  refine ((unhide HFW) W9 _ (bel_trans (unhide B1) (unhide HB9)) (flds_front (unhide HO9) hcr hz2)).mono ?_; rintro e w10 ⟨qf, zf, rfl, b10⟩
  have HX10 := hide ((unhide HX9).below b10)
  have HO10 := hide (own_below (unhide HO9) b10)
  have HS10 := hide (own_below (unhide HS9) b10)
  have HY10 := hide ((unhide HY9).below b10)
  have HB10 := hide (bel_trans (unhide HB9) b10)
  obtain ⟨e50, e51, e52⟩ := (unhide HX10).cells
  have hg510 := (unhide HX10).lt.2
  obtain ⟨⟨a0, a1, a2⟩, hl10⟩ := (unhide HBOX) w10 (unhide HB10)
  have HSM := hide ((unhide HSM1) w10 _ _ (flds_front (unhide HO10) hcr hz2) ((unhide HU) w10 (bel_trans (unhide B1) (unhide HB10))))
  clear b10 HX9 HO9 HS9 HY9 HB9 HFW HSM1
  go_wp2_with fail
  clear e50 e51 e52 hg510 a0 a1 a2 hl10
  refine (unhide HSM).mono ?_; rintro e w11 ⟨rfl, b11⟩
  have HX11 := hide ((unhide HX10).below b11)
  have HO11 := hide (own_below (unhide HO10) b11)
  have HS11 := hide (own_below (unhide HS10) b11)
  have HY11 := hide ((unhide HY10).below b11)
  have HB11 := hide (bel_trans (unhide HB10) b11)
  obtain ⟨e50, e51, e52⟩ := (unhide HX11).cells
  have hg511 := (unhide HX11).lt.2
  clear b11 HX10 HO10 HS10 HY10 HB10 HSM
  go_wp2_with fail
  clear e50 e51 e52 hg511
  refine ((unhide HKP) w11 _ _ _ (unhide HO11) hcr).mono ?_; rintro e w12 ⟨rfl, b12⟩
  have HX12 := hide ((unhide HX11).below b12)
  have HO12 := hide (own_below (unhide HO11) b12)
  have HS12 := hide (own_below (unhide HS11) b12)
  have HY12 := hide ((unhide HY11).below b12)
  have HB12 := hide (bel_trans (unhide HB11) b12)
  obtain ⟨⟨a0, a1, a2⟩, hl12⟩ := (unhide HBOX) w12 (unhide HB12)
  clear b12 HX11 HO11 HS11 HY11 HB11 HKP
  go_wp2_with fail
  clear a0 a1 a2 hl12
  refine ((unhide HST) w12 _ (bel_trans (unhide B1) (unhide HB12)) ((unhide HU) w12 (bel_trans (unhide B1) (unhide HB12)))).mono ?_; rintro e w13 ⟨v13, rfl, own13, b13⟩
  obtain ⟨tw, tc, rfl⟩ := own_forms own13
  have X14 := HX.new (base := w13.heap.size) w13 (Nat.le_refl _) x y tw sf.length tc
  have bb14 := (Below.refl w13.heap.size w13).alloc (Nat.le_refl _) (.cells #[.string x, .string y, .slice tw sf.length tc] 24)
  obtain ⟨g14, hg14⟩ : ∃ g, w13.heap.size = g := ⟨_, rfl⟩
  have htv : Hid (∀ q, (Value.slice tw sf.length tc).ownBlock = some q → w12.heap.size ≤ q ∧ q < g14) := hide (by rw [← hg14]; exact own13.lt)
  have hg1214 : w12.heap.size ≤ g14 := by rw [← hg14]; exact b13.size
  have hgr12 := ((unhide HO12).lt gr rfl).2
  have hg912 := (unhide HY12).lt.2
  have hg512 := (unhide HX12).lt.2
  obtain ⟨W14, hW14⟩ : ∃ W, w13.alloc (.cells #[.string x, .string y, .slice tw sf.length tc] 24) = W := ⟨_, rfl⟩
  rw [hW14] at X14 bb14
  rw [hg14] at X14
  have b1214 := bel_trans b13 bb14
  have HX14 := hide ((unhide HX12).below b1214)
  have HO14 := hide (own_below (unhide HO12) b1214)
  have HS14 := hide (own_below (unhide HS12) b1214)
  have HY14 := hide ((unhide HY12).below b1214)
  have HT14 := hide (own_below own13 bb14)
  have HZ14 := hide X14
  have HB14 := hide (bel_trans (unhide HB12) b1214)
  obtain ⟨e50, e51, e52⟩ := (unhide HX14).cells
  have hg514 := (unhide HX14).lt.2
  have HSP := hide (spoil_any gr cr fs.length g5 ⟨#[]⟩ ⟨#[]⟩ (cellsF fs) W14 (by
    refine ⟨cellsF_len fs, .inr ?_⟩
    rcases (unhide HO14).2 with ⟨h1, _⟩ | ⟨g', cap, cur, h1, h2, h3, h4, h5, h6, h7⟩
    · cases h1
    · cases h1
      refine ⟨gr, cr, cur, rfl, by omega, h3, by omega, h5, h6, ?_⟩
      have h8 := congrArg (List.take (fs.length * 2)) h7
      rw [List.take_take, Nat.min_eq_left (by omega), List.take_left' (cellsF_len fs)] at h8
      exact h8) (by omega))
  clear own13 X14 bb14 b13 b1214 HX12 HO12 HS12 HY12 HB12
  go_wp2_with fail
  clear hW14 hg14 e50 e51 e52 hg514
  refine (unhide HSP).mono ?_; rintro e w15 ⟨rfl, k15⟩
  have HS15 := hide (World.ownsRow.kept (unhide HS14) k15 (.inr (fun e => by have := (unhide hsv) gr e; omega)))
  have HY15 := hide ((unhide HY14).kept k15 (fun e => by have h := Option.some.inj e; omega))
  have HT15 := hide (World.ownsRow.kept (unhide HT14) k15 (.inr (fun e => by have := (unhide htv) gr e; omega)))
  have HZ15 := hide ((unhide HZ14).kept k15 (fun e => by have h := Option.some.inj e; omega))
  have HB15 := hide ((unhide HB14).grown k15 (unhide HB14).size (fun q hq => by have := Option.some.inj hq; omega))
  obtain ⟨e90, e91, e92⟩ := (unhide HY15).cells
  obtain ⟨q0, q1, q2⟩ := (unhide HZ15).cells
  have hg915 := (unhide HY15).lt.2
  have hg1415 := (unhide HZ15).lt.2
  have HSM := hide ((unhide HSM2) w15 _ _ (Flds.own (unhide HS15) (by omega)) (Flds.own (unhide HT15) (by omega)))
  clear k15 HX14 HO14 HS14 HY14 HT14 HZ14 HB14 HSP
  go_wp2_with fail
  clear e90 e91 e92 q0 q1 q2 hg915 hg1415
  refine (unhide HSM).mono ?_; rintro e w16 ⟨rfl, b16⟩
  have HS16 := hide (own_below (unhide HS15) b16)
  have HY16 := hide ((unhide HY15).below b16)
  have HT16 := hide (own_below (unhide HT15) b16)
  have HZ16 := hide ((unhide HZ15).below b16)
  have HB16 := hide (bel_trans (unhide HB15) b16)
  obtain ⟨e90, e91, e92⟩ := (unhide HY16).cells
  have hg916 := (unhide HY16).lt.2
  have HSP := hide (spoil_both ⟨#[]⟩ ⟨#[]⟩ (unhide HS16))
  clear b16 HS15 HY15 HT15 HZ15 HB15 HSM
  go_wp2_with fail
  clear e90 e91 e92 hg916
  refine (unhide HSP).mono ?_; rintro e w17 ⟨rfl, k17⟩
  have HT17 := hide (World.ownsRow.kept (unhide HT16) k17 (by
    cases hq : (Value.slice tw sf.length tc).ownBlock with
    | none => exact .inl rfl
    | some q => exact .inr (fun e => by have h1 := (unhide hsv) q e.symm; have h2 := (unhide htv) q hq; omega)))
  have HZ17 := hide ((unhide HZ16).kept k17 (fun e => by have := (unhide hsv) g14 e; omega))
  have HB17 := hide ((unhide HB16).grown k17 (unhide HB16).size (fun q hq => by have := (unhide hsv) q hq; omega))
  clear k17 HS16 HY16 HT16 HZ16 HB16 HSP
  have HGA : ∀ W, Below w17.heap.size w17 W → Calls Tryd.prog 9 #[.agg #[.string x, .string y, .slice uo fs.length c]] W fun e W' => ∃ v, e = .returned (.agg #[.string x, .string y, v]) ∧ Flds W' v sf ∧ Below w17.heap.size w17 W' := fun W h => ((unhide HST) W _ (bel_trans (unhide B1) (bel_trans (unhide HB17) h)) ((unhide HU) W (bel_trans (unhide B1) (bel_trans (unhide HB17) h)))).mono fun e W' ⟨v, k1, k2, k3⟩ => ⟨v, k1, Flds.own k2 (by omega), bel_trans h k3⟩
  have HEQ : ∀ W v, Below w17.heap.size w17 W → Flds W v sf → Calls Tryd.prog 8 #[.agg #[.string x, .string y, v], .agg #[.string x, .string y, .slice tw sf.length tc]] W fun e W' => e = .returned (.bool true) ∧ Below w17.heap.size w17 W' := fun W v h h1 => ((unhide HSM2) W v _ h1 ((Flds.own (unhide HT17) (by omega)).below h)).mono fun e W' k => ⟨k.1, bel_trans h k.2⟩
  have HSI : ∀ W, Below w17.heap.size w17 W → (W.cell? ⟨w.heap.size, 0, none⟩ = some (.string x) ∧ W.cell? ⟨w.heap.size, 1, none⟩ = some (.string y) ∧ W.cell? ⟨w.heap.size, 2, none⟩ = some (.slice uo fs.length c) ∧ W.cell? ⟨g14, 0, none⟩ = some (.string x) ∧ W.cell? ⟨g14, 1, none⟩ = some (.string y) ∧ W.cell? ⟨g14, 2, none⟩ = some (.slice tw sf.length tc) ∧ Below w17.heap.size w17 W) := fun W h => by
    obtain ⟨e0, e1, e2⟩ := ((unhide HZ17).below h).cells
    obtain ⟨⟨h0, h1, h2⟩, _⟩ := (unhide HBOX) W (bel_trans (unhide HB17) h)
    exact ⟨h0, h1, h2, e0, e1, e2, h⟩
  have hB2 := Below.refl w17.heap.size w17
  have s2 := HSI w17 hB2
  obtain ⟨Sb, hSb⟩ : ∃ Q : World → Prop, Below w17.heap.size w17 = Q := ⟨_, rfl⟩
  rw [hSb] at s2 hB2
  have FGA : Hid (∀ W, Sb W → Calls Tryd.prog 9 #[.agg #[.string x, .string y, .slice uo fs.length c]] W fun e W' => ∃ v, e = .returned (.agg #[.string x, .string y, v]) ∧ Flds W' v sf ∧ Sb W') := hide (by rw [← hSb]; exact HGA)
  have FEQ : Hid (∀ W v, Sb W → Flds W v sf → Calls Tryd.prog 8 #[.agg #[.string x, .string y, v], .agg #[.string x, .string y, .slice tw sf.length tc]] W fun e W' => e = .returned (.bool true) ∧ Sb W') := hide (by rw [← hSb]; exact HEQ)
  have FS : Hid (∀ W, Sb W → (W.cell? ⟨w.heap.size, 0, none⟩ = some (.string x) ∧ W.cell? ⟨w.heap.size, 1, none⟩ = some (.string y) ∧ W.cell? ⟨w.heap.size, 2, none⟩ = some (.slice uo fs.length c) ∧ W.cell? ⟨g14, 0, none⟩ = some (.string x) ∧ W.cell? ⟨g14, 1, none⟩ = some (.string y) ∧ W.cell? ⟨g14, 2, none⟩ = some (.slice tw sf.length tc) ∧ Sb W)) := hide (by rw [← hSb]; exact HSI)
  have FC : Hid (∀ W, (W.cell? ⟨w.heap.size, 0, none⟩ = some (.string x) ∧ W.cell? ⟨w.heap.size, 1, none⟩ = some (.string y) ∧ W.cell? ⟨w.heap.size, 2, none⟩ = some (.slice uo fs.length c) ∧ W.cell? ⟨g14, 0, none⟩ = some (.string x) ∧ W.cell? ⟨g14, 1, none⟩ = some (.string y) ∧ W.cell? ⟨g14, 2, none⟩ = some (.slice tw sf.length tc) ∧ Sb W) → (W.drew.cell? ⟨w.heap.size, 0, none⟩ = some (.string x) ∧ W.drew.cell? ⟨w.heap.size, 1, none⟩ = some (.string y) ∧ W.drew.cell? ⟨w.heap.size, 2, none⟩ = some (.slice uo fs.length c) ∧ W.drew.cell? ⟨g14, 0, none⟩ = some (.string x) ∧ W.drew.cell? ⟨g14, 1, none⟩ = some (.string y) ∧ W.drew.cell? ⟨g14, 2, none⟩ = some (.slice tw sf.length tc) ∧ Sb W.drew)) := hide (fun W h => unhide FS _ (by have := h.2.2.2.2.2.2; rw [← hSb] at this ⊢; exact this.drew))
  have FX : Hid (∀ W, (W.cell? ⟨w.heap.size, 0, none⟩ = some (.string x) ∧ W.cell? ⟨w.heap.size, 1, none⟩ = some (.string y) ∧ W.cell? ⟨w.heap.size, 2, none⟩ = some (.slice uo fs.length c) ∧ W.cell? ⟨g14, 0, none⟩ = some (.string x) ∧ W.cell? ⟨g14, 1, none⟩ = some (.string y) ∧ W.cell? ⟨g14, 2, none⟩ = some (.slice tw sf.length tc) ∧ Sb W) → Sb W) := hide (fun W h => h.2.2.2.2.2.2)
  have HOUT : Hid (∀ W, Sb W → Below w.heap.size w W) := hide (by rw [← hSb]; exact fun W h => bel_trans (unhide B1) (bel_trans (unhide HB17) h))
  clear HGA HEQ HSI hSb hB2 HST HSM2 HU HBOX HZ17 HT17 HB17 B1 hsv htv
  go_wp2_with fail
  go_region_held3 (fun W => W.cell? ⟨w.heap.size, 0, none⟩ = some (.string x) ∧ W.cell? ⟨w.heap.size, 1, none⟩ = some (.string y) ∧ W.cell? ⟨w.heap.size, 2, none⟩ = some (.slice uo fs.length c) ∧ W.cell? ⟨g14, 0, none⟩ = some (.string x) ∧ W.cell? ⟨g14, 1, none⟩ = some (.string y) ∧ W.cell? ⟨g14, 2, none⟩ = some (.slice tw sf.length tc) ∧ Sb W) (first | assumption | exact unhide FC _ (by assumption) | exact unhide FS _ (by assumption))
    (first
      | (go_at_call 8; refine (unhide FEQ _ _ (unhide FX _ (by assumption)) fa).mono ?_; rintro e w' ⟨rfl, hw'⟩)
      | (go_at_call 9; refine (unhide FGA _ (unhide FX _ (by assumption))).mono ?_; rintro e w' ⟨v1, rfl, fa, hw'⟩))
  clear FS FC FEQ FGA
  go_wp2_with fail
  go_ret
  exact ⟨rfl, unhide HOUT _ (unhide FX _ (by assumption))⟩
theorem walk (m t : List UInt8) (u : Value) (fs : List Fl) (hb : 0 ≤ 1048576) (w : World) (hu : Flds w u fs) (hz : m.length + t.length ≤ 1048576 ∧ fs.length ≤ 1048576 ∧ ∀ f ∈ fs, f.1.length + f.2.length ≤ 1048576) (hsh : w.ShapedOpen Tryd.prog) (hL : laidMetH Tryd.prog Rows.headOwnUptoRow.laid w) :
    Calls Tryd.prog 5 #[headV m t u] w fun e w' => e = .returned (.bool true) ∧ Below w.heap.size w w' := by
  obtain ⟨k, hk⟩ := Tryd.laysM143.s1_3 w hsh
  exact walk_m m t u fs k w hu hz hk (pow_of (W := w) hL)
theorem own : ownKnob Tryd.prog.godebug = none := by kernel_rfl

theorem small_of {H : Type} {a0 : DataW H} (hk : Rows.uptoSmall H ([a0] ++ []) = true) : Rows.uptoBulk a0 ≤ 1048576 := by
  have h := of_decide_eq_true hk
  simp only [Rows.uptoBulkAll, List.append_nil] at h
  omega

set_option maxRecDepth 100000 in
theorem contract (H : Type) (enc : TypeId × Value → H) (W : World) (base : Nat) (args : Array Value) (ds gs : List (DataW H)) (before : List MemPlace) (hsh : W.ShapedOpen Tryd.prog)
    (hval0 : ∀ (j : Nat) t v, Tryd.f5.params[j]? = some t → args[j]? = some v → Value.okWide Tryd.prog W .any base t v)
    (hW : DataW.Whole enc Tryd.prog Tryd.f5.params.toList Rows.headOwnSpec.vars false W args.toList ds gs before) (hk : Rows.uptoSmall H (ds ++ gs) = true) (hL : laidMetH Tryd.prog Rows.headOwnUptoRow.laid W) :
    Calls Tryd.prog 5 args W fun e W' => ∃ v, e = .returned v ∧ Rows.headOwnSpec.post enc Tryd.prog Tryd.f5 false true false false W args v W' := by
  have hval : ∀ (j : Nat) t v, Tryd.f5.params[j]? = some t → args[j]? = some v → Value.okWide Tryd.prog W .any base t v := hval0
  have hW' := hW
  obtain ⟨p, q, hA0, hV, rfl, hfz, hnd⟩ := hW
  have hA : DataW.TrodAll enc Tryd.prog W 0 (fun _ => true) true Tryd.f5.params.toList args.toList ds p := hA0
  rw [Tryd.params5] at hA hval
  obtain ⟨v0, vs0, d0, ds0, p0, q0, hargs, rfl, rfl, h0, r0⟩ := trodAll_cons hA
  obtain ⟨rfl, rfl, rfl⟩ := trodAll_nil r0
  obtain rfl : args = #[v0] := by cases args; simp_all
  obtain ⟨rfl, rfl⟩ := trodVars_none hV
  have hsm := small_of hk
  obtain ⟨m0, t0, u0, f0, rfl, hI0, hz0, hlt0⟩ := open_head_in (hval 0 24 v0 rfl rfl) h0 (by omega)
  clear hA0 hval0
  refine (walk m0 t0 u0 f0 (by omega) W hI0 hz0 hsh hL).mono fun e W' ⟨he, hb⟩ => ?_
  subst he
  exact ⟨_, rfl, _, _, _, [], (p0 ++ []), [], hW', (trodAll_cons_mk (shut_bool Tryd.underlying4 _) trodAll_mk0), (trodAll_cons_mk (Below.trod laidOutAll (by kernel_rfl) (of_decide_eq_true (by kernel_rfl)) h0 hb hlt0) trodAll_mk0), rfl, hb.frame _, fun h => by cases h⟩

theorem reads (os : Os) {H : Type} (enc : TypeId × Value → H) : ∃ places, DataW.whole enc Tryd.prog ((laidIn (World.holding Tryd.prog os ⟨#[], #[], []⟩)).forCall (fun _ _ => 0) ⟨#[], #[.agg #[.string ByteArray.empty, .string ByteArray.empty, .slice none 0 0]], []⟩).memory Tryd.f5.params.toList Rows.headOwnSpec.vars false (#[.agg #[.string ByteArray.empty, .string ByteArray.empty, .slice none 0 0]] : Array Value).toList 8 = some ([.agg [.lit (.string []), .lit (.string []), .nil]], [], places) :=
  ⟨[], by kernel_rfl⟩
theorem laid_met (os : Os) : laidMet Tryd.prog Rows.headOwnUptoRow.laid ((laidIn (World.holding Tryd.prog os ⟨#[], #[], []⟩)).forCall (fun _ _ => 0) ⟨#[], #[.agg #[.string ByteArray.empty, .string ByteArray.empty, .slice none 0 0]], []⟩).memory :=
  laidMet_of_run' 8 (by kernel_rfl) (by kernel_rfl)

set_option maxRecDepth 100000 in
theorem lifted (os : Os) (started : os.Started) (H : Type) (enc : TypeId × Value → H) (F : Stop.Interp) :
    ReturnsInHanded {} Tryd.checked os 5 .any ((Rows.OpenSpec.upto Rows.headOwnSpec).preRow enc Tryd.prog Tryd.f5 Rows.headOwnUptoRow.domain false Rows.headOwnUptoRow.laid) (((Rows.OpenSpec.upto Rows.headOwnSpec).at F).post enc Tryd.prog Tryd.f5 false true false false) := by
  obtain ⟨places, hx⟩ := reads os enc
  refine returnsInHanded_of_row (C := Tryd.checked) (s := Rows.OpenSpec.upto Rows.headOwnSpec) own started (by kernel_rfl) Tryd.func5
    (witness_row_at (enc := enc) (C := Tryd.checked) false (laidIn (World.holding Tryd.prog os ⟨#[], #[], []⟩)) #[.agg #[.string ByteArray.empty, .string ByteArray.empty, .slice none 0 0]] rfl (by kernel_rfl) (by kernel_rfl) (by kernel_rfl)
      (OpenSpec.preRow_of_cond 8 hx (by kernel_rfl) (fun k hk => by cases hk; kernel_rfl) (by kernel_rfl) (laid_met os))) ?_
  intro W base args ds gs before hval hW _ hcond _ hL hsh _
  exact contract H enc W base args ds gs before hsh hval hW (hcond _ rfl) hL

theorem row : Rows.HeadOwnUptoSaid :=
  OpenClaim.holds_of_cond 5 Tryd.f5 rfl rfl rfl rfl rfl rfl rfl ⟨rfl, rfl, rfl, rfl, rfl⟩ rfl rfl rfl rfl rfl (by kernel_rfl) Tryd.func5 (by kernel_rfl)
    (of_decide_eq_true (by kernel_rfl)) (by unfold Func.isWrapper; first | (rw [if_pos (by decide +kernel)]; kernel_rfl) | (rw [if_neg (by decide +kernel)]; exact ⟨rfl, rfl⟩))
    (fun os started H enc _ F => by rw [OpenClaim.pre_eq_preRow]; exact lifted os started H enc F)

theorem plain (f : FuncId) (fn : Func) (hf : Tryd.pinned.checked.prog.funcNamed "gatewicket/wickkeep.HeadOwn" = some f) (hfn : Tryd.pinned.checked.prog.funcs[f]? = some fn) :
    false = Tryd.pinned.checked.prog.looks [] ∧ ∀ (j : Nat) t, fn.params[j]? = some t → Tryd.pinned.checked.prog.wantsStandIn t = false := by
  obtain rfl : f = 5 := Option.some.inj ((show Tryd.prog.funcNamed "gatewicket/wickkeep.HeadOwn" = some 5 by kernel_rfl).symm.trans hf) |>.symm
  obtain rfl : fn = Tryd.f5 := (Option.some.inj (Tryd.func5.symm.trans hfn)).symm
  refine ⟨by kernel_rfl, fun j t ht => ?_⟩
  rw [Tryd.params5] at ht
  have hm : t = 24 := by simpa using Array.mem_of_getElem? ht
  subst hm
  exact (show Tryd.prog.wantsStandIn 24 = false by kernel_rfl)

theorem over : Rows.HeadOwnUptoCardSaid :=
  Claim7.holds_tied_plain_at .later [] _ _ _ _ row (fun _ h => by cases h) (by kernel_rfl) (fun _ h => by cases h) headOwnUpto_row_tie rfl ⟨rfl, rfl⟩ (by kernel_rfl) rfl plain (by kernel_rfl)
end Go.Proofs.YtmgealcolofomaaDoor.headOwn
namespace Go.Proofs.YtmgealcolofomaaDoor
theorem headOwn_holds : Rows.HeadOwnUptoCardSaid := headOwn.over
#print axioms headOwn_holds
end Go.Proofs.YtmgealcolofomaaDoor
