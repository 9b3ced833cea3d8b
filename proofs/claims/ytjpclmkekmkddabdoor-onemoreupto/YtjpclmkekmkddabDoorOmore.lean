/- Where more is asked for nothing was there; a beginning of a request asks for more; what is read is read the same, whatever stands behind: whatever is handed in.
   Conditions: what is handed in is of bulk at most 1048576; the library's tables are as the program's text lays them, and its own variable MaxLen holds whatever number. -/
import Derived.Test.YtjpclmkekmkddabDoorRows
import Derived.Test.YtjpclmkekmkddabDoorTie
import Derived.Test.YtjpclmkekmkddabDoorCards
import Derived.WalkKit
import Derived.ProofKit
import Derived.OpenShut
import Derived.ShutString
import Derived.JoinedCond
import Derived.Test.YtjpclmkekmkddabDoorUl
import Derived.Test.YtjpclmkekmkddabDoorLaid
import Derived.Stop.LaidErr
namespace Go.Proofs.YtjpclmkekmkddabDoor
open Go.RowKit Kb
set_option linter.unusedVariables false
set_option maxRecDepth 20000
theorem rest_big1 (n m : Int) (hn : -9223372036854775808 ≤ n ∧ n ≤ 9223372036854775807) (hm : 0 < m) (hm2 : m ≤ 1099511627776) (w : World) :
    Calls Tryd.prog 7 #[.int .i64 n, .int .i64 m] w fun e w' => e = .returned (.int .i64 (n % m)) ∧ w' = w := by
  have h1 : Int.tmod n m = if n % m = 0 then 0 else if 0 ≤ n then n % m else n % m - m := by
    rcases Int.lt_or_le n 0 with h | h
    · have e := Int.tmod_eq_emod (a := n) (b := m)
      rw [e]
      by_cases hd : m ∣ n
      · have : n % m = 0 := Int.emod_eq_zero_of_dvd hd
        simp [this, hd]
      · have h0 : n % m ≠ 0 := fun e => hd (Int.dvd_of_emod_eq_zero e)
        rw [if_neg (by rintro (h' | h'); omega; exact hd h'), if_neg h0, if_neg (by omega)]
        omega
    · rw [Int.tmod_eq_emod_of_nonneg h, if_pos h]; split <;> omega
  have hb := Int.emod_nonneg n (by omega : m ≠ 0)
  have hb2 := Int.emod_lt_of_pos n hm
  obtain ⟨r, hr⟩ : ∃ r, n % m = r := ⟨_, rfl⟩
  rw [hr] at h1 hb hb2 ⊢
  obtain ⟨t, ht⟩ : ∃ t, Int.tmod n m = t := ⟨_, rfl⟩
  rw [ht] at h1
  have hm0 : ¬ m = 0 := by omega
  have hw : IntKind.i64.wrap t = t := by rw [IntKind.wrap_i64]; split at h1 <;> (try split at h1) <;> omega
  have H1 := hide h1
  by_cases hneg : t < 0
  · have hs : t + m = r := by rw [unhide H1]; split at h1 <;> (try split at h1) <;> omega
    clear h1
    go_enter Tryd.func7, Tryd.ntmps7
    go_wp2_with fail
    go_ret
    exact ⟨rfl, rfl⟩
  · have hs : t = r := by rw [unhide H1]; split at h1 <;> (try split at h1) <;> omega
    clear h1
    subst hs
    go_enter Tryd.func7, Tryd.ntmps7
    go_wp2_with fail
    go_ret
    exact ⟨rfl, rfl⟩
theorem req_alloc {V w2 : World} (bb : Below (V.alloc (.cells #[.string ⟨#[]⟩, .string ⟨#[]⟩, .slice none 0 0, .string ⟨#[]⟩] 28)).heap.size (V.alloc (.cells #[.string ⟨#[]⟩, .string ⟨#[]⟩, .slice none 0 0, .string ⟨#[]⟩] 28)) w2) :
    (w2.cell? ⟨V.heap.size, 0, none⟩ = some (.string ⟨#[]⟩) ∧ w2.cell? ⟨V.heap.size, 1, none⟩ = some (.string ⟨#[]⟩) ∧ w2.cell? ⟨V.heap.size, 2, none⟩ = some (.slice none 0 0) ∧ w2.cell? ⟨V.heap.size, 3, none⟩ = some (.string ⟨#[]⟩)) ∧ (w2.frozen? ⟨V.heap.size, 0, none⟩ = false ∧ w2.frozen? ⟨V.heap.size, 1, none⟩ = false ∧ w2.frozen? ⟨V.heap.size, 2, none⟩ = false ∧ w2.frozen? ⟨V.heap.size, 3, none⟩ = false) ∧ V.heap.size < w2.heap.size := by
  have Q := (QX.new (base := V.heap.size) V (Nat.le_refl _) ⟨#[]⟩ ⟨#[]⟩ none 0 0 ⟨#[]⟩).below bb
  exact ⟨Q.cells, Q.frozen, Q.lt.2⟩
theorem req_alloc_d {V w2 : World} (bb : Below (V.alloc (.cells #[.string ⟨#[]⟩, .string ⟨#[]⟩, .slice none 0 0, .string ⟨#[]⟩] 28)).drew.heap.size (V.alloc (.cells #[.string ⟨#[]⟩, .string ⟨#[]⟩, .slice none 0 0, .string ⟨#[]⟩] 28)).drew w2) :
    (w2.cell? ⟨V.heap.size, 0, none⟩ = some (.string ⟨#[]⟩) ∧ w2.cell? ⟨V.heap.size, 1, none⟩ = some (.string ⟨#[]⟩) ∧ w2.cell? ⟨V.heap.size, 2, none⟩ = some (.slice none 0 0) ∧ w2.cell? ⟨V.heap.size, 3, none⟩ = some (.string ⟨#[]⟩)) ∧ (w2.frozen? ⟨V.heap.size, 0, none⟩ = false ∧ w2.frozen? ⟨V.heap.size, 1, none⟩ = false ∧ w2.frozen? ⟨V.heap.size, 2, none⟩ = false ∧ w2.frozen? ⟨V.heap.size, 3, none⟩ = false) ∧ V.heap.size < w2.heap.size :=
  req_alloc (V := V) ⟨bb.os, bb.tape, bb.output, bb.size, bb.block⟩
theorem grownBy_setC (w : World) (g o : Nat) (v : Value) : w.grownBy (w.setCell ⟨g, o, none⟩ v) (some g) :=
  ⟨rfl, rfl, rfl, by simp, fun k hk hn => Below.heap_setCell _ _ _ _ (fun e => hn (by rw [e]))⟩
theorem bel_setQ {N g : Nat} {W V : World} {a b c d : Value} (h : Below N W V) (hN : N ≤ V.heap.size) (hg : N ≤ g) : Below N W ((((V.setCell ⟨g, 0, none⟩ a).setCell ⟨g, 1, none⟩ b).setCell ⟨g, 2, none⟩ c).setCell ⟨g, 3, none⟩ d) := by
  have g1 : V.grownBy ((((V.setCell ⟨g, 0, none⟩ a).setCell ⟨g, 1, none⟩ b).setCell ⟨g, 2, none⟩ c).setCell ⟨g, 3, none⟩ d) (some g) :=
    (((grownBy_setC V g 0 a).trans (grownBy_setC _ g 1 b)).trans (grownBy_setC _ g 2 c)).trans (grownBy_setC _ g 3 d)
  exact h.grown g1 hN (fun k hk => by have := Option.some.inj hk; omega)
end Go.Proofs.YtjpclmkekmkddabDoor
namespace Go.Proofs.YtjpclmkekmkddabDoor.oneMore
open Go.ChangeShapes Go.WideShapes Go.ChangeAt Go.RowKit
open Go.ChangeMaps (open_string shut_string)
open Kb
open Mh (Fl)
set_option linter.unusedVariables false
set_option maxRecDepth 20000

theorem get_more : On.tellQ (On.oneB 4096 4096 40 [71, 69, 84, 32, 47]) = (([], [], [], []), 0, 7) := by
  have : On.oneB 4096 4096 40 [71, 69, 84, 32, 47] = .error 7 := by
    unfold On.oneB On.one On.headP
    rw [if_neg (by decide), if_pos (by decide)]
    rfl
  rw [this]; rfl
set_option maxHeartbeats 8000000 in
theorem walk_m (s : ByteArray) (hd bd ar : Int) (at_ : Int) (more : ByteArray) (k : Int) (hb : s.size + more.size ≤ 1048576) (ha : -9223372036854775808 ≤ at_ ∧ at_ ≤ 9223372036854775807) (w : World) (hm : MH k w) :
    Calls Tryd.prog 3 #[.string s, .agg #[.int .i64 hd, .int .i64 bd, .int .i64 ar], .int .i64 at_, .string more] w fun e w' => e = .returned (.bool true) ∧ Below w.heap.size w w' := by
  have HWD := hide (fun W => wide_any W)
  have HG := hide (fun W (hW : MH k W) => one_any ⟨#[71, 69, 84, 32, 47]⟩ 4096 4096 40 k W (by decide) hW _ get_more)
  have HRS := hide (fun n (h1 : 0 < n) (h2 : n ≤ 1099511627776) W => rest_big1 at_ n ha h1 h2 W)
  obtain ⟨⟨⟨a, b, fs, t⟩, n, z⟩, ho⟩ : ∃ o, On.tellQ (On.oneB hd bd ar s.data.toList) = o := ⟨_, rfl⟩
  have HON := hide (fun W (hW : MH k W) => one_any s hd bd ar k W (by omega) hW _ ho)
  have hcase : (z ≠ 0 ∧ a = [] ∧ b = [] ∧ fs = [] ∧ t = [] ∧ n = 0) ∨ (z = 0 ∧ ∃ j : Nat, n = j ∧ 4 ≤ j ∧ j ≤ s.size ∧ (t.length : Int) ≤ bd ∧ fs.length ≤ 4398046511104 ∧ On.tellQ (On.oneB hd bd ar (s.data.toList ++ more.data.toList)) = ((a, b, fs, t), n, 0) ∧ ∀ i, i < j → On.tellQ (On.oneB hd bd ar (s.data.toList.take i)) = (([], [], [], []), 0, 7)) := by
    rcases h : On.oneB hd bd ar s.data.toList with e | ⟨q, j⟩
    · rw [h] at ho
      dsimp only [On.tellQ] at ho
      injection ho with e1 e2; injection e1 with e1 e3; injection e3 with e3 e4; injection e4 with e4 e5; injection e2 with e2 e6
      subst e1 e3 e4 e5 e2 e6
      refine .inl ⟨?_, rfl, rfl, rfl, rfl, rfl⟩
      unfold On.oneB at h
      split at h
      · rename_i hne; cases h; exact hne
      · have := On.one_errs h; omega
    · rw [h] at ho
      have hfl := ho
      dsimp only [On.tellQ] at ho
      injection ho with e1 e2; injection e2 with e2 e6
      subst e1 e2 e6
      unfold On.oneB at h
      split at h
      · cases h
      · rename_i hb0
        have hb0 : On.bnd hd bd ar = 0 := by simpa using hb0
        obtain ⟨g1, g2, g3, g4, g5⟩ := On.one_ok (On.bnd_ok hb0).2.1.1 h
        rw [len_data] at g2
        have hoB : ∀ l, On.oneB hd bd ar l = On.one hd.toNat bd l := fun l => by unfold On.oneB; rw [if_neg (by simpa using hb0)]
        refine .inr ⟨rfl, j, rfl, g1, g2, g3, ?_, by rw [hoB, g4]; rfl, fun i hi => by rw [hoB, g5 i hi]; rfl⟩
        exact On.one_len (hd := hd.toNat) (bd := bd) (s := s.data.toList) (z := 0) (n := (j : Int)) (a := a) (b := b) (t := t) (by rw [h]; rfl)
  have HC := hide hcase
  have HSM := hide (fun W v u (h1 : Flds W v fs) (h2 : Flds W u fs) => samereq_any a b t v u fs W h1 h2)
  unfold bndV at HWD HG HON
  unfold reqV at HSM
  dsimp only at HG HON
  rw [List.length_nil] at HG
  have e0 : mk [] = ByteArray.empty := rfl
  rw [e0] at HG
  obtain ⟨x, hx⟩ : ∃ x, mk a = x := ⟨_, rfl⟩
  obtain ⟨y, hy⟩ : ∃ y, mk b = y := ⟨_, rfl⟩
  obtain ⟨q, hq⟩ : ∃ q, mk t = q := ⟨_, rfl⟩
  have HXY : Hid (mk a = x ∧ mk b = y ∧ mk t = q) := hide ⟨hx, hy, hq⟩
  rw [hx, hy, hq] at HON HSM
  clear hx hy hq ho hcase e0
  obtain ⟨z0, z1, z2⟩ := three_newF w (.int .i64 hd) (.int .i64 bd) (.int .i64 ar) 23
  have b0 := (Below.refl w.heap.size w).alloc (Nat.le_refl _) (.cells #[.int .i64 hd, .int .i64 bd, .int .i64 ar] 23)
  have hl0 : w.heap.size < (w.alloc (.cells #[.int .i64 hd, .int .i64 bd, .int .i64 ar] 23)).heap.size := by simp
  obtain ⟨W0, hW0⟩ : ∃ W, w.alloc (.cells #[.int .i64 hd, .int .i64 bd, .int .i64 ar] 23) = W := ⟨_, rfl⟩
  rw [hW0] at b0 z0 z1 z2 hl0
  have HM0 := hide (hm.below b0)
  have HBX := hide (fun W (h : Below W0.heap.size W0 W) => (⟨cell_below z0 hl0 h, cell_below z1 hl0 h, cell_below z2 hl0 h⟩ : W.cell? ⟨w.heap.size, 0, none⟩ = some (.int .i64 hd) ∧ W.cell? ⟨w.heap.size, 1, none⟩ = some (.int .i64 bd) ∧ W.cell? ⟨w.heap.size, 2, none⟩ = some (.int .i64 ar)))
  have B0 := hide b0
  have HL0 := hide hl0
  clear b0 hm z0 z1 z2 hl0
  go_enter Tryd.func3, Tryd.ntmps3
  go_wp2_with fail
  clear hW0
  refine ((unhide HWD) W0).mono ?_; rintro e w1 ⟨rfl, b1⟩
  have HM1 := hide ((unhide HM0).below b1)
  have B1 := hide b1
  clear b1 HM0 HWD
  go_wp2_with fail
  refine ((unhide HG) w1 (unhide HM1)).mono ?_; rintro e w2 ⟨v2, rfl, own2, b2⟩
  obtain ⟨o2, c2, rfl⟩ := own_forms own2
  have HM2 := (unhide HM1).below b2
  have B2 := bel_trans (unhide B1) b2
  clear b2 own2 HM1 B1 HG
  have bb := (Below.refl w2.heap.size w2).alloc (Nat.le_refl _) (.cells #[.string ByteArray.empty, .string ByteArray.empty, .slice o2 0 c2, .string ByteArray.empty] 28)
  obtain ⟨W3, hW3⟩ : ∃ W, w2.alloc (.cells #[.string ByteArray.empty, .string ByteArray.empty, .slice o2 0 c2, .string ByteArray.empty] 28) = W := ⟨_, rfl⟩
  rw [hW3] at bb
  have HM3 := hide (HM2.below bb)
  have B3 := hide (bel_trans B2 bb)
  clear bb HM2 B2
  obtain ⟨x0, x1, x2⟩ := (unhide HBX) W3 (unhide B3)
  go_wp2_with fail
  clear hW3
  refine ((unhide HON) W3 (unhide HM3)).mono ?_; rintro e w4 ⟨v4, rfl, own4, b4⟩
  obtain ⟨o4, c4, rfl⟩ := own_forms own4
  have HFL : Hid (fs.length ≤ 4398046511104) := hide (by
    rcases unhide HC with ⟨_, _, _, h, _⟩ | ⟨_, j, _, _, _, _, h, _⟩
    · rw [h]; decide
    · exact h)
  have F4 := Flds.own own4 (unhide HFL)
  have HM4 := (unhide HM3).below b4
  have B4 := bel_trans (unhide B3) b4
  clear b4 own4 HM3 B3 HON x0 x1 x2
  have Q5 := QX.new (base := w4.heap.size) w4 (Nat.le_refl _) x y o4 fs.length c4 q
  have bb := (Below.refl w4.heap.size w4).alloc (Nat.le_refl _) (.cells #[.string x, .string y, .slice o4 fs.length c4, .string q] 28)
  obtain ⟨g5, hg5⟩ : ∃ g, w4.heap.size = g := ⟨_, rfl⟩
  obtain ⟨W5, hW5⟩ : ∃ W, w4.alloc (.cells #[.string x, .string y, .slice o4 fs.length c4, .string q] 28) = W := ⟨_, rfl⟩
  rw [hW5] at bb Q5
  rw [hg5] at Q5
  have HM5 := hide (HM4.below bb)
  have B5 := hide (bel_trans B4 bb)
  have F5 := hide (F4.below bb)
  have R5 := hide Q5
  clear bb HM4 B4 F4 Q5
  obtain ⟨y0, y1, y2, y3⟩ := (unhide R5).cells
  rcases unhide HC with ⟨hz, e1, e2, e3, e4, e5⟩ | ⟨hz, j, hj, hj4, hjs, htb, hfl, ho2, ho3⟩
  · have HS := hide (fun W (b : Below W5.heap.size W5 W) => (unhide HSM) W _ (.slice none 0 0) ((unhide F5).below b) (by rw [e3]; exact Flds.nil _))
    have hz0 : (z != 0) = true := by simpa using hz
    obtain ⟨h1, h2, h3⟩ := unhide HXY
    have hx0 : x = ByteArray.empty := by rw [← h1, e1]; rfl
    have hy0 : y = ByteArray.empty := by rw [← h2, e2]; rfl
    have hq0 : q = ByteArray.empty := by rw [← h3, e4]; rfl
    clear HSM HXY h1 h2 h3 HC HRS
    subst hx0 hy0 hq0 e5 e3
    rw [List.length_nil] at y2 HS hW5
    clear hz
    go_wp2_with fail
    clear hW5 hg5
    refine ((unhide HS) W5 (Below.refl _ _)).mono ?_; rintro e w7 ⟨rfl, b7⟩
    have B7 := hide (bel_trans (unhide B0) (bel_trans (unhide B5) b7))
    clear b7 y0 y1 y2 y3
    go_wp2_with fail
    go_ret
    exact ⟨rfl, unhide B7⟩
  · subst hj hz
    have HO2 := hide (fun W (hW : MH k W) => one_any (s ++ more) hd bd ar k W (by rw [ByteArray.size_append]; omega) hW ((a, b, fs, t), (j : Int), 0) (by rw [cat_data]; exact ho2))
    have HO3 := hide (fun (i : Nat) (hi : i < j) W (hW : MH k W) => one_any (s.extract 0 i) hd bd ar k W (by simp; omega) hW (([], [], [], []), 0, 7) (by rw [take_data]; exact ho3 i hi))
    unfold bndV at HO2 HO3
    dsimp only at HO2 HO3
    rw [List.length_nil, show mk [] = ByteArray.empty from rfl] at HO3
    obtain ⟨h1, h2, h3⟩ := unhide HXY
    rw [h1, h2, h3] at HO2
    have hqs : (q.size : Int) ≤ bd := by rw [← h3, mk_size]; exact htb
    have hjs' : (j : Int) ≤ s.size := by omega
    obtain ⟨i, hi⟩ : ∃ i : Nat, at_ % (j : Int) = (i : Int) := ⟨(at_ % (j : Int)).toNat, by have := Int.emod_nonneg at_ (show (j : Int) ≠ 0 by omega); omega⟩
    have hij : i < j := by have := Int.emod_lt_of_pos at_ (show (0 : Int) < j by omega); omega
    have hijI : (i : Int) ≤ s.size := by omega
    have HRR := hide ((unhide HRS) (j : Int) (by omega) (by omega))
    rw [hi] at HRR
    have HO3' := hide ((unhide HO3) i hij)
    clear h1 h2 h3 htb hfl ho2 ho3 HXY HC HRS hi HO3
    obtain ⟨x0, x1, x2⟩ := (unhide HBX) W5 (unhide B5)
    go_wp2_with fail
    clear hW5 hg5
    refine ((unhide HO2) W5 (unhide HM5)).mono ?_; rintro e w6 ⟨v6, rfl, own6, b6⟩
    obtain ⟨o6, c6, rfl⟩ := own_forms own6
    have F6 := Flds.own own6 (unhide HFL)
    have G6 := (unhide F5).below b6
    have HM6 := (unhide HM5).below b6
    have B6 := bel_trans (unhide B5) b6
    have R6 := (unhide R5).below b6
    clear b6 own6 HM5 B5 F5 R5 HO2 x0 x1 x2 y0 y1 y2 y3
    have Q7 := QX.new (base := w6.heap.size) w6 (Nat.le_refl _) x y o6 fs.length c6 q
    have bb := (Below.refl w6.heap.size w6).alloc (Nat.le_refl _) (.cells #[.string x, .string y, .slice o6 fs.length c6, .string q] 28)
    obtain ⟨g7, hg7⟩ : ∃ g, w6.heap.size = g := ⟨_, rfl⟩
    obtain ⟨W7, hW7⟩ : ∃ W, w6.alloc (.cells #[.string x, .string y, .slice o6 fs.length c6, .string q] 28) = W := ⟨_, rfl⟩
    rw [hW7] at bb Q7
    rw [hg7] at Q7
    have HM7 := hide (HM6.below bb)
    have B7 := hide (bel_trans B6 bb)
    have F7 := hide (F6.below bb)
    have G7 := hide (G6.below bb)
    have R7 := hide (R6.below bb)
    have T7 := hide Q7
    clear bb F6 G6 HM6 B6 R6 Q7
    obtain ⟨x0, x1, x2⟩ := (unhide HBX) W7 (unhide B7)
    have hlN : w.heap.size < W7.heap.size := by have h1 := (unhide B7).size; have h2 := (unhide HL0); omega
    have hl7 : g7 < W7.heap.size := (unhide T7).lt.2
    have hl5 : g5 < W7.heap.size := (unhide R7).lt.2
    go_wp2_with fail
    clear hW7 hg7
    go_region_with (first
      | (go_at_call 7; refine ((unhide HRR) _).mono ?_; rintro e wr ⟨rfl, hwr⟩; rw [hwr]; clear hwr wr)
      | (go_at_call 4; refine ((unhide HO3') _ (by first | exact unhide HM7 | exact (unhide HM7).below (Below.refl _ _).drew | exact (unhide HM7).below ((Below.refl _ _).alloc (Nat.le_refl _) _) | exact (unhide HM7).below ((Below.refl _ _).alloc (Nat.le_refl _) _).drew | exact (unhide HM7).below ((Below.refl _ _).drew.alloc (Nat.le_refl _) _))).mono ?_; rintro e w8 ⟨v8, rfl, own8, b8⟩; obtain ⟨o8, c8, rfl⟩ := own_forms own8; clear own8; have hb8 : Below W7.heap.size W7 w8 := (by first | exact b8 | exact bel_trans (Below.refl _ _).drew b8 | exact bel_trans ((Below.refl _ _).alloc (Nat.le_refl _) _) b8 | exact bel_trans ((Below.refl _ _).alloc (Nat.le_refl _) _).drew b8 | exact bel_trans ((Below.refl _ _).drew.alloc (Nat.le_refl _) _) b8); (try (with_reducible have qq := req_alloc b8; obtain ⟨⟨q0, q1, q2, q3⟩, ⟨r0, r1, r2, r3⟩, hqB⟩ := qq)); (try (with_reducible have qq := req_alloc_d b8; obtain ⟨⟨q0, q1, q2, q3⟩, ⟨r0, r1, r2, r3⟩, hqB⟩ := qq)); (try simp only [World.size_drew] at q0 q1 q2 q3 r0 r1 r2 r3 hqB); have B8 := hide hb8; clear b8 hb8))
    all_goals (
      (try clear q0 q1 q2 q3 r0 r1 r2 r3 hqB)
      clear x0 x1 x2
      have BA : Below W7.heap.size W7 (w8.alloc (.cells #[.string ByteArray.empty, .string ByteArray.empty, .slice o8 0 c8, .string ByteArray.empty] 28)) := (unhide B8).alloc (unhide B8).size _
      have BC : Below W7.heap.size W7 ((((w8.setCell ⟨W7.heap.size, 0, none⟩ (.string ByteArray.empty)).setCell ⟨W7.heap.size, 1, none⟩ (.string ByteArray.empty)).setCell ⟨W7.heap.size, 2, none⟩ (.slice o8 0 c8)).setCell ⟨W7.heap.size, 3, none⟩ (.string ByteArray.empty)) := bel_setQ (unhide B8) (unhide B8).size (Nat.le_refl _)
      obtain ⟨WA, hWA⟩ : ∃ WA, w8.alloc (.cells #[.string ByteArray.empty, .string ByteArray.empty, .slice o8 0 c8, .string ByteArray.empty] 28) = WA := ⟨_, rfl⟩
      obtain ⟨WC, hWC⟩ : ∃ WC, ((((w8.setCell ⟨W7.heap.size, 0, none⟩ (.string ByteArray.empty)).setCell ⟨W7.heap.size, 1, none⟩ (.string ByteArray.empty)).setCell ⟨W7.heap.size, 2, none⟩ (.slice o8 0 c8)).setCell ⟨W7.heap.size, 3, none⟩ (.string ByteArray.empty)) = WC := ⟨_, rfl⟩
      rw [hWA] at BA
      rw [hWC] at BC
      obtain ⟨y0, y1, y2, y3⟩ := ((unhide T7).below BA).cells
      obtain ⟨z0, z1, z2, z3⟩ := ((unhide R7).below BA).cells
      obtain ⟨u0, u1, u2, u3⟩ := ((unhide T7).below BC).cells
      obtain ⟨v0, v1, v2, v3⟩ := ((unhide R7).below BC).cells
      have HBA := hide BA
      have HBC := hide BC
      have HS := hide (fun W (b : Below W7.heap.size W7 W) => (unhide HSM) W _ _ ((unhide F7).below b) ((unhide G7).below b))
      have HFIN := hide (fun W (b : Below W7.heap.size W7 W) => (⟨((unhide R7).below b).cells, (unhide HBX) W (bel_trans (unhide B7) b), bel_trans (unhide B0) (bel_trans (unhide B7) b)⟩ : (W.cell? ⟨g5, 0, none⟩ = some (.string x) ∧ W.cell? ⟨g5, 1, none⟩ = some (.string y) ∧ W.cell? ⟨g5, 2, none⟩ = some (.slice o4 fs.length c4) ∧ W.cell? ⟨g5, 3, none⟩ = some (.string q)) ∧ (W.cell? ⟨w.heap.size, 0, none⟩ = some (.int .i64 hd) ∧ W.cell? ⟨w.heap.size, 1, none⟩ = some (.int .i64 bd) ∧ W.cell? ⟨w.heap.size, 2, none⟩ = some (.int .i64 ar)) ∧ Below w.heap.size w W))
      clear BA BC B8 T7 R7 F7 G7 HSM HBX B7 B0 HM7 HRR HO3' HFL
      go_wp2_with fail
      clear hWA hWC y0 y1 y2 y3 z0 z1 z2 z3 u0 u1 u2 u3 v0 v1 v2 v3
      first
      | (refine ((unhide HS) WA (unhide HBA)).mono ?_
         rintro e w9 ⟨rfl, b9⟩
         obtain ⟨⟨y0, y1, y2, y3⟩, ⟨x0, x1, x2⟩, hfin⟩ := (unhide HFIN) w9 (bel_trans (unhide HBA) b9)
         have HF := hide hfin
         clear hfin b9
         go_wp2_with fail
         go_ret
         exact ⟨rfl, unhide HF⟩)
      | (refine ((unhide HS) WC (unhide HBC)).mono ?_
         rintro e w9 ⟨rfl, b9⟩
         obtain ⟨⟨y0, y1, y2, y3⟩, ⟨x0, x1, x2⟩, hfin⟩ := (unhide HFIN) w9 (bel_trans (unhide HBC) b9)
         have HF := hide hfin
         clear hfin b9
         go_wp2_with fail
         go_ret
         exact ⟨rfl, unhide HF⟩)
      )
theorem walk (s : ByteArray) (hd bd ar : Int) (at_ : Int) (more : ByteArray) (hb : s.size + more.size ≤ 1048576) (ha : -9223372036854775808 ≤ at_ ∧ at_ ≤ 9223372036854775807) (hh : (-9223372036854775808 ≤ hd ∧ hd ≤ 9223372036854775807) ∧ (-9223372036854775808 ≤ bd ∧ bd ≤ 9223372036854775807) ∧ (-9223372036854775808 ≤ ar ∧ ar ≤ 9223372036854775807)) (w : World) (hsh : w.ShapedOpen Tryd.prog) (hL : laidMetH Tryd.prog Rows.oneMoreUptoRow.laid w) :
    Calls Tryd.prog 3 #[.string s, .agg #[.int .i64 hd, .int .i64 bd, .int .i64 ar], .int .i64 at_, .string more] w fun e w' => e = .returned (.bool true) ∧ Below w.heap.size w w' := by
  obtain ⟨k, hk⟩ := Tryd.laysM145.s1_3 w hsh
  exact walk_m s hd bd ar at_ more k hb ha w hk
theorem own : ownKnob Tryd.prog.godebug = none := by kernel_rfl

theorem small_of {H : Type} {b1 c1 : Int} {a0 : ByteArray} {a1 : Int} {a2 : Int} {a3 : ByteArray} (hk : Rows.uptoSmall H ([.lit (.string a0.data.toList), .agg [.lit (.int .i64 a1), .lit (.int .i64 b1), .lit (.int .i64 c1)], .lit (.int .i64 a2), .lit (.string a3.data.toList)] ++ []) = true) : a0.size + a3.size ≤ 1048576 := by
  have h := of_decide_eq_true hk
  simp only [Rows.uptoBulkAll, Rows.uptoBulk, List.append_nil, Array.length_toList, ByteArray.size_data] at h
  omega

theorem contract (H : Type) (enc : TypeId × Value → H) (W : World) (base : Nat) (args : Array Value) (ds gs : List (DataW H)) (before : List MemPlace) (hsh : W.ShapedOpen Tryd.prog)
    (hval0 : ∀ (j : Nat) t v, Tryd.f3.params[j]? = some t → args[j]? = some v → Value.okWide Tryd.prog W .any base t v)
    (hW : DataW.Whole enc Tryd.prog Tryd.f3.params.toList Rows.oneMoreSpec.vars false W args.toList ds gs before) (hk : Rows.uptoSmall H (ds ++ gs) = true) (hL : laidMetH Tryd.prog Rows.oneMoreUptoRow.laid W) :
    Calls Tryd.prog 3 args W fun e W' => ∃ v, e = .returned v ∧ Rows.oneMoreSpec.post enc Tryd.prog Tryd.f3 false true false false W args v W' := by
  have hval : ∀ (j : Nat) t v, Tryd.f3.params[j]? = some t → args[j]? = some v → Value.okWide Tryd.prog W .any base t v := hval0
  have hW' := hW
  obtain ⟨p, q, hA0, hV, rfl, hfz, hnd⟩ := hW
  have hA : DataW.TrodAll enc Tryd.prog W 0 (fun _ => true) true Tryd.f3.params.toList args.toList ds p := hA0
  rw [Tryd.params3] at hA hval
  obtain ⟨v0, vs0, d0, ds0, p0, q0, hargs, rfl, rfl, h0, r0⟩ := trodAll_cons hA
  obtain ⟨v1, vs1, d1, ds1, p1, q1, rfl, rfl, rfl, h1, r1⟩ := trodAll_cons r0
  obtain ⟨v2, vs2, d2, ds2, p2, q2, rfl, rfl, rfl, h2, r2⟩ := trodAll_cons r1
  obtain ⟨v3, vs3, d3, ds3, p3, q3, rfl, rfl, rfl, h3, r3⟩ := trodAll_cons r2
  obtain ⟨rfl, rfl, rfl⟩ := trodAll_nil r3
  obtain rfl : args = #[v0, v1, v2, v3] := by cases args; simp_all
  obtain ⟨rfl, rfl⟩ := trodVars_none hV
  obtain ⟨a0, rfl, rfl, rfl, w0⟩ := open_string Tryd.underlying9 (hval 0 9 v0 rfl rfl) h0
  obtain ⟨c1, e1, k1, y1, z1, o1, m1, rfl, rfl, rfl, hy1, hz1, ho1⟩ := Go.Joins.open_agg3 Tryd.underlying23 (by kernel_rfl) (by kernel_rfl) (hval 1 23 v1 rfl rfl) h1
  obtain ⟨a1, ea1, rfl, w1⟩ := DataW.trod_int Tryd.underlying3 hy1
  obtain ⟨b1, eb1, rfl, x1⟩ := DataW.trod_int Tryd.underlying3 hz1
  obtain ⟨j1, ej1, rfl, xx1⟩ := DataW.trod_int Tryd.underlying3 ho1
  simp at ea1 eb1 ej1
  subst ea1 eb1 ej1
  obtain ⟨a2, rfl, rfl, rfl, w2⟩ := open_int Tryd.underlying3 (hval 2 3 v2 rfl rfl) h2
  obtain ⟨a3, rfl, rfl, rfl, w3⟩ := open_string Tryd.underlying9 (hval 3 9 v3 rfl rfl) h3
  clear hA0 hval0
  simp only [List.append_nil] at hW'
  have hi2 : -9223372036854775808 ≤ a2 ∧ a2 ≤ 9223372036854775807 := by simpa [Lit.wf, IntKind.min, IntKind.max, IntKind.signed, IntKind.bits] using w2
  have hd1 : (-9223372036854775808 ≤ a1 ∧ a1 ≤ 9223372036854775807) ∧ (-9223372036854775808 ≤ b1 ∧ b1 ≤ 9223372036854775807) ∧ (-9223372036854775808 ≤ j1 ∧ j1 ≤ 9223372036854775807) := ⟨ by simpa [Lit.wf, IntKind.min, IntKind.max, IntKind.signed, IntKind.bits] using w1, by simpa [Lit.wf, IntKind.min, IntKind.max, IntKind.signed, IntKind.bits] using x1, by simpa [Lit.wf, IntKind.min, IntKind.max, IntKind.signed, IntKind.bits] using xx1⟩
  refine (walk a0 a1 b1 j1 a2 a3 (small_of hk) hi2 hd1 W hsh hL).mono fun e W' ⟨he, hb⟩ => ?_
  subst he
  exact ⟨_, rfl, _, _, _, [], [], [], hW', (trodAll_cons_mk (shut_bool Tryd.underlying4 _) trodAll_mk0), (trodAll_cons_mk (shut_string Tryd.underlying9 w0) (trodAll_cons_mk (Go.Joins.shut_agg3 (y0 := (.lit (.int .i64 a1), [])) (y1 := (.lit (.int .i64 b1), [])) (y2 := (.lit (.int .i64 j1), [])) Tryd.underlying23 (by kernel_rfl) (by kernel_rfl) ⟨1, by simp [DataW.trod, Tryd.underlying3, w1]⟩ ⟨1, by simp [DataW.trod, Tryd.underlying3, x1]⟩ ⟨1, by simp [DataW.trod, Tryd.underlying3, xx1]⟩) (trodAll_cons_mk (shut_int Tryd.underlying3 w2) (trodAll_cons_mk (shut_string Tryd.underlying9 w3) trodAll_mk0)))), rfl, hb.frame _, fun h => by cases h⟩

theorem reads (os : Os) {H : Type} (enc : TypeId × Value → H) : ∃ places, DataW.whole enc Tryd.prog ((laidIn (World.holding Tryd.prog os ⟨#[], #[], []⟩)).forCall (fun _ _ => 0) ⟨#[], #[.string ByteArray.empty, .agg #[.int .i64 0, .int .i64 0, .int .i64 0], .int .i64 0, .string ByteArray.empty], []⟩).memory Tryd.f3.params.toList Rows.oneMoreSpec.vars false (#[.string ByteArray.empty, .agg #[.int .i64 0, .int .i64 0, .int .i64 0], .int .i64 0, .string ByteArray.empty] : Array Value).toList 8 = some ([.lit (.string []), .agg [.lit (.int .i64 0), .lit (.int .i64 0), .lit (.int .i64 0)], .lit (.int .i64 0), .lit (.string [])], [], places) :=
  ⟨[], by kernel_rfl⟩
theorem laid_met (os : Os) : laidMet Tryd.prog Rows.oneMoreUptoRow.laid ((laidIn (World.holding Tryd.prog os ⟨#[], #[], []⟩)).forCall (fun _ _ => 0) ⟨#[], #[.string ByteArray.empty, .agg #[.int .i64 0, .int .i64 0, .int .i64 0], .int .i64 0, .string ByteArray.empty], []⟩).memory :=
  laidMet_of_run' 8 (by kernel_rfl) (by kernel_rfl)

set_option maxRecDepth 100000 in
theorem lifted (os : Os) (started : os.Started) (H : Type) (enc : TypeId × Value → H) (F : Stop.Interp) :
    ReturnsInHanded {} Tryd.checked os 3 .any ((Rows.OpenSpec.upto Rows.oneMoreSpec).preRow enc Tryd.prog Tryd.f3 Rows.oneMoreUptoRow.domain false Rows.oneMoreUptoRow.laid) (((Rows.OpenSpec.upto Rows.oneMoreSpec).at F).post enc Tryd.prog Tryd.f3 false true false false) := by
  obtain ⟨places, hx⟩ := reads os enc
  refine returnsInHanded_of_row (C := Tryd.checked) (s := Rows.OpenSpec.upto Rows.oneMoreSpec) own started (by kernel_rfl) Tryd.func3
    (witness_row_at (enc := enc) (C := Tryd.checked) false (laidIn (World.holding Tryd.prog os ⟨#[], #[], []⟩)) #[.string ByteArray.empty, .agg #[.int .i64 0, .int .i64 0, .int .i64 0], .int .i64 0, .string ByteArray.empty] rfl (by kernel_rfl) (by kernel_rfl) (by kernel_rfl)
      (OpenSpec.preRow_of_cond 8 hx (by kernel_rfl) (fun k hk => by cases hk; kernel_rfl) (by kernel_rfl) (laid_met os))) ?_
  intro W base args ds gs before hval hW _ hcond _ hL hsh _
  exact contract H enc W base args ds gs before hsh hval hW (hcond _ rfl) hL

theorem row : Rows.OneMoreUptoSaid :=
  OpenClaim.holds_of_cond 3 Tryd.f3 rfl rfl rfl rfl rfl rfl rfl ⟨rfl, rfl, rfl, rfl, rfl⟩ rfl rfl rfl rfl rfl (by kernel_rfl) Tryd.func3 (by kernel_rfl)
    (of_decide_eq_true (by kernel_rfl)) (by unfold Func.isWrapper; first | (rw [if_pos (by decide +kernel)]; kernel_rfl) | (rw [if_neg (by decide +kernel)]; exact ⟨rfl, rfl⟩))
    (fun os started H enc _ F => by rw [OpenClaim.pre_eq_preRow]; exact lifted os started H enc F)

theorem plain (f : FuncId) (fn : Func) (hf : Tryd.pinned.checked.prog.funcNamed "gatewicket/wickkeep.OneMore" = some f) (hfn : Tryd.pinned.checked.prog.funcs[f]? = some fn) :
    false = Tryd.pinned.checked.prog.looks [] ∧ ∀ (j : Nat) t, fn.params[j]? = some t → Tryd.pinned.checked.prog.wantsStandIn t = false := by
  obtain rfl : f = 3 := Option.some.inj ((show Tryd.prog.funcNamed "gatewicket/wickkeep.OneMore" = some 3 by kernel_rfl).symm.trans hf) |>.symm
  obtain rfl : fn = Tryd.f3 := (Option.some.inj (Tryd.func3.symm.trans hfn)).symm
  refine ⟨by kernel_rfl, fun j t ht => ?_⟩
  rw [Tryd.params3] at ht
  have hm : t = 9 ∨ t = 23 ∨ t = 3 ∨ t = 9 := by simpa using Array.mem_of_getElem? ht
  rcases hm with rfl | rfl | rfl | rfl
  · exact (show Tryd.prog.wantsStandIn 9 = false by kernel_rfl)
  · exact (show Tryd.prog.wantsStandIn 23 = false by kernel_rfl)
  · exact (show Tryd.prog.wantsStandIn 3 = false by kernel_rfl)
  · exact (show Tryd.prog.wantsStandIn 9 = false by kernel_rfl)

theorem over : Rows.OneMoreUptoCardSaid :=
  Claim7.holds_tied_plain_at .later [] _ _ _ _ row (fun _ h => by cases h) (by kernel_rfl) (fun _ h => by cases h) oneMoreUpto_row_tie rfl ⟨rfl, rfl⟩ (by kernel_rfl) rfl plain (by kernel_rfl)
end Go.Proofs.YtjpclmkekmkddabDoor.oneMore
namespace Go.Proofs.YtjpclmkekmkddabDoor
theorem oneMore_holds : Rows.OneMoreUptoCardSaid := oneMore.over
#print axioms oneMore_holds
end Go.Proofs.YtjpclmkekmkddabDoor
