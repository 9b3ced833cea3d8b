/- Walks: addresses, nets read (the program's). -/
import Derived.Test.YtmhjfiaohbioeaaDoorNb
import Derived.Test.YtmhjfiaohbioeaaDoorPs
import Derived.Test.YtmhjfiaohbioeaaDoorNx
namespace Go.Proofs.YtmhjfiaohbioeaaDoor
open Go.RowKit Kb
set_option linter.unusedVariables false
set_option maxRecDepth 20000

theorem cell_lt {w : World} {a : Addr} {v : Value} (h : w.cell? a = some v) : a.block < w.heap.size := by
  unfold World.cell? at h
  split at h
  · rename_i hb; exact (Array.getElem?_eq_some_iff.1 hb).1
  · cases h
theorem szM (l : List UInt8) : (mk l).size = l.length := by simp [mk, ByteArray.size]
/-- the library's word for the longest needle lies where it lay -/
def MX (m : Int) (w : World) : Prop := w.cell? ⟨0, 0, none⟩ = some (.int .i64 m)
theorem MX.below {m : Int} {w w' : World} (h : MX m w) (b : Below w.heap.size w w') : MX m w' := cell_below h (cell_lt (a := ⟨0, 0, none⟩) h) b
theorem cut_any (c : UInt8) (s : ByteArray) (m : Int) (w : World) (hs : s.size < 4294967281) (hm : MX m w) (k : List UInt8 × List UInt8 × Bool) (hk : Lib.cut s.data.toList [c] = k) :
    Calls Tryd.prog 19 #[.string s, .string ⟨#[c]⟩] w fun e w' => e = .returned (.tuple #[.string (mk k.1), .string (mk k.2.1), .bool k.2.2]) ∧ Below w.heap.size w w' := by
  refine (Tryd.strings_Cut s ⟨#[c]⟩ m w hs hm).mono ?_
  rintro e w' ⟨rfl, n, rfl⟩
  subst hk
  exact ⟨rfl, Go.below_drewN (Below.refl _ _) _⟩

namespace Nt
/-- what is left of an address: k numbers are read -/
def go (k acc : Nat) (l : List UInt8) : Option Nat := if k = 4 then some acc else if (Cs.cut 46 l).length = 4 - k then adrL acc (Cs.cut 46 l) else none
theorem go_zero (l : List UInt8) : go 0 0 l = adr l := rfl
theorem go_hit {k acc : Nat} {u v : List UInt8} (hk : k < 3) (hu : (46 : UInt8) ∉ u) : go k acc (u ++ 46 :: v) = if sm 255 u < 0 then none else go (k + 1) (acc * 256 + (sm 255 u).toNat) v := by
  unfold go
  rw [if_neg (by omega), Cs.cut_hit v hu, List.length_cons]
  by_cases h : (Cs.cut 46 v).length = 4 - (k + 1)
  · rw [if_pos (show (Cs.cut 46 v).length + 1 = 4 - k by omega), if_neg (show ¬ k + 1 = 4 by omega), if_pos h, adrL]
  · rw [if_neg (show ¬ (Cs.cut 46 v).length + 1 = 4 - k by omega), if_neg (show ¬ k + 1 = 4 by omega), if_neg h]; split <;> rfl
theorem go_hit3 {acc : Nat} {u v : List UInt8} (hu : (46 : UInt8) ∉ u) : go 3 acc (u ++ 46 :: v) = none := by
  unfold go
  rw [if_neg (by omega), Cs.cut_hit v hu, List.length_cons, if_neg]
  have := List.length_pos_iff.2 (Cs.cut_ne 46 v)
  omega
theorem go_miss {k acc : Nat} {u : List UInt8} (hk : k < 3) (hu : (46 : UInt8) ∉ u) : go k acc u = none := by
  unfold go
  rw [if_neg (by omega), Cs.cut_no hu, if_neg (by show ¬ 1 = 4 - k; omega)]
theorem go_miss3 {acc : Nat} {u : List UInt8} (hu : (46 : UInt8) ∉ u) (v : List UInt8) : go 3 acc u = if sm 255 u < 0 then none else go 4 (acc * 256 + (sm 255 u).toNat) v := by
  unfold go
  rw [if_neg (by omega), Cs.cut_no hu, if_pos (show [u].length = 4 - 3 from rfl), if_pos rfl, adrL, adrL]
end Nt
theorem pow256 (k : Nat) (h : k < 4) : 256 ^ k * 256 ≤ 4294967296 ∧ 256 ^ (k + 1) = 256 ^ k * 256 := by
  have : ∀ k : Fin 4, 256 ^ k.1 * 256 ≤ 4294967296 := by decide
  exact ⟨this ⟨k, h⟩, Nat.pow_succ _ _⟩
theorem or_256 (acc n : Nat) (h : acc < 16777216) (hn : n ≤ 255) : bits .or .u32 ((acc : Int) * 256) (n : Int) = ((acc * 256 + n : Nat) : Int) := by
  have := u32_or_nat (acc * 256) n (by omega) (by omega)
  rw [Go.nat_join 8 (acc * 256) n (by omega) (by omega)] at this
  rw [← this]; norm_cast
theorem ret_ub {a c : Int} {b d : Bool} (h : a = c) (g : b = d) : Ending.returned (.tuple #[.int .u32 a, .bool b]) = .returned (.tuple #[.int .u32 c, .bool d]) := by rw [h, g]
set_option maxHeartbeats 2000000 in
theorem address_any (s : ByteArray) (m : Int) (w : World) (hs : s.size < 4294967281) (hm : MX m w) (o : Option Nat) (ho : Nt.adr s.data.toList = o) :
    Calls Tryd.prog 20 #[.string s] w fun e w' => e = .returned (.tuple #[.int .u32 ((o.getD 0 : Nat) : Int), .bool o.isSome]) ∧ Below w.heap.size w w' := by
  rw [← Nt.go_zero] at ho
  have HO := hide ho
  clear ho
  go_enter Tryd.func20, Tryd.ntmps20
  go_wp2
  go_loopw [0, 4, 11] (fun x a i wr => ∃ (k acc : Nat) (y : ByteArray), k ≤ 4 ∧ x = .string y ∧ y.size ≤ s.size ∧ a = .int .u32 acc ∧ i = .int .i64 k ∧ acc < 256 ^ k ∧ Nt.go k acc y.data.toList = o ∧ MX m wr ∧ Below w.heap.size w wr) (fun _ _ i _ => 4 - (intOf i).toNat)
  case atStart => exact ⟨0, 0, s, by omega, rfl, Nat.le_refl _, rfl, rfl, by decide, unhide HO, hm, Below.refl _ _⟩
  case round =>
    clear HO
    obtain ⟨k, acc, y, hk, rfl, hys, rfl, rfl, hacc, ho, hmx, hbel⟩ := hrel
    have HB := hide hbel
    have HM := hide hmx
    clear hbel hmx
    by_cases h4 : k = 4
    · subst h4
      have HO : Hid (some acc = o) := hide ho
      clear ho
      go_wp2
      go_ret2
      exact ⟨ret_ub (by rw [← unhide HO]; rfl) (by rw [← unhide HO]; rfl), unhide HB⟩
    · have hk4 : k < 4 := by omega
      have hk4' : (k : Int) < 4 := by omega
      have hp := pow256 k hk4
      have ha1 : acc < 16777216 := by omega
      obtain ⟨q, hq⟩ : ∃ q, Lib.cut y.data.toList [46] = q := ⟨_, rfl⟩
      have HC := hide (cut_any 46 y m wr (by omega) (unhide HM) q hq)
      have HQ : Hid ((46 ∉ y.data.toList ∧ q = (y.data.toList, [], false)) ∨ ∃ u v, y.data.toList = u ++ 46 :: v ∧ 46 ∉ u ∧ q = (u, v, true)) := hide (by rw [← hq]; exact Nt.cut_cases 46 y.data.toList)
      have HO := hide ho
      clear ho hq
      rcases unhide HQ with ⟨h1, rfl⟩ | ⟨u, v, h1, h2, rfl⟩
      · by_cases h3 : k = 3
        · subst h3
          have HG : Hid ((if Nt.sm 255 y.data.toList < 0 then none else Nt.go 4 (acc * 256 + (Nt.sm 255 y.data.toList).toNat) []) = o) := hide (by rw [← unhide HO]; exact (Nt.go_miss3 h1 []).symm)
          have HN := hide (nnum_any y 255 · (by unfold maxLen; omega))
          have hbd := Nt.sm_bd 255 y.data.toList
          obtain ⟨z, hz⟩ : ∃ z, Nt.sm 255 y.data.toList = z := ⟨_, rfl⟩
          rw [hz] at HG HN hbd
          dsimp only at HC
          rw [mk_data] at HC
          clear hz h1 HQ HO
          go_wp2_with fail
          refine (unhide HC).mono ?_; rintro e w1 ⟨rfl, b1⟩
          have HB1 := hide (bel_trans (unhide HB) b1)
          have HM1 := hide ((unhide HM).below b1)
          clear b1 HC HB HM
          go_wp2_with fail
          refine ((unhide HN) w1).mono ?_; rintro e w2 ⟨rfl, hw⟩; rw [hw]; clear hw w2
          by_cases hneg : z < 0
          · have hz : decide (0 ≤ z) = false := decide_eq_false (by omega)
            have HO : Hid (none = o) := hide (by have := unhide HG; rwa [if_pos hneg] at this)
            clear HG HN
            go_wp2_with fail
            go_ret2
            exact ⟨ret_ub (by rw [← unhide HO]; rfl) (by rw [← unhide HO]; rfl), unhide HB1⟩
          · have hz : decide (0 ≤ z) = true := decide_eq_true (by omega)
            obtain ⟨n, rfl⟩ := Int.eq_ofNat_of_zero_le (by omega : 0 ≤ z)
            have HO : Hid (Nt.go 4 (acc * 256 + n) [] = o) := hide (by have := unhide HG; rwa [if_neg hneg, Int.toNat_natCast] at this)
            rw [show max 0 (n : Int) = n by omega]
            have hn : n ≤ 255 := by omega
            have HOR := or_256 acc n ha1 hn
            have h256 : (acc : Int) * 256 % 4294967296 = acc * 256 := by omega
            have hn32 : (n : Int) % 4294967296 = n := by omega
            clear HG HN hneg hbd
            go_wp2_with fail
            go_round
            case rel => exact ⟨4, acc * 256 + n, mk [], by omega, rfl, by show 0 ≤ _; omega, by congr 1, rfl, by omega, unhide HO, unhide HM1, unhide HB1⟩
            case measure => decide
        · have hk3 : k < 3 := by omega
          have HO2 : Hid (none = o) := hide (by rw [← unhide HO]; exact (Nt.go_miss hk3 h1).symm)
          have HN := hide (nnum_any y 255 · (by unfold maxLen; omega))
          obtain ⟨z, hz⟩ : ∃ z, Nt.sm 255 y.data.toList = z := ⟨_, rfl⟩
          rw [hz] at HN
          dsimp only at HC
          rw [mk_data] at HC
          have d4 : decide ((k : Int) + 1 < 4) = true := decide_eq_true (by omega)
          clear hz h1 HQ HO
          go_wp2_with fail
          refine (unhide HC).mono ?_; rintro e w1 ⟨rfl, b1⟩
          have HB1 := hide (bel_trans (unhide HB) b1)
          clear b1 HC HB HM
          go_wp2_with fail
          refine ((unhide HN) w1).mono ?_; rintro e w2 ⟨rfl, hw⟩; rw [hw]; clear hw w2
          by_cases hneg : z < 0
          · have hz : decide (0 ≤ z) = false := decide_eq_false (by omega)
            go_wp2_with fail
            go_ret2
            exact ⟨ret_ub (by rw [← unhide HO2]; rfl) (by rw [← unhide HO2]; rfl), unhide HB1⟩
          · have hz : decide (0 ≤ z) = true := decide_eq_true (by omega)
            go_wp2_with fail
            go_ret2
            exact ⟨ret_ub (by rw [← unhide HO2]; rfl) (by rw [← unhide HO2]; rfl), unhide HB1⟩
      · have hlen := congrArg List.length h1
        rw [len_data, List.length_append, List.length_cons] at hlen
        have hus : (mk u).size ≤ maxLen := by rw [szM]; unfold maxLen; omega
        have hvs : (mk v).size ≤ s.size := by rw [szM]; omega
        have HN := hide (nnum_any (mk u) 255 · hus)
        rw [show (mk u).data.toList = u by simp [mk]] at HN
        have hbd := Nt.sm_bd 255 u
        have HV : Hid ((mk v).data.toList = v) := hide (by simp [mk])
        by_cases h3 : k = 3
        · subst h3
          have HO2 : Hid (none = o) := hide (by rw [← unhide HO, h1]; exact (Nt.go_hit3 h2).symm)
          obtain ⟨z, hz⟩ : ∃ z, Nt.sm 255 u = z := ⟨_, rfl⟩
          rw [hz] at HN
          dsimp only at HC
          clear hz h1 h2 HQ HO hlen hus hbd
          go_wp2_with fail
          refine (unhide HC).mono ?_; rintro e w1 ⟨rfl, b1⟩
          have HB1 := hide (bel_trans (unhide HB) b1)
          clear b1 HC HB HM
          go_wp2_with fail
          refine ((unhide HN) w1).mono ?_; rintro e w2 ⟨rfl, hw⟩; rw [hw]; clear hw w2
          by_cases hneg : z < 0
          · have hz : decide (0 ≤ z) = false := decide_eq_false (by omega)
            go_wp2_with fail
            go_ret2
            exact ⟨ret_ub (by rw [← unhide HO2]; rfl) (by rw [← unhide HO2]; rfl), unhide HB1⟩
          · have hz : decide (0 ≤ z) = true := decide_eq_true (by omega)
            go_wp2_with fail
            go_ret2
            exact ⟨ret_ub (by rw [← unhide HO2]; rfl) (by rw [← unhide HO2]; rfl), unhide HB1⟩
        · have hk3 : k < 3 := by omega
          have HG : Hid ((if Nt.sm 255 u < 0 then none else Nt.go (k + 1) (acc * 256 + (Nt.sm 255 u).toNat) v) = o) := hide (by rw [← unhide HO, h1]; exact (Nt.go_hit hk3 h2).symm)
          obtain ⟨z, hz⟩ : ∃ z, Nt.sm 255 u = z := ⟨_, rfl⟩
          rw [hz] at HG HN hbd
          dsimp only at HC
          have d4 : decide ((k : Int) + 1 < 4) = true := decide_eq_true (by omega)
          clear hz h1 h2 HQ HO hlen hus
          go_wp2_with fail
          refine (unhide HC).mono ?_; rintro e w1 ⟨rfl, b1⟩
          have HB1 := hide (bel_trans (unhide HB) b1)
          have HM1 := hide ((unhide HM).below b1)
          clear b1 HC HB HM
          go_wp2_with fail
          refine ((unhide HN) w1).mono ?_; rintro e w2 ⟨rfl, hw⟩; rw [hw]; clear hw w2
          by_cases hneg : z < 0
          · have hz : decide (0 ≤ z) = false := decide_eq_false (by omega)
            have HO : Hid (none = o) := hide (by have := unhide HG; rwa [if_pos hneg] at this)
            clear HG HN
            go_wp2_with fail
            go_ret2
            exact ⟨ret_ub (by rw [← unhide HO]; rfl) (by rw [← unhide HO]; rfl), unhide HB1⟩
          · have hz : decide (0 ≤ z) = true := decide_eq_true (by omega)
            obtain ⟨n, rfl⟩ := Int.eq_ofNat_of_zero_le (by omega : 0 ≤ z)
            have HO : Hid (Nt.go (k + 1) (acc * 256 + n) v = o) := hide (by have := unhide HG; rwa [if_neg hneg, Int.toNat_natCast] at this)
            rw [show max 0 (n : Int) = n by omega]
            have hn : n ≤ 255 := by omega
            have HOR := or_256 acc n ha1 hn
            have h256 : (acc : Int) * 256 % 4294967296 = acc * 256 := by omega
            have hn32 : (n : Int) % 4294967296 = n := by omega
            clear HG HN hneg hbd
            go_wp2_with fail
            go_round
            case rel => exact ⟨k + 1, acc * 256 + n, mk v, by omega, rfl, hvs, by congr 1, by congr 1, by rw [hp.2]; omega, by rw [unhide HV]; exact unhide HO, unhide HM1, unhide HB1⟩
            case measure => simp [intOf]; omega

/-- a pair of a net and an error -/
def netV (a b : Int) : Value := .agg #[.int .u32 a, .int .i64 b]
theorem ret_ne {a b c a' b' c' : Int} (h : a = a') (g : b = b') (k : c = c') : Ending.returned (.tuple #[.agg #[.int .u32 a, .int .i64 b], .int .i64 c]) = .returned (.tuple #[.agg #[.int .u32 a', .int .i64 b'], .int .i64 c']) := by rw [h, g, k]
set_option maxHeartbeats 2000000 in
theorem nparse_any (s : ByteArray) (m : Int) (w : World) (hs : s.size < 4294967281) (hm : MX m w) (a b : Nat) (z : Int) (hp : Nt.parse s.data.toList = (a, b, z)) :
    Calls Tryd.prog 7 #[.string s] w fun e w' => e = .returned (.tuple #[.agg #[.int .u32 a, .int .i64 b], .int .i64 z]) ∧ Below w.heap.size w w' := by
  unfold Nt.parse at hp
  obtain ⟨⟨t, u, sl⟩, hq⟩ : ∃ q, Lib.cut s.data.toList [47] = q := ⟨_, rfl⟩
  have HC := hide (fun W (hW : MX m W) => cut_any 47 s m W hs hW _ hq)
  have hlen : t.length ≤ s.size ∧ u.length ≤ s.size := by
    rw [← len_data s]
    rcases Nt.cut_cases 47 s.data.toList with ⟨h1, h2⟩ | ⟨u', v', h1, h2, h3⟩
    · rw [hq] at h2; injection h2 with e1 e2; injection e2 with e2 e3; subst e1 e2; exact ⟨Nat.le_refl _, Nat.zero_le _⟩
    · rw [hq] at h3; injection h3 with e1 e2; injection e2 with e2 e3; subst e1 e2; rw [h1]; simp; omega
  rw [hq] at hp
  dsimp only at hp HC
  clear hq
  have HA := hide (fun W (hW : MX m W) => address_any (mk t) m W (by rw [szM]; omega) hW _ rfl)
  rw [show (mk t).data.toList = t by simp [mk]] at HA
  have HN := hide (nnum_any (mk u) 32 · (by rw [szM]; unfold maxLen; omega))
  rw [show (mk u).data.toList = u by simp [mk]] at HN
  have hbd := Nt.sm_bd 32 u
  have hAB : ∀ x, Nt.adr t = some x → x < 4294967296 := fun x => Nt.adr_bd
  obtain ⟨x, hx⟩ : ∃ x, Nt.sm 32 u = x := ⟨_, rfl⟩
  obtain ⟨o, ho⟩ : ∃ o, Nt.adr t = o := ⟨_, rfl⟩
  rw [hx] at HN hbd hp
  rw [ho] at HA hp hAB
  have HP := hide hp
  clear hp hx ho hlen
  have X0 := hide (NX.new (base := w.heap.size) w (Nat.le_refl _) 0 0)
  have B0 := hide ((Below.refl w.heap.size w).alloc (Nat.le_refl _) (.cells #[.int .u32 0, .int .i64 0] 24))
  have HM0 := hide (hm.below (unhide B0))
  obtain ⟨W0, hW0⟩ : ∃ W0, w.alloc (.cells #[.int .u32 0, .int .i64 0] 24) = W0 := ⟨_, rfl⟩
  rw [hW0] at X0 B0 HM0
  have HC0 := hide ((unhide HC) W0 (unhide HM0))
  clear HC hm
  go_enter Tryd.func7, Tryd.ntmps7
  go_wp2_with fail
  clear hW0
  refine (unhide HC0).mono ?_; rintro e w1 ⟨rfl, b1⟩
  have B1 := hide (bel_trans (unhide B0) b1)
  have HM1 := hide ((unhide HM0).below b1)
  have X1 := hide ((unhide X0).below b1)
  clear b1 HC0 B0 HM0 X0
  go_wp2_with fail
  refine ((unhide HA) w1 (unhide HM1)).mono ?_; rintro e w2 ⟨rfl, b2⟩
  have B2 := hide (bel_trans (unhide B1) b2)
  have X2 := hide ((unhide X1).below b2)
  clear b2 B1 HM1 HA X1
  have done : ∀ (W : World) (g : Nat) (x y : Int), g = w.heap.size → NX W w.heap.size g x y → Below w.heap.size w W → ∀ x' y' : Int, Below w.heap.size w (put2 W g x' y') := fun W g x y hg hX hB x' y' => hB.grown (hX.put x' y').2 hB.size (fun q hq => by have := Option.some.inj hq; omega)
  cases o with
  | none =>
    have HP2 : Hid (((0 : Nat), (0 : Nat), (3 : Int)) = (a, b, z)) := hide (unhide HP)
    obtain ⟨y0, y1⟩ := (unhide X2).cells
    obtain ⟨h0, h1⟩ := (unhide X2).frozen
    have P1 := hide ((unhide X2).loaded 0 0)
    have P2 := hide (done w2 _ 0 0 rfl (unhide X2) (unhide B2) 0 0)
    clear done
    go_wp2_with fail
    (try simp only [Exit.inBlock, Exit.then])
    refine bodyPost_ret_by (v := .tuple #[.agg #[.int .u32 0, .int .i64 0], .int .i64 3]) ?_ rfl ⟨by cases unhide HP2; rfl, unhide P2⟩
    refine results_ct (p := 2) (u := 3) (ty := 24) ?_ _ _ w.heap.size _ ?_ (unhide P1) _ ?_ <;> rfl
  | some ad =>
    have had := hAB ad rfl
    clear hAB
    cases sl with
    | false =>
      have HP2 : Hid (Nt.fin ad 32 = (a, b, z)) := hide (unhide HP)
      have HI := hide (fun W => isNet_any ad 32 had W)
      have X3 := hide (NX.new (base := w.heap.size) w2 (unhide B2).size ad 32)
      have bb3 : Below w2.heap.size w2 (w2.alloc (.cells #[.int .u32 ad, .int .i64 32] 24)) := (Below.refl _ _).alloc (Nat.le_refl _) _
      have B3 := hide (bel_trans (unhide B2) bb3)
      have Y3 := hide ((unhide X2).below bb3)
      have hltw := (unhide X2).lt.2
      obtain ⟨g2, hg2⟩ : ∃ g2, w2.heap.size = g2 := ⟨_, rfl⟩
      obtain ⟨W3, hW3⟩ : ∃ W3, w2.alloc (.cells #[.int .u32 ad, .int .i64 32] 24) = W3 := ⟨_, rfl⟩
      have HI3 := hide ((unhide HI) W3)
      rw [hW3] at X3 B3 Y3
      rw [hg2] at X3 hltw
      clear bb3 HI B2 X2 HP HN
      (try clear y0 y1 h0 h1)
      obtain ⟨v0, v1⟩ := (unhide X3).cells
      go_wp2_with fail
      refine (unhide HI3).mono ?_; rintro e w4 ⟨rfl, b4⟩
      clear hW3 hg2 v0 v1
      have B4 := hide (bel_trans (unhide B3) b4)
      have X4 := hide ((unhide X3).below b4)
      have Y4 := hide ((unhide Y3).below b4)
      clear b4 B3 X3 Y3 HI3
      obtain ⟨v0, v1⟩ := (unhide X4).cells
      obtain ⟨y0, y1⟩ := (unhide Y4).cells
      obtain ⟨h0, h1⟩ := (unhide Y4).frozen
      by_cases hr : Nt.right ad 32
      · have HE : Hid ((ad, 32, (0 : Int)) = (a, b, z)) := hide (by rw [← unhide HP2]; unfold Nt.fin; rw [if_pos (by have := hr.2.2; simpa using this)])
        have d1 : decide (Nt.right ad 32) = true := decide_eq_true hr
        have P1 := hide ((unhide Y4).loadedD ad 32)
        have P0 := hide ((unhide Y4).loaded ad 32)
        have P2 := hide (done w4 _ 0 0 rfl (unhide Y4) (unhide B4) ad 32)
        rw [d1]
        clear done hr HP2 d1
        go_wp2_with fail
        (try simp only [Exit.inBlock, Exit.then])
        refine bodyPost_ret_by (v := .tuple #[.agg #[.int .u32 ad, .int .i64 32], .int .i64 0]) ?_ rfl ⟨by cases unhide HE; rfl, ?_⟩
        rotate_left 1
        · first | exact unhide P2 | exact (unhide P2).drew
        first | (refine results_ct (p := 2) (u := 3) (ty := 24) ?_ _ _ w.heap.size _ ?_ (unhide P1) _ ?_ <;> rfl) | (refine results_ct (p := 2) (u := 3) (ty := 24) ?_ _ _ w.heap.size _ ?_ (unhide P0) _ ?_ <;> rfl)
      · have HE : Hid (((0 : Nat), (0 : Nat), (4 : Int)) = (a, b, z)) := hide (by rw [← unhide HP2]; unfold Nt.fin; rw [if_neg (fun h => hr ⟨by omega, by omega, by simpa using h⟩)])
        have d1 : decide (Nt.right ad 32) = false := decide_eq_false hr
        have P1 := hide ((unhide Y4).loadedD 0 0)
        have P0 := hide ((unhide Y4).loaded 0 0)
        have P2 := hide (done w4 _ 0 0 rfl (unhide Y4) (unhide B4) 0 0)
        rw [d1]
        clear done hr HP2 d1 v0 v1 X4
        go_wp2_with fail
        (try simp only [Exit.inBlock, Exit.then])
        refine bodyPost_ret_by (v := .tuple #[.agg #[.int .u32 0, .int .i64 0], .int .i64 4]) ?_ rfl ⟨by cases unhide HE; rfl, ?_⟩
        rotate_left 1
        · first | exact unhide P2 | exact (unhide P2).drew
        first | (refine results_ct (p := 2) (u := 3) (ty := 24) ?_ _ _ w.heap.size _ ?_ (unhide P1) _ ?_ <;> rfl) | (refine results_ct (p := 2) (u := 3) (ty := 24) ?_ _ _ w.heap.size _ ?_ (unhide P0) _ ?_ <;> rfl)
    | true =>
      have HPT : Hid ((if x < 0 then ((0 : Nat), (0 : Nat), (3 : Int)) else Nt.fin ad x.toNat) = (a, b, z)) := hide (by
        have h := unhide HP
        by_cases hx : x < 0
        · rw [if_pos hx]; exact (if_pos ⟨rfl, hx⟩).symm.trans h
        · rw [if_neg hx]; exact (if_neg (fun g => hx g.2)).symm.trans h)
      clear HP
      go_wp2_with fail
      refine ((unhide HN) w2).mono ?_; rintro e w3 ⟨rfl, hw⟩; rw [hw]; clear hw w3
      by_cases hneg : x < 0
      · have hx : decide (0 ≤ x) = false := decide_eq_false (by omega)
        have HP2 : Hid (((0 : Nat), (0 : Nat), (3 : Int)) = (a, b, z)) := hide (by have := unhide HPT; rwa [if_pos hneg] at this)
        obtain ⟨y0, y1⟩ := (unhide X2).cells
        obtain ⟨h0, h1⟩ := (unhide X2).frozen
        have P1 := hide ((unhide X2).loaded 0 0)
        have P2 := hide (done w2 _ 0 0 rfl (unhide X2) (unhide B2) 0 0)
        clear done HPT
        go_wp2_with fail
        (try simp only [Exit.inBlock, Exit.then])
        refine bodyPost_ret_by (v := .tuple #[.agg #[.int .u32 0, .int .i64 0], .int .i64 3]) ?_ rfl ⟨by cases unhide HP2; rfl, unhide P2⟩
        refine results_ct (p := 2) (u := 3) (ty := 24) ?_ _ _ w.heap.size _ ?_ (unhide P1) _ ?_ <;> rfl
      · have hx : decide (0 ≤ x) = true := decide_eq_true (by omega)
        obtain ⟨n, rfl⟩ := Int.eq_ofNat_of_zero_le (by omega : 0 ≤ x)
        rw [show max 0 (n : Int) = n by omega]
        have hn : n ≤ 32 := by omega
        have HP2 : Hid (Nt.fin ad n = (a, b, z)) := hide (by have := unhide HPT; rwa [if_neg hneg, Int.toNat_natCast] at this)
        have HI := hide (fun W => isNet_any ad n had W)
        clear hneg hbd HPT
        have X3 := hide (NX.new (base := w.heap.size) w2 (unhide B2).size ad n)
        have bb3 : Below w2.heap.size w2 (w2.alloc (.cells #[.int .u32 ad, .int .i64 n] 24)) := (Below.refl _ _).alloc (Nat.le_refl _) _
        have B3 := hide (bel_trans (unhide B2) bb3)
        have Y3 := hide ((unhide X2).below bb3)
        have hltw := (unhide X2).lt.2
        obtain ⟨g2, hg2⟩ : ∃ g2, w2.heap.size = g2 := ⟨_, rfl⟩
        obtain ⟨W3, hW3⟩ : ∃ W3, w2.alloc (.cells #[.int .u32 ad, .int .i64 n] 24) = W3 := ⟨_, rfl⟩
        have HI3 := hide ((unhide HI) W3)
        rw [hW3] at X3 B3 Y3
        rw [hg2] at X3 hltw
        clear bb3 HI B2 X2 HN
        (try clear y0 y1 h0 h1)
        obtain ⟨v0, v1⟩ := (unhide X3).cells
        go_wp2_with fail
        refine (unhide HI3).mono ?_; rintro e w4 ⟨rfl, b4⟩
        clear hW3 hg2 v0 v1
        have B4 := hide (bel_trans (unhide B3) b4)
        have X4 := hide ((unhide X3).below b4)
        have Y4 := hide ((unhide Y3).below b4)
        clear b4 B3 X3 Y3 HI3
        obtain ⟨v0, v1⟩ := (unhide X4).cells
        obtain ⟨y0, y1⟩ := (unhide Y4).cells
        obtain ⟨h0, h1⟩ := (unhide Y4).frozen
        by_cases hr : Nt.right ad n
        · have HE : Hid ((ad, n, (0 : Int)) = (a, b, z)) := hide (by rw [← unhide HP2]; unfold Nt.fin; rw [if_pos (by have := hr.2.2; simpa using this)])
          have d1 : decide (Nt.right ad n) = true := decide_eq_true hr
          have P1 := hide ((unhide Y4).loadedD ad n)
          have P0 := hide ((unhide Y4).loaded ad n)
          have P2 := hide (done w4 _ 0 0 rfl (unhide Y4) (unhide B4) ad n)
          rw [d1]
          clear done hr HP2 d1
          go_wp2_with fail
          (try simp only [Exit.inBlock, Exit.then])
          refine bodyPost_ret_by (v := .tuple #[.agg #[.int .u32 ad, .int .i64 n], .int .i64 0]) ?_ rfl ⟨by cases unhide HE; rfl, ?_⟩
          rotate_left 1
          · first | exact unhide P2 | exact (unhide P2).drew
          first | (refine results_ct (p := 2) (u := 3) (ty := 24) ?_ _ _ w.heap.size _ ?_ (unhide P1) _ ?_ <;> rfl) | (refine results_ct (p := 2) (u := 3) (ty := 24) ?_ _ _ w.heap.size _ ?_ (unhide P0) _ ?_ <;> rfl)
        · have HE : Hid (((0 : Nat), (0 : Nat), (4 : Int)) = (a, b, z)) := hide (by rw [← unhide HP2]; unfold Nt.fin; rw [if_neg (fun h => hr ⟨by omega, by omega, by simpa using h⟩)])
          have d1 : decide (Nt.right ad n) = false := decide_eq_false hr
          have P1 := hide ((unhide Y4).loadedD 0 0)
          have P0 := hide ((unhide Y4).loaded 0 0)
          have P2 := hide (done w4 _ 0 0 rfl (unhide Y4) (unhide B4) 0 0)
          rw [d1]
          clear done hr HP2 d1 v0 v1 X4
          go_wp2_with fail
          (try simp only [Exit.inBlock, Exit.then])
          refine bodyPost_ret_by (v := .tuple #[.agg #[.int .u32 0, .int .i64 0], .int .i64 4]) ?_ rfl ⟨by cases unhide HE; rfl, ?_⟩
          rotate_left 1
          · first | exact unhide P2 | exact (unhide P2).drew
          first | (refine results_ct (p := 2) (u := 3) (ty := 24) ?_ _ _ w.heap.size _ ?_ (unhide P1) _ ?_ <;> rfl) | (refine results_ct (p := 2) (u := 3) (ty := 24) ?_ _ _ w.heap.size _ ?_ (unhide P0) _ ?_ <;> rfl)
end Go.Proofs.YtmhjfiaohbioeaaDoor
