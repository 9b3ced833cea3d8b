/- Parse, Print, In and List answer what the document says: whatever is handed in.
   Conditions: what is handed in is of bulk at most 1048576; the library's tables are as the program's text lays them, and its own variable MaxLen holds whatever number. -/
import Derived.Test.YtmhjfiaohbioeaaDoorRows
import Derived.Test.YtmhjfiaohbioeaaDoorTie
import Derived.Test.YtmhjfiaohbioeaaDoorCards
import Derived.WalkKit
import Derived.ProofKit
import Derived.OpenShut
import Derived.ShutString
import Derived.JoinedCond
import Derived.Lib.SmallJoins
import Derived.Test.YtmhjfiaohbioeaaDoorNi
import Derived.Test.YtmhjfiaohbioeaaDoorLq
import Derived.Stop.LaidErr
import Derived.Deep.RegionHeld3
namespace Go.Proofs.YtmhjfiaohbioeaaDoor.netsSays
open Go.ChangeShapes Go.WideShapes Go.ChangeAt Go.RowKit
open Go.ChangeMaps (open_string shut_string)
open Kb
set_option linter.unusedVariables false
set_option maxRecDepth 20000

theorem has_any (c : UInt8) (s : ByteArray) (w : World) (hs : s.size ≤ 4294960000) :
    Calls Tryd.prog 15 #[.string s, .string ⟨#[c]⟩] w fun e w' => e = .returned (.bool (decide (c ∈ s.data.toList))) ∧ w' = w := by
  have HF := hide (rfind_any s ⟨#[c]⟩ 0 w (by omega) (by show 1 ≤ _; decide) (by omega) (by omega))
  rw [show (⟨#[c]⟩ : ByteArray).data.toList = [c] from rfl] at HF
  have HC := Cs.find_cut c s.data.toList
  obtain ⟨i, hi⟩ : ∃ i, Fnd.find s.data.toList [c] 0 = i := ⟨_, rfl⟩
  rw [hi] at HF HC
  have HD : Hid (decide (0 ≤ i) = decide (c ∈ s.data.toList)) := hide (by
    rcases HC with ⟨h1, h2⟩ | ⟨k, h1, h2, h3⟩
    · rw [decide_eq_false (by omega), decide_eq_false h1]
    · rw [decide_eq_true (by omega)]
      refine (decide_eq_true ?_).symm
      refine Classical.byContradiction fun hn => ?_
      have h4 := congrArg List.length h3
      rw [Cs.cut_no hn] at h4
      simp only [List.length_cons, List.length_nil] at h4
      have := List.length_pos_iff.2 (Cs.cut_ne c (s.data.toList.drop (k + 1)))
      omega)
  clear HC hi
  go_enter Tryd.func15, Tryd.ntmps15
  go_wp2_with fail
  refine (unhide HF).mono ?_; rintro e wx ⟨rfl, hwx⟩; rw [hwx]; clear hwx wx
  go_wp2_with fail
  go_ret
  exact ⟨ret_bool (unhide HD), rfl⟩
theorem and_one (a n : Nat) (ha : a < 4294967296) : bits .and .u32 ((a : Int) / 2 ^ n) 1 = ((a / 2 ^ n % 2 : Nat) : Int) := by
  have hd : a / 2 ^ n < 4294967296 := Nat.lt_of_le_of_lt (Nat.div_le_self _ _) ha
  have := u32_and_nat (a / 2 ^ n) 1 hd (by decide)
  rw [Nat.and_one_is_mod] at this
  rw [← this]; norm_cast
theorem bit_zero {a m k : Nat} (h : a % 2 ^ m = 0) (hk : k < m) : a / 2 ^ k % 2 = 0 := by
  have h1 : 2 ^ (k + 1) ∣ a := Nat.dvd_trans (Nat.pow_dvd_pow 2 (by omega)) (Nat.dvd_of_mod_eq_zero h)
  have h2 := Nt.mod_bit a k
  rw [Nat.mod_eq_zero_of_dvd h1] at h2
  have hp : 0 < 2 ^ k := Nat.two_pow_pos k
  rcases Nat.mod_two_eq_zero_or_one (a / 2 ^ k) with e | e
  · exact e
  · rw [e] at h2; omega
/-- what lies where, ahead of the comparisons -/
structure SB (w : World) (a : Nat) (b : Int) (g1 g2 pa pb : Nat) (v v' : Value) (L : List (Nat × Nat)) (W : World) : Prop where
  bel : Below w.heap.size w W
  x : NX W w.heap.size w.heap.size a b
  y : NX W w.heap.size g1 pa pb
  z : NX W w.heap.size g2 pa pb
  pow : PowB w.heap.size W
  o1 : ∃ B, W.ownsRow B 24 2 v L.length (cellsNs L)
  o2 : ∃ B, W.ownsRow B 24 2 v' L.length (cellsNs L)
theorem SB.on {w : World} {a : Nat} {b : Int} {g1 g2 pa pb : Nat} {v v' : Value} {L : List (Nat × Nat)} {W W' : World} (h : SB w a b g1 g2 pa pb v v' L W) (k : Below W.heap.size W W') : SB w a b g1 g2 pa pb v v' L W' :=
  ⟨bel_trans h.bel k, h.x.below k, h.y.below k, h.z.below k, h.pow.on (k.mono h.bel.size), h.o1.imp fun _ o => own_below o k, h.o2.imp fun _ o => own_below o k⟩
theorem SB.drew {w : World} {a : Nat} {b : Int} {g1 g2 pa pb : Nat} {v v' : Value} {L : List (Nat × Nat)} {W : World} (h : SB w a b g1 g2 pa pb v v' L W) : SB w a b g1 g2 pa pb v v' L W.drew := h.on (Below.refl _ _).drew
set_option maxHeartbeats 8000000 in
theorem walk_m (s : ByteArray) (hb : s.size ≤ 1048576) (a : Nat) (b : Int) (d : Nat) (ha : a < 4294967296) (hbb : -9223372036854775808 ≤ b ∧ b ≤ 9223372036854775807) (hd : d < 4294967296) (m : Int) (w : World) (hm : MX m w)
    (ht : Lib.TabIs Tryd.prog w "internal/strconv.uint64pow10" .u64 Lib.pow10Tab) :
    Calls Tryd.prog 3 #[.string s, .agg #[.int .u32 a, .int .i64 b], .int .u32 d] w fun e w' => e = .returned (.bool true) ∧ Below w.heap.size w w' := by
  obtain ⟨⟨pa, pb, pz⟩, hp⟩ : ∃ q, Nt.parse s.data.toList = q := ⟨_, rfl⟩
  obtain ⟨⟨L, lz⟩, hl⟩ : ∃ q, Nt.list s.data.toList = q := ⟨_, rfl⟩
  have HP := hide (fun W (hW : MX m W) => nparse_any s m W (by omega) hW pa pb pz hp)
  have HRP := hide (fun W => rnet_any s W (by omega) pa pb pz hp)
  have HL := hide (fun W (hW : MX m W) => List_any s m W (by omega) hW _ hl)
  have HRL := hide (fun W => rnets_any s W (by omega) _ hl)
  have hLlen : L.length ≤ 30 := by have := Nt.list_len s.data.toList; rw [hl] at this; exact this
  dsimp only at HL HRL
  clear hp hl
  have X0 := hide (NX.new (base := w.heap.size) w (Nat.le_refl _) a b)
  have B0 := hide ((Below.refl w.heap.size w).alloc (Nat.le_refl _) (.cells #[.int .u32 a, .int .i64 b] 24))
  have T0 := hide ((Lib.tabBelow_of_tabIs ht).on (unhide B0))
  have M0 := hide (hm.below (unhide B0))
  clear ht hm
  obtain ⟨W0, hW0⟩ : ∃ W0, w.alloc (.cells #[.int .u32 a, .int .i64 b] 24) = W0 := ⟨_, rfl⟩
  rw [hW0] at X0 B0 T0 M0
  go_enter Tryd.func3, Tryd.ntmps3
  go_wp2_with fail
  clear hW0
  refine ((unhide HP) W0 (unhide M0)).mono ?_
  rintro e w1 ⟨rfl, b1⟩
  have bb := (Below.refl w1.heap.size w1).alloc (Nat.le_refl _) (.cells #[.int .u32 pa, .int .i64 pb] 24)
  have B1 := hide (bel_trans (bel_trans (unhide B0) b1) bb)
  have X1 := hide (((unhide X0).below b1).below bb)
  have T1 := hide ((unhide T0).on ((b1.mono (unhide B0).size).trans (bb.mono (bel_trans (unhide B0) b1).size)))
  have M1 := hide (((unhide M0).below b1).below bb)
  have Y1 := hide (NX.new (base := w.heap.size) w1 (bel_trans (unhide B0) b1).size pa pb)
  obtain ⟨g1, hg1⟩ : ∃ g, w1.heap.size = g := ⟨_, rfl⟩
  obtain ⟨W1, hW1⟩ : ∃ W, w1.alloc (.cells #[.int .u32 pa, .int .i64 pb] 24) = W := ⟨_, rfl⟩
  rw [hW1] at B1 X1 T1 M1 Y1
  rw [hg1] at Y1
  clear bb b1 HP B0 X0 T0 M0
  obtain ⟨p0, p1⟩ := (unhide Y1).cells
  go_wp2_with fail
  clear hW1 hg1
  refine ((unhide HRP) W1).mono ?_
  rintro e w2 ⟨rfl, b2⟩
  have bb := (Below.refl w2.heap.size w2).alloc (Nat.le_refl _) (.cells #[.int .u32 pa, .int .i64 pb] 24)
  have B2 := hide (bel_trans (bel_trans (unhide B1) b2) bb)
  have X2 := hide (((unhide X1).below b2).below bb)
  have T2 := hide ((unhide T1).on ((b2.mono (unhide B1).size).trans (bb.mono (bel_trans (unhide B1) b2).size)))
  have M2 := hide (((unhide M1).below b2).below bb)
  have Y2 := hide (((unhide Y1).below b2).below bb)
  have Z2 := hide (NX.new (base := w.heap.size) w2 (bel_trans (unhide B1) b2).size pa pb)
  obtain ⟨g2, hg2⟩ : ∃ g, w2.heap.size = g := ⟨_, rfl⟩
  obtain ⟨W2, hW2⟩ : ∃ W, w2.alloc (.cells #[.int .u32 pa, .int .i64 pb] 24) = W := ⟨_, rfl⟩
  rw [hW2] at B2 X2 T2 M2 Y2 Z2
  rw [hg2] at Z2
  clear bb b2 B1 X1 T1 M1 Y1 p0 p1
  obtain ⟨p0, p1⟩ := (unhide Z2).cells
  go_wp2_with fail
  clear hW2 hg2
  refine ((unhide HL) W2 (unhide M2)).mono ?_
  rintro e w3 ⟨v, rfl, own3, b3⟩
  have B3 := hide (bel_trans (unhide B2) b3)
  have X3 := hide ((unhide X2).below b3)
  have T3 := hide ((unhide T2).on (b3.mono (unhide B2).size))
  have M3 := hide ((unhide M2).below b3)
  have Y3 := hide ((unhide Y2).below b3)
  have Z3 := hide ((unhide Z2).below b3)
  have O3 := hide own3
  clear b3 own3 B2 X2 T2 M2 Y2 Z2 p0 p1 HL
  go_wp2_with fail
  refine ((unhide HRL) w3).mono ?_
  rintro e w4 ⟨v', rfl, own4, b4⟩
  have S4 := hide (SB.mk (bel_trans (unhide B3) b4) ((unhide X3).below b4) ((unhide Y3).below b4) ((unhide Z3).below b4) ((unhide T3).on (b4.mono (unhide B3).size)) ⟨_, own_below (unhide O3) b4⟩ ⟨_, own4⟩)
  clear b4 own4 B3 X3 T3 M3 Y3 Z3 O3 HRL HRP
  obtain ⟨x0, x1⟩ := (unhide S4).x.cells
  obtain ⟨y0, y1⟩ := (unhide S4).y.cells
  obtain ⟨z0, z1⟩ := (unhide S4).z.cells
  obtain ⟨ib, hib⟩ : ∃ r, Nt.inN a b d = r := ⟨_, rfl⟩
  have HS : ∀ W, SB w a b g1 g2 pa pb v v' L W → (W.cell? ⟨w.heap.size, 0, none⟩ = some (.int .u32 a) ∧ W.cell? ⟨w.heap.size, 1, none⟩ = some (.int .i64 b) ∧ W.cell? ⟨g1, 0, none⟩ = some (.int .u32 pa) ∧ W.cell? ⟨g1, 1, none⟩ = some (.int .i64 pb) ∧ W.cell? ⟨g2, 0, none⟩ = some (.int .u32 pa) ∧ W.cell? ⟨g2, 1, none⟩ = some (.int .i64 pb) ∧ SB w a b g1 g2 pa pb v v' L W) :=
    fun W h => ⟨h.x.cells.1, h.x.cells.2, h.y.cells.1, h.y.cells.2, h.z.cells.1, h.z.cells.2, h⟩
  have HEQ : ∀ W, SB w a b g1 g2 pa pb v v' L W → Calls Tryd.prog 11 #[v, v'] W fun e W' => e = .returned (.bool true) ∧ SB w a b g1 g2 pa pb v v' L W' := fun W h => by
    obtain ⟨_, o1⟩ := h.o1
    obtain ⟨_, o2⟩ := h.o2
    exact (equal_nets W _ _ _ _ L o1 o2 (by omega)).mono fun e W' k => ⟨k.1, h.on k.2⟩
  have HIN : ∀ W, SB w a b g1 g2 pa pb v v' L W → Calls Tryd.prog 12 #[.agg #[.int .u32 a, .int .i64 b], .int .u32 d] W fun e W' => e = .returned (.bool ib) ∧ SB w a b g1 g2 pa pb v v' L W' := fun W h =>
    (In_any a b d ha hd W).mono fun e W' k => ⟨by rw [← hib]; exact k.1, h.on k.2⟩
  have HWI : ∀ W, SB w a b g1 g2 pa pb v v' L W → Calls Tryd.prog 13 #[.agg #[.int .u32 a, .int .i64 b], .int .u32 d] W fun e W' => e = .returned (.bool ib) ∧ SB w a b g1 g2 pa pb v v' L W' := fun W h =>
    (within_any a b d ha hd W).mono fun e W' k => ⟨by rw [← hib]; exact k.1, h.on k.2⟩
  have hs4 := HS _ (unhide S4)
  have HD : ∀ W, SB w a b g1 g2 pa pb v v' L W → SB w a b g1 g2 pa pb v v' L W.drew := fun W h => h.drew
  have s4 := unhide S4
  obtain ⟨Sb, hSb⟩ : ∃ Q : World → Prop, SB w a b g1 g2 pa pb v v' L = Q := ⟨_, rfl⟩
  have HOUT : Hid (∀ W, Sb W → SB w a b g1 g2 pa pb v v' L W) := hide (fun W h => by rw [hSb]; exact h)
  rw [hSb] at HS HEQ HIN HWI HD s4 hs4
  have FEQ := hide HEQ
  have FIN := hide HIN
  have FWI := hide HWI
  have FS := hide HS
  have FX : Hid (∀ W, (W.cell? ⟨w.heap.size, 0, none⟩ = some (.int .u32 a) ∧ W.cell? ⟨w.heap.size, 1, none⟩ = some (.int .i64 b) ∧ W.cell? ⟨g1, 0, none⟩ = some (.int .u32 pa) ∧ W.cell? ⟨g1, 1, none⟩ = some (.int .i64 pb) ∧ W.cell? ⟨g2, 0, none⟩ = some (.int .u32 pa) ∧ W.cell? ⟨g2, 1, none⟩ = some (.int .i64 pb) ∧ Sb W) → Sb W) := hide (fun W h => h.2.2.2.2.2.2)
  have FC : Hid (∀ W, (W.cell? ⟨w.heap.size, 0, none⟩ = some (.int .u32 a) ∧ W.cell? ⟨w.heap.size, 1, none⟩ = some (.int .i64 b) ∧ W.cell? ⟨g1, 0, none⟩ = some (.int .u32 pa) ∧ W.cell? ⟨g1, 1, none⟩ = some (.int .i64 pb) ∧ W.cell? ⟨g2, 0, none⟩ = some (.int .u32 pa) ∧ W.cell? ⟨g2, 1, none⟩ = some (.int .i64 pb) ∧ Sb W) → (W.drew.cell? ⟨w.heap.size, 0, none⟩ = some (.int .u32 a) ∧ W.drew.cell? ⟨w.heap.size, 1, none⟩ = some (.int .i64 b) ∧ W.drew.cell? ⟨g1, 0, none⟩ = some (.int .u32 pa) ∧ W.drew.cell? ⟨g1, 1, none⟩ = some (.int .i64 pb) ∧ W.drew.cell? ⟨g2, 0, none⟩ = some (.int .u32 pa) ∧ W.drew.cell? ⟨g2, 1, none⟩ = some (.int .i64 pb) ∧ Sb W.drew)) := hide (fun W h => HS _ (HD _ h.2.2.2.2.2.2))
  clear hib hSb HS HEQ HIN HWI HD s4 S4 x0 x1 y0 y1 z0 z1
  go_wp2_with fail
  go_region_held3 (fun W => W.cell? ⟨w.heap.size, 0, none⟩ = some (.int .u32 a) ∧ W.cell? ⟨w.heap.size, 1, none⟩ = some (.int .i64 b) ∧ W.cell? ⟨g1, 0, none⟩ = some (.int .u32 pa) ∧ W.cell? ⟨g1, 1, none⟩ = some (.int .i64 pb) ∧ W.cell? ⟨g2, 0, none⟩ = some (.int .u32 pa) ∧ W.cell? ⟨g2, 1, none⟩ = some (.int .i64 pb) ∧ Sb W) (first | assumption | exact unhide FC _ (by assumption) | exact unhide FS _ (by assumption))
    (first
      | (go_at_call 11; refine (unhide FEQ _ (unhide FX _ (by assumption))).mono ?_; rintro e w' ⟨rfl, hw'⟩)
      | (go_at_call 12; refine (unhide FIN _ (unhide FX _ (by assumption))).mono ?_; rintro e w' ⟨rfl, hw'⟩)
      | (go_at_call 13; refine (unhide FWI _ (unhide FX _ (by assumption))).mono ?_; rintro e w' ⟨rfl, hw'⟩))
  clear hs4 FS FC FEQ FIN FWI
  have s7 := unhide HOUT _ (unhide FX _ (by assumption))
  clear FX HOUT
  have B7 := hide s7.bel
  have X7 := hide s7.x
  have T7 := hide s7.pow
  clear s7
  obtain ⟨x0, x1⟩ := (unhide X7).cells
  have hl7 := (unhide X7).lt
  by_cases hr : Nt.right a b
  · have hr' := hr
    obtain ⟨n, rfl⟩ := Int.eq_ofNat_of_zero_le hr'.1
    obtain ⟨q, hq⟩ : ∃ q, mk (Nt.tx a n) = q := ⟨_, rfl⟩
    have PR := hide (fun (W : World) (hT : Lib.TabIs Tryd.prog W "internal/strconv.uint64pow10" .u64 Lib.pow10Tab) => print_yes a n ha hr W hT (Nt.tx a n) rfl)
    have hql : q.size ≤ 18 := by rw [← hq, szM]; exact Nt.tx_len ha
    have hqd : q.data.toList = Nt.tx a n := by rw [← hq]; simp [mk]
    have RP := hide (fun W => rnet_any q W (by omega) a n 0 (by rw [hqd]; exact Nt.parse_tx ha hr))
    have HH := hide (fun W => has_any 47 q W (by omega))
    have hdd : decide ((47 : UInt8) ∈ q.data.toList) = decide ((n : Int) < 32) := by rw [hqd]; exact decide_eq_decide.2 (Nt.tx_slash.trans (by omega))
    rw [hdd] at HH
    rw [hq] at PR
    have hn32 : n ≤ 32 := by have := hr'.2.1; omega
    have hmod : a % 2 ^ (32 - n) = 0 := by have := hr'.2.2; rwa [Int.toNat_natCast] at this
    have HMOD : Hid (∀ j, n ≤ j → j < 32 → a / 2 ^ (31 - j) % 2 = 0) := hide (fun j h1 h2 => bit_zero hmod (by omega))
    have hmx : max (n : Int) 0 = n := by omega
    have d0 : decide (0 ≤ (n : Int)) = true := decide_eq_true (by omega)
    have d1 : decide ((n : Int) ≤ 32) = true := decide_eq_true (by omega)
    clear hr hr' hq hqd hdd hmod
    go_wp2_with fail
    refine ((unhide PR) w' (unhide T7).here).mono ?_
    rintro e w8 ⟨rfl, b8⟩
    have B8 := hide (bel_trans (unhide B7) b8)
    have X8 := hide ((unhide X7).below b8)
    clear b8 B7 X7 T7 x0 x1 hl7 PR
    obtain ⟨x0, x1⟩ := (unhide X8).cells
    have hl8 := (unhide X8).lt
    go_wp2_with fail
    go_loopw [17, 18] (fun r i wr => ∃ j : Nat, r = .bool true ∧ i = .int .i64 j ∧ n ≤ j ∧ j ≤ 32 ∧ NX wr w.heap.size w.heap.size a n ∧ Below w.heap.size w wr) (fun _ i _ => 32 - (intOf i).toNat)
    case atStart => exact ⟨n, rfl, rfl, Nat.le_refl _, hn32, unhide X8, unhide B8⟩
    case round =>
      clear B8 X8 x0 x1 hl8
      obtain ⟨j, rfl, rfl, hj1, hj2, hX, hB⟩ := hrel
      have X9 := hide hX
      have B9 := hide hB
      obtain ⟨x0, x1⟩ := hX.cells
      have hl9 := hX.lt
      clear hX hB
      by_cases hj : j < 32
      · have hjI : (j : Int) < 32 := by omega
        have hs0 : (0 : Int) ≤ 31 - j := by omega
        have hand := and_one a (31 - j) ha
        rw [unhide HMOD j hj1 hj] at hand
        go_wp2_with fail
        exact ⟨⟨j + 1, rfl, by go_num, by omega, by omega, unhide X9, unhide B9⟩, by simp [intOf]; omega⟩
      · obtain rfl : j = 32 := by omega
        clear HMOD
        go_wp2_with fail
        refine ((unhide RP) wr).mono ?_
        rintro e w9 ⟨rfl, b9⟩
        have bb := (Below.refl w9.heap.size w9).alloc (Nat.le_refl _) (.cells #[.int .u32 a, .int .i64 n] 24)
        have BA := hide (bel_trans (bel_trans (unhide B9) b9) bb)
        have XA := hide (((unhide X9).below b9).below bb)
        have YA := hide (NX.new (base := w.heap.size) w9 (bel_trans (unhide B9) b9).size a n)
        obtain ⟨g3, hg3⟩ : ∃ g, w9.heap.size = g := ⟨_, rfl⟩
        obtain ⟨WA, hWA⟩ : ∃ W, w9.alloc (.cells #[.int .u32 a, .int .i64 n] 24) = W := ⟨_, rfl⟩
        rw [hWA] at BA XA YA
        rw [hg3] at YA
        clear bb b9 B9 X9 x0 x1 hl9 RP
        obtain ⟨x0, x1⟩ := (unhide XA).cells
        obtain ⟨y0, y1⟩ := (unhide YA).cells
        have hlA := (unhide XA).lt
        have hlB := (unhide YA).lt
        go_wp2_with fail
        go_quiet (first | (go_at_call 15; refine Calls.quiet_of_same ((unhide HH) _)))
        go_wp2_with fail
        go_ret
        exact ⟨ret_bool (by simp), Go.below_drewN (unhide BA) _⟩
  · have PR := hide (fun (W : World) => print_no a b ha hr W)
    have HRT := hide hr
    clear hr
    go_wp2_with fail
    refine ((unhide PR) w').mono ?_
    rintro e w8 ⟨rfl, b8⟩
    have B8 := hide (bel_trans (unhide B7) b8)
    have X8 := hide ((unhide X7).below b8)
    clear b8 B7 X7 T7 x0 x1 hl7 PR
    obtain ⟨x0, x1⟩ := (unhide X8).cells
    have hl8 := (unhide X8).lt
    have hq0 : ((mk []).toList == []) = true := by rw [Lib.toList_data]; rfl
    have hq1 : (mk []).toList.isEmpty = true := by rw [Lib.toList_data]; rfl
    have hq2 : (mk []).toList = [] := by rw [Lib.toList_data]; rfl
    obtain ⟨q0, hq0e⟩ : ∃ q, mk [] = q := ⟨_, rfl⟩
    rw [hq0e] at hq0 hq1 hq2 ⊢
    clear hq0e
    by_cases h0 : b < 0
    · have hmx : max b 0 = 0 := by omega
      have d0 : decide (0 ≤ b) = false := decide_eq_false (by omega)
      have h32 : b ≤ 32 := by omega
      go_wp2_with fail
      go_loopw [17, 18] (fun r i wr => r = .bool false ∧ i = .int .i64 0 ∧ NX wr w.heap.size w.heap.size a b ∧ Below w.heap.size w wr) (fun _ i _ => 32 - (intOf i).toNat)
      case atStart => exact ⟨rfl, rfl, unhide X8, unhide B8⟩
      case round =>
        clear B8 X8 x0 x1 hl8
        obtain ⟨rfl, rfl, hX, hB⟩ := hrel
        have B9 := hide hB
        clear hX hB
        go_wp2_with fail
        go_ret
        exact ⟨ret_bool (by simp), unhide B9⟩
    · have hmx : max b 0 = b := by omega
      have d0 : decide (0 ≤ b) = true := decide_eq_true (by omega)
      by_cases h1 : 32 < b
      · have d1 : decide (b ≤ 32) = false := decide_eq_false (by omega)
        have hI : ¬ b < 32 := by omega
        go_wp2_with fail
        go_loopw [17, 18] (fun r i wr => r = .bool false ∧ i = .int .i64 b ∧ NX wr w.heap.size w.heap.size a b ∧ Below w.heap.size w wr) (fun _ i _ => 32 - (intOf i).toNat)
        case atStart => exact ⟨rfl, rfl, unhide X8, unhide B8⟩
        case round =>
          clear B8 X8 x0 x1 hl8
          obtain ⟨rfl, rfl, hX, hB⟩ := hrel
          have B9 := hide hB
          clear hX hB
          go_wp2_with fail
          go_ret
          exact ⟨ret_bool (by simp), unhide B9⟩
      · have d1 : decide (b ≤ 32) = true := decide_eq_true (by omega)
        obtain ⟨n, rfl⟩ := Int.eq_ofNat_of_zero_le (by omega : 0 ≤ b)
        have hn32 : n ≤ 32 := by omega
        have HMN : Hid (a % 2 ^ (32 - n) ≠ 0) := hide (fun e => unhide HRT ⟨by omega, by omega, by rw [Int.toNat_natCast]; exact e⟩)
        clear HRT
        go_wp2_with fail
        go_loopw [17, 18] (fun r i wr => ∃ (j : Nat) (rt : Bool), r = .bool rt ∧ i = .int .i64 j ∧ n ≤ j ∧ (rt = true → j ≤ 32 ∧ a % 2 ^ (32 - n) = a % 2 ^ (32 - j)) ∧ NX wr w.heap.size w.heap.size a n ∧ Below w.heap.size w wr) (fun _ i _ => 33 - (intOf i).toNat)
        case atStart => exact ⟨n, true, rfl, rfl, Nat.le_refl _, fun _ => ⟨hn32, rfl⟩, unhide X8, unhide B8⟩
        case round =>
          clear B8 X8 x0 x1 hl8
          obtain ⟨j, rt, rfl, rfl, hj1, hj2, hX, hB⟩ := hrel
          have X9 := hide hX
          have B9 := hide hB
          obtain ⟨x0, x1⟩ := hX.cells
          have hl9 := hX.lt
          clear hX hB
          cases rt with
          | false =>
            clear hj2
            by_cases hj : j < 32
            · have hjI : (j : Int) < 32 := by omega
              go_wp2_with fail
              go_ret
              exact ⟨ret_bool (by simp), unhide B9⟩
            · have hjI : ¬ (j : Int) < 32 := by omega
              go_wp2_with fail
              go_ret
              exact ⟨ret_bool (by simp), unhide B9⟩
          | true =>
            obtain ⟨hj3, hmod⟩ := hj2 rfl
            by_cases hj : j < 32
            · have hjI : (j : Int) < 32 := by omega
              have hs0 : (0 : Int) ≤ 31 - j := by omega
              have hand := and_one a (31 - j) ha
              have hmb := Nt.mod_bit a (31 - j)
              rw [show 31 - j + 1 = 32 - j by omega] at hmb
              have HMM : Hid (a / 2 ^ (31 - j) % 2 = 0 → a % 2 ^ (32 - n) = a % 2 ^ (32 - (j + 1))) := hide (fun e => by rw [hmod, hmb, e, show 32 - (j + 1) = 31 - j by omega]; omega)
              obtain ⟨bt, hbt⟩ : ∃ x : Nat, a / 2 ^ (31 - j) % 2 = x := ⟨_, rfl⟩
              rw [hbt] at hand HMM
              clear hmod hmb hbt hj2
              by_cases hb0 : bt = 0
              · subst hb0
                have HMJ := hide (unhide HMM rfl)
                clear HMM
                go_wp2_with fail
                exact ⟨⟨j + 1, true, rfl, by go_num, by omega, fun _ => ⟨by omega, unhide HMJ⟩, unhide X9, unhide B9⟩, by simp [intOf]; omega⟩
              · have hbI : ((bt : Int) == 0) = false := beq_eq_false_iff_ne.2 (by omega)
                clear HMM
                go_wp2_with fail
                exact ⟨⟨j + 1, false, by simp, by go_num, by omega, (fun h => by cases h), unhide X9, unhide B9⟩, by simp [intOf]; omega⟩
            · exfalso
              obtain rfl : j = 32 := by omega
              exact unhide HMN (by rw [hmod]; omega)

theorem walk (a0 : ByteArray) (a1 b1 a2 : Int) (hb : a0.size ≤ 1048576) (hu2 : 0 ≤ a2 ∧ a2 ≤ 4294967295) (hu1 : 0 ≤ a1 ∧ a1 ≤ 4294967295) (hn1 : -9223372036854775808 ≤ b1 ∧ b1 ≤ 9223372036854775807) (w : World) (hsh : w.ShapedOpen Tryd.prog) (hL : laidMetH Tryd.prog Rows.netsSaysUptoRow.laid w) :
    Calls Tryd.prog 3 #[.string a0, .agg #[.int .u32 a1, .int .i64 b1], .int .u32 a2] w fun e w' => e = .returned (.bool true) ∧ Below w.heap.size w w' := by
  obtain ⟨m, hm⟩ := Tryd.laysM145.s1_3 w hsh
  have h1 : laidMet Tryd.prog [("math/bits.deBruijn32tab", Rows.laid_math_bits_deBruijn32tab), ("math/bits.deBruijn64tab", Rows.laid_math_bits_deBruijn64tab), ("internal/strconv.uint64pow10", Rows.laid_internal_strconv_uint64pow10), ("unicode/utf8.acceptRanges", Rows.laid_unicode_utf8_acceptRanges), ("unicode/utf8.first", Rows.laid_unicode_utf8_first)] w := hL
  obtain ⟨a, rfl⟩ := Int.eq_ofNat_of_zero_le hu1.1
  obtain ⟨d, rfl⟩ := Int.eq_ofNat_of_zero_le hu2.1
  exact walk_m a0 hb a b1 d (by omega) hn1 (by omega) m w hm (pow_tab h1.tail.tail)

theorem own : ownKnob Tryd.prog.godebug = none := by kernel_rfl

theorem small_of {H : Type} {a0 : ByteArray} {a1 b : Int} {a2 : Int} (hk : Rows.uptoSmall H ([.lit (.string a0.data.toList), .agg [.lit (.int .u32 a1), .lit (.int .i64 b)], .lit (.int .u32 a2)] ++ []) = true) : a0.size ≤ 1048576 := by
  have h := of_decide_eq_true hk
  simp only [Rows.uptoBulkAll, Rows.uptoBulk, List.append_nil, Array.length_toList, ByteArray.size_data] at h
  omega

theorem contract (H : Type) (enc : TypeId × Value → H) (W : World) (base : Nat) (args : Array Value) (ds gs : List (DataW H)) (before : List MemPlace) (hsh : W.ShapedOpen Tryd.prog)
    (hval0 : ∀ (j : Nat) t v, Tryd.f3.params[j]? = some t → args[j]? = some v → Value.okWide Tryd.prog W .any base t v)
    (hW : DataW.Whole enc Tryd.prog Tryd.f3.params.toList Rows.netsSaysSpec.vars false W args.toList ds gs before) (hk : Rows.uptoSmall H (ds ++ gs) = true) (hL : laidMetH Tryd.prog Rows.netsSaysUptoRow.laid W) :
    Calls Tryd.prog 3 args W fun e W' => ∃ v, e = .returned v ∧ Rows.netsSaysSpec.post enc Tryd.prog Tryd.f3 false true false false W args v W' := by
  have hval : ∀ (j : Nat) t v, Tryd.f3.params[j]? = some t → args[j]? = some v → Value.okWide Tryd.prog W .any base t v := hval0
  have hW' := hW
  obtain ⟨p, q, hA0, hV, rfl, hfz, hnd⟩ := hW
  have hA : DataW.TrodAll enc Tryd.prog W 0 (fun _ => true) true Tryd.f3.params.toList args.toList ds p := hA0
  rw [Tryd.params3] at hA hval
  obtain ⟨v0, vs0, d0, ds0, p0, q0, hargs, rfl, rfl, h0, r0⟩ := trodAll_cons hA
  obtain ⟨v1, vs1, d1, ds1, p1, q1, rfl, rfl, rfl, h1, r1⟩ := trodAll_cons r0
  obtain ⟨v2, vs2, d2, ds2, p2, q2, rfl, rfl, rfl, h2, r2⟩ := trodAll_cons r1
  obtain ⟨rfl, rfl, rfl⟩ := trodAll_nil r2
  obtain rfl : args = #[v0, v1, v2] := by cases args; simp_all
  obtain ⟨rfl, rfl⟩ := trodVars_none hV
  obtain ⟨a0, rfl, rfl, rfl, w0⟩ := open_string Tryd.underlying9 (hval 0 9 v0 rfl rfl) h0
  obtain ⟨c1, e1, y1, z1, m1, rfl, rfl, rfl, hy1, hz1⟩ := Go.Joins.open_agg2 Tryd.underlying24 (by kernel_rfl) (by kernel_rfl) (hval 1 24 v1 rfl rfl) h1
  obtain ⟨a1, ea1, rfl, w1⟩ := DataW.trod_int Tryd.underlying22 hy1
  obtain ⟨b1, eb1, rfl, x1⟩ := DataW.trod_int Tryd.underlying3 hz1
  simp at ea1 eb1
  subst ea1 eb1
  obtain ⟨a2, rfl, rfl, rfl, w2⟩ := open_int Tryd.underlying22 (hval 2 22 v2 rfl rfl) h2
  clear hA0 hval0
  simp only [List.append_nil] at hW'
  have hu2 : 0 ≤ a2 ∧ a2 ≤ 4294967295 := by simpa [Lit.wf, IntKind.min, IntKind.max, IntKind.signed, IntKind.bits] using w2
  have hu1 : 0 ≤ a1 ∧ a1 ≤ 4294967295 := by simpa [Lit.wf, IntKind.min, IntKind.max, IntKind.signed, IntKind.bits] using w1
  have hn1 : -9223372036854775808 ≤ b1 ∧ b1 ≤ 9223372036854775807 := by simpa [Lit.wf, IntKind.min, IntKind.max, IntKind.signed, IntKind.bits] using x1
  refine (walk a0 a1 b1 a2 (small_of hk) hu2 hu1 hn1 W hsh hL).mono fun e W' ⟨he, hb⟩ => ?_
  subst he
  exact ⟨_, rfl, _, _, _, [], [], [], hW', (trodAll_cons_mk (shut_bool Tryd.underlying4 _) trodAll_mk0), (trodAll_cons_mk (shut_string Tryd.underlying9 w0) (trodAll_cons_mk (Go.Joins.shut_agg2 (y0 := (.lit (.int .u32 a1), [])) (y1 := (.lit (.int .i64 b1), [])) Tryd.underlying24 (by kernel_rfl) (by kernel_rfl) ⟨1, by simp [DataW.trod, Tryd.underlying22, w1]⟩ ⟨1, by simp [DataW.trod, Tryd.underlying3, x1]⟩) (trodAll_cons_mk (shut_int Tryd.underlying22 w2) trodAll_mk0))), rfl, hb.frame _, fun h => by cases h⟩

theorem reads (os : Os) {H : Type} (enc : TypeId × Value → H) : ∃ places, DataW.whole enc Tryd.prog ((laidIn (World.holding Tryd.prog os ⟨#[], #[], []⟩)).forCall (fun _ _ => 0) ⟨#[], #[.string ByteArray.empty, .agg #[.int .u32 0, .int .i64 0], .int .u32 0], []⟩).memory Tryd.f3.params.toList Rows.netsSaysSpec.vars false (#[.string ByteArray.empty, .agg #[.int .u32 0, .int .i64 0], .int .u32 0] : Array Value).toList 8 = some ([.lit (.string []), .agg [.lit (.int .u32 0), .lit (.int .i64 0)], .lit (.int .u32 0)], [], places) :=
  ⟨[], by kernel_rfl⟩
theorem laid_met (os : Os) : laidMet Tryd.prog Rows.netsSaysUptoRow.laid ((laidIn (World.holding Tryd.prog os ⟨#[], #[], []⟩)).forCall (fun _ _ => 0) ⟨#[], #[.string ByteArray.empty, .agg #[.int .u32 0, .int .i64 0], .int .u32 0], []⟩).memory :=
  laidMet_of_run' 8 (by kernel_rfl) (by kernel_rfl)

set_option maxRecDepth 100000 in
theorem lifted (os : Os) (started : os.Started) (H : Type) (enc : TypeId × Value → H) (F : Stop.Interp) :
    ReturnsInHanded {} Tryd.checked os 3 .any ((Rows.OpenSpec.upto Rows.netsSaysSpec).preRow enc Tryd.prog Tryd.f3 Rows.netsSaysUptoRow.domain false Rows.netsSaysUptoRow.laid) (((Rows.OpenSpec.upto Rows.netsSaysSpec).at F).post enc Tryd.prog Tryd.f3 false true false false) := by
  obtain ⟨places, hx⟩ := reads os enc
  refine returnsInHanded_of_row (C := Tryd.checked) (s := Rows.OpenSpec.upto Rows.netsSaysSpec) own started (by kernel_rfl) Tryd.func3
    (witness_row_at (enc := enc) (C := Tryd.checked) false (laidIn (World.holding Tryd.prog os ⟨#[], #[], []⟩)) #[.string ByteArray.empty, .agg #[.int .u32 0, .int .i64 0], .int .u32 0] rfl (by kernel_rfl) (by kernel_rfl) (by kernel_rfl)
      (OpenSpec.preRow_of_cond 8 hx (by kernel_rfl) (fun k hk => by cases hk; kernel_rfl) (by kernel_rfl) (laid_met os))) ?_
  intro W base args ds gs before hval hW _ hcond _ hL hsh _
  exact contract H enc W base args ds gs before hsh hval hW (hcond _ rfl) hL

theorem row : Rows.NetsSaysUptoSaid :=
  OpenClaim.holds_of_cond 3 Tryd.f3 rfl rfl rfl rfl rfl rfl rfl ⟨rfl, rfl, rfl, rfl, rfl⟩ rfl rfl rfl rfl rfl (by kernel_rfl) Tryd.func3 (by kernel_rfl)
    (of_decide_eq_true (by kernel_rfl)) (by unfold Func.isWrapper; first | (rw [if_pos (by decide +kernel)]; kernel_rfl) | (rw [if_neg (by decide +kernel)]; exact ⟨rfl, rfl⟩))
    (fun os started H enc _ F => by rw [OpenClaim.pre_eq_preRow]; exact lifted os started H enc F)

theorem plain (f : FuncId) (fn : Func) (hf : Tryd.pinned.checked.prog.funcNamed "gatewicket/wicklaw.NetsSays" = some f) (hfn : Tryd.pinned.checked.prog.funcs[f]? = some fn) :
    false = Tryd.pinned.checked.prog.looks [] ∧ ∀ (j : Nat) t, fn.params[j]? = some t → Tryd.pinned.checked.prog.wantsStandIn t = false := by
  obtain rfl : f = 3 := Option.some.inj ((show Tryd.prog.funcNamed "gatewicket/wicklaw.NetsSays" = some 3 by kernel_rfl).symm.trans hf) |>.symm
  obtain rfl : fn = Tryd.f3 := (Option.some.inj (Tryd.func3.symm.trans hfn)).symm
  refine ⟨by kernel_rfl, fun j t ht => ?_⟩
  rw [Tryd.params3] at ht
  have hm : t = 9 ∨ t = 24 ∨ t = 22 := by simpa using Array.mem_of_getElem? ht
  rcases hm with rfl | rfl | rfl
  · exact (show Tryd.prog.wantsStandIn 9 = false by kernel_rfl)
  · exact (show Tryd.prog.wantsStandIn 24 = false by kernel_rfl)
  · exact (show Tryd.prog.wantsStandIn 22 = false by kernel_rfl)

theorem over : Rows.NetsSaysUptoCardSaid :=
  Claim7.holds_tied_plain_at .later [] _ _ _ _ row (fun _ h => by cases h) (by kernel_rfl) (fun _ h => by cases h) netsSaysUpto_row_tie rfl ⟨rfl, rfl⟩ (by kernel_rfl) rfl plain (by kernel_rfl)
end Go.Proofs.YtmhjfiaohbioeaaDoor.netsSays
namespace Go.Proofs.YtmhjfiaohbioeaaDoor
theorem netsSays_holds : Rows.NetsSaysUptoCardSaid := netsSays.over
#print axioms netsSays_holds
end Go.Proofs.YtmhjfiaohbioeaaDoor
