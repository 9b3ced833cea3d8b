/- Walks: a net printed (the program's). -/
import Derived.Test.YtmhjfiaohbioeaaDoorNc
import Derived.OwnWalk
namespace Go.Proofs.YtmhjfiaohbioeaaDoor
open Go.RowKit Kb
set_option linter.unusedVariables false
set_option maxRecDepth 20000

theorem infoB : (Tryd.prog.info? 5).map (fun i => (i.zero, i.size, i.bytes)) = some (some (.int .u8 0), 1, 1) := by kernel_rfl
abbrev PowB (B : Nat) (w : World) : Prop := Lib.TabBelow Tryd.prog B w "internal/strconv.uint64pow10" .u64 Lib.pow10Tab
set_option maxHeartbeats 1000000 in
theorem appu_any (B n u : Nat) (hu : u < 18446744073709551616) (v : Value) (xs : List UInt8) (w : World) (hown : w.ownsRow B 5 1 v n (cells xs)) (hBw : B ≤ w.heap.size) (hlim : n ≤ 1000) (ht : PowB B w) :
    Calls Tryd.prog 29 #[v, .int .u64 u, .int .i64 10] w fun e w' => ∃ v', e = .returned v' ∧ w'.ownsRow B 5 1 v' (n + (Lib.decDigits u).length) (cells (xs ++ Lib.decDigits u)) ∧ Below B w w' := by
  have H := hide (Tryd.internal_strconv_AppendUint_10 B n u hu v (cells xs) w hown hBw (by omega) ht.here)
  clear hown hBw ht
  go_enter Tryd.func29, Tryd.ntmps29
  go_wp2_with fail
  refine (unhide H).mono ?_
  rintro e w1 ⟨v1, rfl, h1, h2, _⟩
  have H1 := hide h1
  have H2 := hide h2
  clear h1 h2 H
  go_wp2_with fail
  go_ret
  exact ⟨_, rfl, by rw [cells_append]; exact unhide H1, unhide H2⟩
theorem appi_any (B n : Nat) (i : Int) (h0 : 0 ≤ i) (h1 : i ≤ 1000) (v : Value) (xs : List UInt8) (w : World) (hown : w.ownsRow B 5 1 v n (cells xs)) (hBw : B ≤ w.heap.size) (hlim : n ≤ 1000) (ht : PowB B w) :
    Calls Tryd.prog 30 #[v, .int .i64 i, .int .i64 10] w fun e w' => ∃ v', e = .returned v' ∧ w'.ownsRow B 5 1 v' (n + (Lib.decDigits i.toNat).length) (cells (xs ++ Lib.decDigits i.toNat)) ∧ Below B w w' := by
  refine (Tryd.strconv_AppendInt_10 B n i (by omega) (by omega) v (cells xs) w hown hBw (by omega) ht).mono ?_
  rintro e w1 ⟨v1, rfl, h1, h2, _⟩
  have e1 : Lib.itoa i = Lib.decDigits i.toNat := by unfold Lib.itoa; rw [if_neg (by omega)]
  rw [e1] at h1
  exact ⟨_, rfl, by rw [cells_append]; exact h1, h2⟩

theorem wrap_u64 (n : Int) : IntKind.u64.wrap n = n % 18446744073709551616 := by simp [IntKind.wrap, IntKind.bits, IntKind.signed]
theorem NX.belowAt {w w' : World} {base gb : Nat} {x y : Int} (h : NX w base gb x y) (g : Below (gb + 1) w w') : NX w' base gb x y := by
  obtain ⟨h1, h2⟩ := h
  refine ⟨h1, ?_⟩
  rcases h2 with h2 | ⟨b, cap, cur, h3, h4, h5, h6⟩
  · exact .inl h2
  · cases h3
    refine .inr ⟨gb, 1, cur, rfl, h4, ?_, h6⟩
    rw [g.block gb (by omega)]; exact h5
namespace Nt
open Lib (decDigits)
/-- the first k numbers of an address, as a text -/
def pre (a : Nat) : Nat → List UInt8
  | 0 => []
  | 1 => decDigits (a / 16777216)
  | 2 => decDigits (a / 16777216) ++ 46 :: decDigits (a / 65536 % 256)
  | 3 => decDigits (a / 16777216) ++ 46 :: (decDigits (a / 65536 % 256) ++ 46 :: decDigits (a / 256 % 256))
  | _ => txA a
theorem pre_len {a : Nat} (ha : a < 4294967296) (k : Nat) : (pre a k).length ≤ 15 := by
  have h := txA_len ha
  unfold txA at h
  unfold pre
  split
  · simp
  · simp only [List.length_append, List.length_cons] at h; omega
  · simp only [List.length_append, List.length_cons] at h ⊢; omega
  · simp only [List.length_append, List.length_cons] at h ⊢; omega
  · exact txA_len ha
end Nt
theorem and_255 (x : Nat) (h : x < 4294967296) : bits .and .u32 (x : Int) 255 = ((x % 256 : Nat) : Int) := by
  have := u32_and_nat x 255 h (by decide)
  rw [show x &&& 255 = x % 256 from Nat.and_two_pow_sub_one_eq_mod x 8] at this
  exact this
theorem print_no (a : Nat) (b : Int) (ha : a < 4294967296) (hr : ¬ Nt.right a b) (w : World) :
    Calls Tryd.prog 14 #[.agg #[.int .u32 a, .int .i64 b]] w fun e w' => e = .returned (.tuple #[.string (mk []), .int .i64 1]) ∧ Below w.heap.size w w' := by
  have X0 := hide (NX.new (base := w.heap.size) w (Nat.le_refl _) a b)
  have B0 := hide ((Below.refl w.heap.size w).alloc (Nat.le_refl _) (.cells #[.int .u32 a, .int .i64 b] 24))
  obtain ⟨W0, hW0⟩ : ∃ W0, w.alloc (.cells #[.int .u32 a, .int .i64 b] 24) = W0 := ⟨_, rfl⟩
  have HI := hide (fun W => isNet_any a b ha W)
  have d1 : decide (Nt.right a b) = false := decide_eq_false hr
  rw [hW0] at X0 B0
  obtain ⟨y0, y1⟩ := (unhide X0).cells
  rw [d1] at HI
  clear hr d1
  go_enter Tryd.func14, Tryd.ntmps14
  go_wp2_with fail
  clear hW0
  refine ((unhide HI) W0).mono ?_
  rintro e w1 ⟨rfl, b1⟩
  have B1 := hide (bel_trans (unhide B0) b1)
  clear b1 B0 HI y0 y1
  go_wp2_with fail
  go_ret2
  exact ⟨rfl, unhide B1⟩
set_option maxHeartbeats 4000000 in
theorem print_yes (a : Nat) (b : Nat) (ha : a < 4294967296) (hr : Nt.right a b) (w : World) (ht : Lib.TabIs Tryd.prog w "internal/strconv.uint64pow10" .u64 Lib.pow10Tab) (q : List UInt8) (hq : q = Nt.tx a b) :
    Calls Tryd.prog 14 #[.agg #[.int .u32 a, .int .i64 b]] w fun e w' => e = .returned (.tuple #[.string (mk q), .int .i64 0]) ∧ Below w.heap.size w w' := by
  obtain ⟨i0, hi, hz0, hz1, hz2⟩ := info_parts infoB
  have X0 := hide (NX.new (base := w.heap.size) w (Nat.le_refl _) a b)
  have B0 := hide ((Below.refl w.heap.size w).alloc (Nat.le_refl _) (.cells #[.int .u32 a, .int .i64 b] 24))
  obtain ⟨W0, hW0⟩ : ∃ W0, w.alloc (.cells #[.int .u32 a, .int .i64 b] 24) = W0 := ⟨_, rfl⟩
  have HI := hide (fun W => isNet_any a b ha W)
  have T0 := hide ((Lib.tabBelow_of_tabIs ht).on (unhide B0))
  have d1 : decide (Nt.right a b) = true := decide_eq_true hr
  have hb32 : b ≤ 32 := by have := hr.2.1; omega
  rw [hW0] at X0 B0 T0
  obtain ⟨y0, y1⟩ := (unhide X0).cells
  rw [d1] at HI
  have HQ := hide hq
  clear hr d1 ht hq
  go_enter Tryd.func14, Tryd.ntmps14
  go_wp2_with fail
  clear hW0
  refine ((unhide HI) W0).mono ?_
  rintro e w1 ⟨rfl, b1⟩
  have B1 := hide (bel_trans (unhide B0) b1)
  have X1 := hide ((unhide X0).below b1)
  have T1 := hide ((unhide T0).on (b1.mono (unhide B0).size))
  clear b1 B0 X0 T0 HI y0 y1
  go_wp2_with fail
  go_loopw [4, 10] (fun v i wr => ∃ k : Nat, k ≤ 4 ∧ i = .int .i64 k ∧ wr.ownsRow (w.heap.size + 1) 5 1 v (Nt.pre a k).length (cells (Nt.pre a k)) ∧ Below w.heap.size w wr ∧ NX wr w.heap.size w.heap.size a b ∧ PowB w.heap.size wr) (fun _ i _ => 4 - (intOf i).toNat)
  case atStart => exact ⟨0, by omega, rfl, World.ownsRow_nil _ _ _ _, unhide B1, unhide X1, unhide T1⟩
  case round =>
    clear B1 X1 T1
    obtain ⟨k, hk, rfl, hown, hbel, hnx, htab⟩ := hrel
    have OWN := hide hown
    have HB := hide hbel
    have NXH := hide hnx
    have HT := hide htab
    obtain ⟨y0, y1⟩ := hnx.cells
    have hlt := hnx.lt
    clear hown hbel hnx htab
    have hk5 : k = 0 ∨ k = 1 ∨ k = 2 ∨ k = 3 ∨ k = 4 := by omega
    rcases hk5 with rfl | rfl | rfl | rfl | rfl
    · have hx : a / 16777216 < 18446744073709551616 := by omega
      have hw : IntKind.u64.wrap ((a / 16777216 : Nat) : Int) = ((a / 16777216 : Nat) : Int) := by rw [wrap_u64]; omega
      have h255 : bits .and .u32 ((a : Int) / 16777216) 255 = ((a / 16777216 : Nat) : Int) := (and_255 (a / 16777216) (by omega)).trans (by rw [Nat.mod_eq_of_lt (by omega)])
      obtain ⟨x, hxe⟩ : ∃ x, a / 16777216 = x := ⟨_, rfl⟩
      have HP : Hid (Nt.pre a 1 = Lib.decDigits x) := hide (by rw [← hxe]; rfl)
      rw [hxe] at hx hw h255
      clear hxe
      have HU := hide (appu_any (w.heap.size + 1) 0 x hx · [] wr · hlt.2 (by omega) (fun w' b => unhide HT w' (b.mono (by omega))))
      go_wp2_with fail
      refine ((unhide HU) _ (unhide OWN)).mono ?_
      rintro e w1 ⟨v1, rfl, own1, b1⟩
      clear HU y0 y1
      go_wp2_with fail
      go_round
      case rel => exact ⟨1, by omega, rfl, by rw [Nat.zero_add, List.nil_append] at own1; rw [unhide HP]; exact own1, (unhide HB).trans (b1.mono (by omega)), (unhide NXH).belowAt b1, (unhide HT).on (b1.mono (by omega))⟩
      case measure => decide
    · have hpl := Nt.pre_len ha 1
      have hx : a / 65536 % 256 < 18446744073709551616 := by omega
      have hw : IntKind.u64.wrap ((a / 65536 % 256 : Nat) : Int) = ((a / 65536 % 256 : Nat) : Int) := by rw [wrap_u64]; omega
      have h255 : bits .and .u32 ((a : Int) / 65536) 255 = ((a / 65536 % 256 : Nat) : Int) := and_255 (a / 65536) (by omega)
      obtain ⟨x, hxe⟩ : ∃ x, a / 65536 % 256 = x := ⟨_, rfl⟩
      have HP : Hid (Nt.pre a 2 = (Nt.pre a 1 ++ [46]) ++ Lib.decDigits x) := hide (by rw [← hxe]; simp [Nt.pre])
      rw [hxe] at hx hw h255
      obtain ⟨p, hp⟩ : ∃ p, Nt.pre a 1 = p := ⟨_, rfl⟩
      rw [hp] at HP OWN hpl
      obtain ⟨n, hn⟩ : ∃ n, p.length = n := ⟨_, rfl⟩
      have HN := hide hn
      rw [hn] at OWN hpl
      have hb1 : n + (⟨#[46]⟩ : ByteArray).size ≤ maxLen := by unfold maxLen; show n + 1 ≤ _; omega
      have hb2 : n + (⟨#[46]⟩ : ByteArray).size ≤ 140737488355328 := by show n + 1 ≤ _; omega
      clear hp hxe hn
      go_wp2_with (at_builtin; go_must (refine Lib.wpList_append_own_string _ rfl _ _ 57 9 rfl (w.heap.size + 1) 5 i0 Tryd.underlying57 Tryd.underlying9 hi hz0 hz1 hz2 _ n (cells p) rfl (unhide OWN) ⟨#[46]⟩ rfl hb1 hb2 hlt.2 ?_); intro v1 w1 own1 grow1 _; have NX1 := hide ((unhide NXH).kept grow1 (fun e => by have := own_lt (unhide OWN) _ e; omega)); obtain ⟨z0, z1⟩ := (unhide NX1).cells; have OWN1 : Hid (w1.ownsRow (w.heap.size + 1) 5 1 v1 (n + 1) (cells (p ++ [46]))) := hide (by rw [cells_append]; exact own1); have HB1 := hide ((unhide HB).grown grow1 (by omega) (fun k hk => by have := own_lt (unhide OWN) k hk; omega)); have HT1 := hide ((unhide HT).on (Below.grown (Below.refl w.heap.size wr) grow1 (by omega) (fun k hk => by have := own_lt (unhide OWN) k hk; omega))); have hlt1 := (unhide NX1).lt; clear own1 grow1)
      refine (appu_any (w.heap.size + 1) (n + 1) x hx _ _ w1 (unhide OWN1) hlt1.2 (by omega) (fun w' b => unhide HT1 w' (b.mono (by omega)))).mono ?_
      rintro e w2 ⟨v2, rfl, own2, b2⟩
      clear y0 y1 z0 z1
      go_wp2_with fail
      go_round
      case rel =>
        refine ⟨2, by omega, rfl, ?_, (unhide HB1).trans (b2.mono (by omega)), (unhide NX1).belowAt b2, (unhide HT1).on (b2.mono (by omega))⟩
        rw [unhide HP, List.length_append, List.length_append, unhide HN]; exact own2
      case measure => decide
    · have hpl := Nt.pre_len ha 2
      have hx : a / 256 % 256 < 18446744073709551616 := by omega
      have hw : IntKind.u64.wrap ((a / 256 % 256 : Nat) : Int) = ((a / 256 % 256 : Nat) : Int) := by rw [wrap_u64]; omega
      have h255 : bits .and .u32 ((a : Int) / 256) 255 = ((a / 256 % 256 : Nat) : Int) := and_255 (a / 256) (by omega)
      obtain ⟨x, hxe⟩ : ∃ x, a / 256 % 256 = x := ⟨_, rfl⟩
      have HP : Hid (Nt.pre a 3 = (Nt.pre a 2 ++ [46]) ++ Lib.decDigits x) := hide (by rw [← hxe]; simp [Nt.pre])
      rw [hxe] at hx hw h255
      obtain ⟨p, hp⟩ : ∃ p, Nt.pre a 2 = p := ⟨_, rfl⟩
      rw [hp] at HP OWN hpl
      obtain ⟨n, hn⟩ : ∃ n, p.length = n := ⟨_, rfl⟩
      have HN := hide hn
      rw [hn] at OWN hpl
      have hb1 : n + (⟨#[46]⟩ : ByteArray).size ≤ maxLen := by unfold maxLen; show n + 1 ≤ _; omega
      have hb2 : n + (⟨#[46]⟩ : ByteArray).size ≤ 140737488355328 := by show n + 1 ≤ _; omega
      clear hp hxe hn
      go_wp2_with (at_builtin; go_must (refine Lib.wpList_append_own_string _ rfl _ _ 57 9 rfl (w.heap.size + 1) 5 i0 Tryd.underlying57 Tryd.underlying9 hi hz0 hz1 hz2 _ n (cells p) rfl (unhide OWN) ⟨#[46]⟩ rfl hb1 hb2 hlt.2 ?_); intro v1 w1 own1 grow1 _; have NX1 := hide ((unhide NXH).kept grow1 (fun e => by have := own_lt (unhide OWN) _ e; omega)); obtain ⟨z0, z1⟩ := (unhide NX1).cells; have OWN1 : Hid (w1.ownsRow (w.heap.size + 1) 5 1 v1 (n + 1) (cells (p ++ [46]))) := hide (by rw [cells_append]; exact own1); have HB1 := hide ((unhide HB).grown grow1 (by omega) (fun k hk => by have := own_lt (unhide OWN) k hk; omega)); have HT1 := hide ((unhide HT).on (Below.grown (Below.refl w.heap.size wr) grow1 (by omega) (fun k hk => by have := own_lt (unhide OWN) k hk; omega))); have hlt1 := (unhide NX1).lt; clear own1 grow1)
      refine (appu_any (w.heap.size + 1) (n + 1) x hx _ _ w1 (unhide OWN1) hlt1.2 (by omega) (fun w' b => unhide HT1 w' (b.mono (by omega)))).mono ?_
      rintro e w2 ⟨v2, rfl, own2, b2⟩
      clear y0 y1 z0 z1
      go_wp2_with fail
      go_round
      case rel =>
        refine ⟨3, by omega, rfl, ?_, (unhide HB1).trans (b2.mono (by omega)), (unhide NX1).belowAt b2, (unhide HT1).on (b2.mono (by omega))⟩
        rw [unhide HP, List.length_append, List.length_append, unhide HN]; exact own2
      case measure => decide
    · have hpl := Nt.pre_len ha 3
      have hx : a % 256 < 18446744073709551616 := by omega
      have hw : IntKind.u64.wrap ((a % 256 : Nat) : Int) = ((a % 256 : Nat) : Int) := by rw [wrap_u64]; omega
      have h255 : bits .and .u32 ((a : Int)) 255 = ((a % 256 : Nat) : Int) := and_255 (a) (by omega)
      obtain ⟨x, hxe⟩ : ∃ x, a % 256 = x := ⟨_, rfl⟩
      have HP : Hid (Nt.pre a 4 = (Nt.pre a 3 ++ [46]) ++ Lib.decDigits x) := hide (by rw [← hxe]; simp [Nt.pre, Nt.txA])
      rw [hxe] at hx hw h255
      obtain ⟨p, hp⟩ : ∃ p, Nt.pre a 3 = p := ⟨_, rfl⟩
      rw [hp] at HP OWN hpl
      obtain ⟨n, hn⟩ : ∃ n, p.length = n := ⟨_, rfl⟩
      have HN := hide hn
      rw [hn] at OWN hpl
      have hb1 : n + (⟨#[46]⟩ : ByteArray).size ≤ maxLen := by unfold maxLen; show n + 1 ≤ _; omega
      have hb2 : n + (⟨#[46]⟩ : ByteArray).size ≤ 140737488355328 := by show n + 1 ≤ _; omega
      clear hp hxe hn
      go_wp2_with (at_builtin; go_must (refine Lib.wpList_append_own_string _ rfl _ _ 57 9 rfl (w.heap.size + 1) 5 i0 Tryd.underlying57 Tryd.underlying9 hi hz0 hz1 hz2 _ n (cells p) rfl (unhide OWN) ⟨#[46]⟩ rfl hb1 hb2 hlt.2 ?_); intro v1 w1 own1 grow1 _; have NX1 := hide ((unhide NXH).kept grow1 (fun e => by have := own_lt (unhide OWN) _ e; omega)); obtain ⟨z0, z1⟩ := (unhide NX1).cells; have OWN1 : Hid (w1.ownsRow (w.heap.size + 1) 5 1 v1 (n + 1) (cells (p ++ [46]))) := hide (by rw [cells_append]; exact own1); have HB1 := hide ((unhide HB).grown grow1 (by omega) (fun k hk => by have := own_lt (unhide OWN) k hk; omega)); have HT1 := hide ((unhide HT).on (Below.grown (Below.refl w.heap.size wr) grow1 (by omega) (fun k hk => by have := own_lt (unhide OWN) k hk; omega))); have hlt1 := (unhide NX1).lt; clear own1 grow1)
      refine (appu_any (w.heap.size + 1) (n + 1) x hx _ _ w1 (unhide OWN1) hlt1.2 (by omega) (fun w' b => unhide HT1 w' (b.mono (by omega)))).mono ?_
      rintro e w2 ⟨v2, rfl, own2, b2⟩
      clear y0 y1 z0 z1
      go_wp2_with fail
      go_round
      case rel =>
        refine ⟨4, by omega, rfl, ?_, (unhide HB1).trans (b2.mono (by omega)), (unhide NX1).belowAt b2, (unhide HT1).on (b2.mono (by omega))⟩
        rw [unhide HP, List.length_append, List.length_append, unhide HN]; exact own2
      case measure => decide
    · have HPQ : Hid (Nt.pre a 4 = Nt.txA a) := hide rfl
      have hpl := Nt.pre_len ha 4
      rw [unhide HPQ] at OWN hpl
      by_cases hb : b < 32
      · have hbI : (b : Int) < 32 := by omega
        have HQ2 : Hid (q = (Nt.txA a ++ [47]) ++ Lib.decDigits b) := hide (by rw [unhide HQ]; unfold Nt.tx; rw [if_pos hb]; simp)
        obtain ⟨p, hp⟩ : ∃ p, Nt.txA a = p := ⟨_, rfl⟩
        rw [hp] at HQ2 OWN hpl
        obtain ⟨n, hn⟩ : ∃ n, p.length = n := ⟨_, rfl⟩
        rw [hn] at OWN hpl
        have hb1 : n + (⟨#[47]⟩ : ByteArray).size ≤ maxLen := by unfold maxLen; show n + 1 ≤ _; omega
        have hb2 : n + (⟨#[47]⟩ : ByteArray).size ≤ 140737488355328 := by show n + 1 ≤ _; omega
        have hb3 : IntKind.i64.wrap (b : Int) = b := by rw [IntKind.wrap_i64]; omega
        clear hp hn HPQ
        go_wp2_with (at_builtin; go_must (refine Lib.wpList_append_own_string _ rfl _ _ 57 9 rfl (w.heap.size + 1) 5 i0 Tryd.underlying57 Tryd.underlying9 hi hz0 hz1 hz2 _ n (cells p) rfl (unhide OWN) ⟨#[47]⟩ rfl hb1 hb2 hlt.2 ?_); intro v1 w1 own1 grow1 _; have NX1 := hide ((unhide NXH).kept grow1 (fun e => by have := own_lt (unhide OWN) _ e; omega)); obtain ⟨z0, z1⟩ := (unhide NX1).cells; have OWN1 : Hid (w1.ownsRow (w.heap.size + 1) 5 1 v1 (n + 1) (cells (p ++ [47]))) := hide (by rw [cells_append]; exact own1); have HB1 := hide ((unhide HB).grown grow1 (by omega) (fun k hk => by have := own_lt (unhide OWN) k hk; omega)); have HT1 := hide ((unhide HT).on (Below.grown (Below.refl w.heap.size wr) grow1 (by omega) (fun k hk => by have := own_lt (unhide OWN) k hk; omega))); have hlt1 := (unhide NX1).lt; clear own1 grow1)
        refine (appi_any (w.heap.size + 1) (n + 1) b (by omega) (by omega) _ _ w1 (unhide OWN1) hlt1.2 (by omega) (fun w' b => unhide HT1 w' (b.mono (by omega)))).mono ?_
        rintro e w2 ⟨v2, rfl, own2, b2⟩
        rw [Int.toNat_natCast] at own2
        have OWN2 := hide own2
        have hcv := own_string own2
        clear y0 y1 z0 z1 own2
        go_wp2_with fail
        go_ret2
        exact ⟨by rw [unhide HQ2, List.append_assoc]; rfl, (unhide HB1).trans (b2.mono (by omega))⟩
      · have hbI : ¬ (b : Int) < 32 := by omega
        have HQ2 : Hid (q = Nt.txA a) := hide (by rw [unhide HQ]; unfold Nt.tx; rw [if_neg hb, List.append_nil])
        have hcv := own_string (unhide OWN)
        go_wp2_with fail
        go_ret2
        exact ⟨by rw [unhide HQ2]; rfl, unhide HB⟩
end Go.Proofs.YtmhjfiaohbioeaaDoor
