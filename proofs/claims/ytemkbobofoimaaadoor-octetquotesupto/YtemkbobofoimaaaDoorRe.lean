/- The walk of the document's Unquote. -/
import Derived.Test.YtemkbobofoimaaaDoorRd
import Derived.Test.YtemkbobofoimaaaDoorWw
import Derived.Deep.RegionWith
namespace Go.Proofs.YtemkbobofoimaaaDoor
open Go.RowKit
set_option linter.unusedVariables false

theorem drop_cons (s : ByteArray) (k : Nat) (h : k < s.size) : s.data.toList.drop k = s[k] :: s.data.toList.drop (k + 1) := by
  have h' : k < s.data.toList.length := by simpa using h
  rw [List.drop_eq_getElem_cons h']; rfl
theorem drop_end (s : ByteArray) (k : Nat) (h : s.size ≤ k) : s.data.toList.drop k = [] := by
  rw [List.drop_eq_nil_iff]; simpa using h

/-- the places of signs behind the stroke -/
def sgN (b : UInt8) : Nat := (Fnd.find [110, 114, 116, 115, 92, 45] [b] 0).toNat
theorem sg_find (b c : UInt8) (h : Qt.sg b = some c) : Fnd.find [110, 114, 116, 115, 92, 45] [b] 0 = sgN b ∧ sgN b < 6 ∧ ({ data := #[10, 13, 9, 32, 92, 45] } : ByteArray).extract (sgN b) (sgN b + 1) = ⟨[c].toArray⟩ := by
  have := u8_all (p := fun b => match Qt.sg b with | none => true | some c => Fnd.find [110, 114, 116, 115, 92, 45] [b] 0 == (sgN b : Int) && decide (sgN b < 6) && (({ data := #[10, 13, 9, 32, 92, 45] } : ByteArray).extract (sgN b) (sgN b + 1)).data == #[c]) (by decide +kernel) b
  simp only [h, Bool.and_eq_true, beq_iff_eq, decide_eq_true_eq] at this
  refine ⟨this.1.1, this.1.2, ?_⟩
  have h3 := this.2
  generalize ({ data := #[10, 13, 9, 32, 92, 45] } : ByteArray).extract (sgN b) (sgN b + 1) = y at *
  obtain ⟨d⟩ := y
  simp at h3; subst h3; rfl
theorem sg_nofind (b : UInt8) (h : Qt.sg b = none) : Fnd.find [110, 114, 116, 115, 92, 45] [b] 0 = -1 := by
  have := u8_all (p := fun b => match Qt.sg b with | none => Fnd.find [110, 114, 116, 115, 92, 45] [b] 0 == -1 | some c => true) (by decide +kernel) b
  simpa [h] using this
theorem sg_120 : Qt.sg 120 = none := by decide
theorem has_hv (x : UInt8) : has [48, 49, 50, 51, 52, 53, 54, 55, 56, 57, 97, 98, 99, 100, 101, 102] x = (Qt.hv x).isSome := by
  have := u8_all (p := fun x => has [48, 49, 50, 51, 52, 53, 54, 55, 56, 57, 97, 98, 99, 100, 101, 102] x == (Qt.hv x).isSome) (by decide +kernel) x
  simpa using this
theorem dig_hv (x p : UInt8) (h : Qt.hv x = some p) : Num.dig x.toNat = p.toNat := by
  have := u8_all (p := fun x => match Qt.hv x with | none => true | some p => Num.dig x.toNat == p.toNat) (by decide +kernel) x
  simpa [h] using this
theorem plain_nat (a : UInt8) : Qt.plain a = (decide (33 ≤ a.toNat) && decide (a.toNat ≤ 126)) := by
  unfold Qt.plain; simp [UInt8.le_iff_toNat_le]

theorem in_hex (x : UInt8) (b : Bool) (h : (Qt.hv x).isSome = b) (w : World) :
    Calls Tryd.prog 27 #[.int .u8 x.toNat, .string ⟨#[48, 49, 50, 51, 52, 53, 54, 55, 56, 57, 97, 98, 99, 100, 101, 102]⟩] w fun e w' => e = .returned (.bool b) ∧ w' = w := by
  have := in_any x ⟨#[48, 49, 50, 51, 52, 53, 54, 55, 56, 57, 97, 98, 99, 100, 101, 102]⟩ w (by decide)
  rw [show (⟨#[48, 49, 50, 51, 52, 53, 54, 55, 56, 57, 97, 98, 99, 100, 101, 102]⟩ : ByteArray).data.toList = [48, 49, 50, 51, 52, 53, 54, 55, 56, 57, 97, 98, 99, 100, 101, 102] from rfl, has_hv, h] at this
  exact this
theorem find_sign (s : ByteArray) (k : Nat) (h : k < s.size) (g : Int) (hg : Fnd.find [110, 114, 116, 115, 92, 45] [s[k]] 0 = g) (w : World) :
    Calls Tryd.prog 11 #[.string ⟨#[110, 114, 116, 115, 92, 45]⟩, .string (s.extract k (k + 1)), .int .i64 0] w fun e w' => e = .returned (.int .i64 g) ∧ w' = w := by
  have := rfind_any ⟨#[110, 114, 116, 115, 92, 45]⟩ (s.extract k (k + 1)) 0 w (by decide) (by rw [one_byte s k h]; show 1 ≤ maxLen; decide) (by omega) (by omega)
  rw [one_byte s k h] at this ⊢
  rw [show (⟨#[110, 114, 116, 115, 92, 45]⟩ : ByteArray).data.toList = [110, 114, 116, 115, 92, 45] from rfl, show (⟨#[s[k]]⟩ : ByteArray).data.toList = [s[k]] from rfl, hg] at this
  exact this

/-- the steps of the rounds, on lists -/
theorem st_bad {l : List UInt8} {k : Nat} {a : UInt8} {r : List UInt8} (hd : l.drop k = a :: r) (hp : Qt.plain a = false) : Qt.one (l.drop k) = none := by
  rw [hd]; have : a ≠ 92 := by intro e; subst e; revert hp; decide
  simp [Qt.one, this, hp]
theorem st_self {l : List UInt8} {k : Nat} {a : UInt8} {r : List UInt8} (hd : l.drop k = a :: r) (hp : Qt.plain a = true) (h : a ≠ 92) : Qt.one (l.drop k) = some (a, 1) := by
  rw [hd]; simp [Qt.one, h, hp]
theorem st_end {l : List UInt8} {k : Nat} (hd : l.drop k = [92]) : Qt.one (l.drop k) = none := by rw [hd]; rfl
theorem st_sign {l : List UInt8} {k : Nat} {b c : UInt8} {r : List UInt8} (hd : l.drop k = 92 :: b :: r) (h : Qt.sg b = some c) : Qt.one (l.drop k) = some (c, 2) := by
  rw [hd]; have : b ≠ 120 := by intro e; subst e; rw [sg_120] at h; cases h
  simp [Qt.one, this, h]
theorem st_nosign {l : List UInt8} {k : Nat} {b : UInt8} {r : List UInt8} (hd : l.drop k = 92 :: b :: r) (h : Qt.sg b = none) (hb : b ≠ 120) : Qt.one (l.drop k) = none := by
  rw [hd]; simp [Qt.one, hb, h]
theorem st_short {l : List UInt8} {k : Nat} {r : List UInt8} (hd : l.drop k = 92 :: 120 :: r) (h : r.length < 2) : Qt.one (l.drop k) = none := by
  rw [hd]
  match r, h with
  | [], _ => rfl
  | [x], _ => rfl
theorem st_nohex {l : List UInt8} {k : Nat} {x y : UInt8} {r : List UInt8} (hd : l.drop k = 92 :: 120 :: x :: y :: r) (h : Qt.hv x = none ∨ Qt.hv y = none) : Qt.one (l.drop k) = none := by
  rw [hd]
  rcases h with h | h
  · simp [Qt.one, h]
  · cases hx : Qt.hv x <;> simp [Qt.one, h, hx]
theorem st_hex {l : List UInt8} {k : Nat} {x y p q : UInt8} {r : List UInt8} (hd : l.drop k = 92 :: 120 :: x :: y :: r) (hx : Qt.hv x = some p) (hy : Qt.hv y = some q) : Qt.one (l.drop k) = some (p * 16 + q, 4) := by
  rw [hd]; simp [Qt.one, hx, hy]

theorem f92 {c : UInt8} (h : ¬ c.toNat = 92) : ((c.toNat : Int) != 92) = true := by rw [bne_iff_ne]; omega
theorem t92 {c : UInt8} (h : c.toNat = 92) : ((c.toNat : Int) != 92) = false := by rw [h]; rfl
theorem f120 {c : UInt8} (h : ¬ c.toNat = 120) : ((c.toNat : Int) != 120) = true := by rw [bne_iff_ne]; omega
theorem t120 {c : UInt8} (h : c.toNat = 120) : ((c.toNat : Int) != 120) = false := by rw [h]; rfl
theorem list_one (out : List UInt8) (o x : ByteArray) (c : UInt8) (ho : o = ⟨out.toArray⟩) (hx : x = ⟨[c].toArray⟩) : o ++ x = ⟨(out ++ [c]).toArray⟩ := by
  rw [ho, hx, cat_list]
theorem conv_one (W : World) (b : Nat) (x : UInt8) (h : W.cell? ⟨b, 0, none⟩ = some (.int .u8 x.toNat)) : (convert 37 9 (.slice (some ⟨b, 0, none⟩) 1 1)).run Tryd.prog W = .ok (.string ⟨[x].toArray⟩) W :=
  run_convert_bytes_back W 37 9 5 ⟨b, 0, none⟩ 1 [x] Tryd.underlying37 Tryd.underlying5 Tryd.underlying9 fun j hj => by
    obtain rfl : j = 0 := by simpa using hj
    rw [Addr.add_lit, Nat.zero_add, h]; rfl
theorem pq_byte {p q : UInt8} (hp : p.toNat < 16) (hq : q.toNat < 16) : ((p.toNat : Int) * 16 + (q.toNat : Int)) % 256 = ((p * 16 + q : UInt8).toNat : Int) := by
  have : ∀ a b : Fin 16, ((a.1 : Int) * 16 + (b.1 : Int)) % 256 = ((UInt8.ofNat a.1 * 16 + UInt8.ofNat b.1 : UInt8).toNat : Int) := by decide +kernel
  have h2 := this ⟨p.toNat, hp⟩ ⟨q.toNat, hq⟩
  simp only [UInt8.ofNat_toNat] at h2
  exact h2

theorem wr64 (z : Int) (h0 : -9223372036854775808 ≤ z) (h1 : z ≤ 9223372036854775807) : IntKind.i64.wrap z = z := by
  simp [IntKind.wrap, IntKind.signed, IntKind.bits]; omega

theorem at_int (s : ByteArray) (k j : Nat) (h : k + j < s.size) (hb : ((k : Int) + (j : Int)).toNat < s.size) : s[((k : Int) + (j : Int)).toNat] = s[k + j] := by
  have e : ((k : Int) + (j : Int)).toNat = k + j := by omega
  simp only [e]

theorem val_at (x p : UInt8) (w : World) (h : Num.dig x.toNat = p.toNat) : Calls Tryd.prog 34 #[.int .u8 x.toNat] w fun e w' => e = .returned (.int .i64 p.toNat) ∧ w' = w := by
  have hx := x.toNat_lt
  have := value_any x.toNat w (by omega) (by omega)
  rwa [h] at this

set_option maxRecDepth 100000 in
set_option maxHeartbeats 8000000 in
theorem runquote_any (s : ByteArray) (w : World) (hs : s.size ≤ 68719476736) :
    Calls Tryd.prog 17 #[.string s] w fun e w' => e = .returned (.tuple #[.string ⟨(uqV s.data.toList).toArray⟩, .int .i64 (uqE s.data.toList)]) ∧ Below w.heap.size w w' := by
  by_cases h1 : s.data.toList = [45]
  · obtain rfl : s = ⟨#[45]⟩ := by obtain ⟨⟨l⟩⟩ := s; simp at h1; subst h1; rfl
    go_enter Tryd.func17, Tryd.ntmps17
    go_wp2
    go_ret2
    exact ⟨rfl, Below.refl _ _⟩
  have e1 : (s.toList == [45]) = false := by rw [ByteArray.toList_eq]; simpa using h1
  have H1 := hide h1
  clear h1
  by_cases h0 : s.size = 0
  · obtain rfl : s = ⟨#[]⟩ := by obtain ⟨⟨l⟩⟩ := s; have : l = [] := List.length_eq_zero_iff.1 h0; subst this; rfl
    go_enter Tryd.func17, Tryd.ntmps17
    go_wp2
    go_loopw [4, 5] (fun v i wr => v = .string ⟨#[]⟩ ∧ i = .int .i64 0 ∧ wr = w) (fun _ _ _ => 0)
    case atStart => exact ⟨rfl, rfl, rfl⟩
    case round =>
      obtain ⟨rfl, rfl, rfl⟩ := hrel
      go_wp2
      go_ret2
      exact ⟨rfl, Below.refl _ _⟩
  have H0 : Hid (s.data.toList ≠ []) := hide (by intro e; apply h0; have := congrArg List.length e; simpa using this)
  have hz : ((s.size : Int) == 0) = false := by rw [beq_eq_false_iff_ne]; omega
  clear h0
  go_enter Tryd.func17, Tryd.ntmps17
  go_wp2
  go_loopw [4, 5] (fun v i wr => ∃ (k : Nat) (out : List UInt8) (o : ByteArray), k ≤ s.size ∧ out.length ≤ k ∧ i = .int .i64 k ∧ v = .string o ∧ o = ⟨out.toArray⟩ ∧ Qt.unq s.data.toList = (Qt.unq (s.data.toList.drop k)).map (out ++ ·) ∧ Below w.heap.size w wr) (fun _ i _ => s.size - (intOf i).toNat)
  case atStart => exact ⟨0, [], _, Nat.zero_le _, Nat.zero_le _, rfl, rfl, rfl, by simp, Below.refl _ _⟩
  case round =>
    obtain ⟨k, out, o, hk, hok, rfl, rfl, ho, hu, hbel⟩ := hrel
    have HB := hide hbel
    have HU := hide hu
    have HO := hide ho
    have hos : o.size ≤ 68719476736 := by rw [ho, mk_sz]; omega
    clear hbel hu ho
    by_cases hlt : k < s.size
    · have hd0 := drop_cons s k hlt
      have hne : s.data.toList.drop k ≠ [] := by rw [hd0]; simp
      have ha := s[k].toNat_lt
      have hp := plain_nat s[k]
      by_cases hpl : 33 ≤ s[k].toNat ∧ s[k].toNat ≤ 126
      · obtain ⟨p1, p2⟩ := hpl
        by_cases h92 : s[k].toNat = 92
        · have hb92 := t92 h92
          rw [u8_of (d := 92) h92] at hd0
          by_cases hend : k + 1 = s.size
          · rw [drop_end s (k + 1) (by omega)] at hd0
            have HR := hide (uq_no (unhide H0) (unhide H1) (unhide HU) hne (st_end hd0))
            have he : ((k : Int) + 1 == (s.size : Int)) = true := by rw [beq_iff_eq]; omega
            clear hd0 hne hp h92 hend
            go_wp2
            go_ret2
            exact ⟨ret_str_int (by rw [(unhide HR).1]) (by rw [(unhide HR).2]), unhide HB⟩
          · have hl1 : k + 1 < s.size := by omega
            have he : ((k : Int) + 1 == (s.size : Int)) = false := by rw [beq_eq_false_iff_ne]; omega
            rw [drop_cons s (k + 1) hl1] at hd0
            have hb1 := (s[k + 1]).toNat_lt
            rcases hsg : Qt.sg s[k + 1] with _ | c
            · have HF := hide (find_sign s (k + 1) hl1 (-1) (sg_nofind _ hsg))
              by_cases h120 : s[k + 1].toNat = 120
              · have hb120 := t120 h120
                rw [u8_of (d := 120) h120] at hd0
                by_cases hsh : s.size < k + 4
                · have HR := hide (uq_no (unhide H0) (unhide H1) (unhide HU) hne (st_short hd0 (by simp; omega)))
                  clear hd0 hne hp h92 hend hsg h120
                  go_wp2_with (go_at_call 11; refine ((unhide HF) _).mono ?_; rintro e wx ⟨rfl, rfl⟩)
                  go_ret2
                  exact ⟨ret_str_int (by rw [(unhide HR).1]) (by rw [(unhide HR).2]), unhide HB⟩
                · have hl2 : k + 2 < s.size := by omega
                  have hl3 : k + 3 < s.size := by omega
                  rw [drop_cons s (k + 1 + 1) hl2, drop_cons s (k + 1 + 1 + 1) hl3] at hd0
                  rcases hx : Qt.hv s[k + 2] with _ | p
                  · have HR := hide (uq_no (unhide H0) (unhide H1) (unhide HU) hne (st_nohex hd0 (.inl hx)))
                    have HI := hide (in_hex s[k + 2] false (by rw [hx]; rfl))
                    clear hd0 hne hp h92 hend hsg h120 hx
                    go_wp2_with (first | (go_at_call 11; refine ((unhide HF) _).mono ?_; rintro e wx ⟨rfl, rfl⟩) | (go_at_call 27; refine ((unhide HI) _).mono ?_; rintro e wx ⟨rfl, rfl⟩))
                    go_ret2
                    exact ⟨ret_str_int (by rw [(unhide HR).1]) (by rw [(unhide HR).2]), unhide HB⟩
                  · have HI := hide (in_hex s[k + 2] true (by rw [hx]; rfl))
                    rcases hy : Qt.hv s[k + 3] with _ | q
                    · have HR := hide (uq_no (unhide H0) (unhide H1) (unhide HU) hne (st_nohex hd0 (.inr hy)))
                      have HJ := hide (in_hex s[k + 3] false (by rw [hy]; rfl))
                      clear hd0 hne hp h92 hend hsg h120 hx hy
                      go_wp2_with fail
                      refine ((unhide HF) _).mono ?_; rintro e wx ⟨rfl, rfl⟩
                      go_wp2_with fail
                      refine ((unhide HI) _).mono ?_; rintro e wx ⟨rfl, rfl⟩
                      go_wp2_with fail
                      refine ((unhide HJ) _).mono ?_; rintro e wx ⟨rfl, rfl⟩
                      go_wp2_with fail
                      go_ret2
                      exact ⟨ret_str_int (by rw [(unhide HR).1]) (by rw [(unhide HR).2]), unhide HB⟩
                    · have HR := hide (uq_step (unhide HU) (st_hex hd0 hx hy))
                      have hp16 := hv_lt hx
                      have hq16 := hv_lt hy
                      have hpq := pq_byte hp16 hq16
                      have hpw : IntKind.u8.wrap ((p.toNat : Int) * 16 + (q.toNat : Int)) = ((p * 16 + q : UInt8).toNat : Int) := (show IntKind.u8.wrap ((p.toNat : Int) * 16 + (q.toNat : Int)) = ((p.toNat : Int) * 16 + (q.toNat : Int)) % 256 by simp [IntKind.wrap, IntKind.signed, IntKind.bits]).trans hpq
                      obtain ⟨x2, hx2⟩ : ∃ x, s[k + 2] = x := ⟨_, rfl⟩
                      obtain ⟨x3, hx3⟩ : ∃ x, s[k + 3] = x := ⟨_, rfl⟩
                      rw [hx2] at hx HI
                      rw [hx3] at hy
                      have HJ := hide (in_hex x3 true (by rw [hy]; rfl))
                      have w2 := wr64 ((k : Int) + 2) (by omega) (by omega)
                      have w3 := wr64 ((k : Int) + 3) (by omega) (by omega)
                      have w4 := wr64 ((p.toNat : Int) * 16) (by omega) (by omega)
                      have w5 := wr64 ((p.toNat : Int) * 16 + (q.toNat : Int)) (by omega) (by omega)
                      have hx2' : s[((k : Int) + 2).toNat]'(by omega) = x2 := (at_int s k 2 hl2 (by omega)).trans hx2
                      have hx3' : s[((k : Int) + 3).toNat]'(by omega) = x3 := (at_int s k 3 hl3 (by omega)).trans hx3
                      have i2 : 0 ≤ (k : Int) + 2 ∧ (k : Int) + 2 < (s.size : Int) := by omega
                      have i3 : 0 ≤ (k : Int) + 3 ∧ (k : Int) + 3 < (s.size : Int) := by omega
                      have HV2 := hide (fun w => val_at x2 p w (dig_hv _ _ hx))
                      have HV3 := hide (fun w => val_at x3 q w (dig_hv _ _ hy))
                      generalize p * 16 + q = z at *
                      have hcv : ∀ (W : World) (b : Nat), W.cell? ⟨b, 0, none⟩ = some (.int .u8 z.toNat) → (convert 37 9 (.slice (some ⟨b, 0, none⟩) 1 1)).run Tryd.prog W = .ok (.string ⟨[z].toArray⟩) W := fun W b h => conv_one W b _ h
                      have HE := hide (list_one out o ⟨[z].toArray⟩ z (unhide HO) rfl)
                      clear hd0 hne hp h92 hend hsg h120 hx hy
                      go_wp2_with fail
                      refine ((unhide HF) _).mono ?_; rintro e wx ⟨rfl, rfl⟩
                      go_wp2_with fail
                      refine ((unhide HI) _).mono ?_; rintro e wx ⟨rfl, rfl⟩
                      go_wp2_with fail
                      refine ((unhide HJ) _).mono ?_; rintro e wx ⟨rfl, rfl⟩
                      go_wp2_with fail
                      go_region_with (first | (go_at_call_of 34 (x2); refine ((unhide HV2) _).mono ?_; rintro e wx ⟨rfl, rfl⟩) | (go_at_call_of 34 (x3); refine ((unhide HV3) _).mono ?_; rintro e wx ⟨rfl, rfl⟩))
                      all_goals
                        go_wp2
                        exact ⟨⟨k + 4, out ++ [z], _, by omega, by simp; omega, by go_num, rfl, unhide HE, unhide HR, by first | exact ((unhide HB).alloc (unhide HB).size _).drew | exact (unhide HB).drew.alloc (unhide HB).size _⟩, by simp [intOf]; omega⟩
              · have HR := hide (uq_no (unhide H0) (unhide H1) (unhide HU) hne (st_nosign hd0 hsg (fun e => h120 (by rw [e]; rfl))))
                have hb120 := f120 h120
                clear hd0 hne hp h92 hend hsg h120
                go_wp2_with (go_at_call 11; refine ((unhide HF) _).mono ?_; rintro e wx ⟨rfl, rfl⟩)
                go_ret2
                exact ⟨ret_str_int (by rw [(unhide HR).1]) (by rw [(unhide HR).2]), unhide HB⟩
            · obtain ⟨g1, g2, g3⟩ := sg_find _ _ hsg
              have HF := hide (find_sign s (k + 1) hl1 _ g1)
              have HR := hide (uq_step (unhide HU) (st_sign hd0 hsg))
              have HE := hide (list_one out o _ c (unhide HO) g3)
              generalize sgN s[k + 1] = j at *
              clear hd0 hne hp h92 hend hsg g1 g3
              go_wp2_with (go_at_call 11; refine ((unhide HF) _).mono ?_; rintro e wx ⟨rfl, rfl⟩)
              exact ⟨⟨k + 2, out ++ [c], _, by omega, by simp; omega, by go_num, rfl, unhide HE, unhide HR, unhide HB⟩, by simp [intOf]; omega⟩
        · have hb92 := f92 h92
          have HR := hide (uq_step (unhide HU) (st_self hd0 (by rw [hp]; simp [p1, p2]) (fun e => h92 (by rw [e]; rfl))))
          have HE := hide (list_one out o _ _ (unhide HO) (one_byte s k hlt))
          clear hd0 hne hp h92
          go_wp2
          exact ⟨⟨k + 1, out ++ [s[k]], _, by omega, by simp; omega, by go_num, rfl, unhide HE, unhide HR, unhide HB⟩, by simp [intOf]; omega⟩
      · have HR := hide (uq_no (unhide H0) (unhide H1) (unhide HU) hne (st_bad hd0 (by rw [hp]; simp; omega)))
        have hpl' : s[k].toNat < 33 ∨ (33 ≤ s[k].toNat ∧ 126 < s[k].toNat) := by omega
        clear hd0 hne hp hpl
        rcases hpl' with h | ⟨h, h'⟩
        all_goals
          go_wp2
          go_ret2
          exact ⟨ret_str_int (by rw [(unhide HR).1]) (by rw [(unhide HR).2]), unhide HB⟩
    · have HR := hide (uq_end (unhide H0) (unhide H1) (unhide HU) (drop_end s k (by omega)))
      go_wp2
      go_ret2
      exact ⟨ret_str_int (by rw [(unhide HR).1]; exact unhide HO) (by rw [(unhide HR).2]), unhide HB⟩
end Go.Proofs.YtemkbobofoimaaaDoor
