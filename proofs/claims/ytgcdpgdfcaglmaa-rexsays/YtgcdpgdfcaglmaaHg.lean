/- How the document writes sets of bytes: items. -/
import Derived.Test.YtgcdpgdfcaglmaaHd
import Derived.Test.YtgcdpgdfcaglmaaHf
namespace Go.Proofs.Ytgcdpgdfcaglmaa
open Go.RowKit Kb
set_option linter.unusedVariables false
set_option maxRecDepth 20000

/-- the last byte of the row of bytes that goes on from l -/
def lastR (p : Nat → Bool) (l : Nat) : Nat := if l < 255 ∧ p (l + 1) = true then lastR p (l + 1) else l
termination_by 255 - l
theorem lastR_go {p : Nat → Bool} {l : Nat} (h : l < 255) (g : p (l + 1) = true) : lastR p l = lastR p (l + 1) := by rw [lastR, if_pos ⟨h, g⟩]
theorem lastR_stop {p : Nat → Bool} {l : Nat} (h : ¬ (l < 255 ∧ p (l + 1) = true)) : lastR p l = l := by rw [lastR, if_neg h]
theorem lastR_ge (p : Nat → Bool) (n : Nat) : ∀ l, 255 - l ≤ n → l ≤ lastR p l ∧ (l ≤ 255 → lastR p l ≤ 255) := by
  induction n with
  | zero => intro l h; rw [lastR_stop (by omega)]; exact ⟨Nat.le_refl _, id⟩
  | succ n ih =>
    intro l h
    by_cases hc : l < 255 ∧ p (l + 1) = true
    · rw [lastR_go hc.1 hc.2]; have := ih (l + 1) (by omega); exact ⟨by omega, fun _ => this.2 (by omega)⟩
    · rw [lastR_stop hc]; exact ⟨Nat.le_refl _, id⟩
/-- an ITEM of a row of bytes from b on -/
def item1 (p : Nat → Bool) (b : Nat) : List UInt8 :=
  charT (UInt8.ofNat b) ++ ((if b + 1 < lastR p b then [45] else []) ++ (if b < lastR p b then charT (UInt8.ofNat (lastR p b)) else []))
/-- does a row of bytes begin at b? -/
def heads (p : Nat → Bool) (b : Nat) : Bool := p b && !(decide (0 < b) && p (b - 1))
def itemsP (p : Nat → Bool) : Nat → List UInt8
  | 0 => []
  | b + 1 => itemsP p b ++ (if heads p b = true then item1 p b else [])
theorem charT_len (b : UInt8) : (charT b).length ≤ 4 := by
  unfold charT
  split
  · decide
  split
  · decide
  split
  · decide
  split
  · simp [twoH]
  split <;> simp
theorem item1_len (p : Nat → Bool) (b : Nat) : (item1 p b).length ≤ 9 := by
  unfold item1
  have h1 := charT_len (UInt8.ofNat b)
  have h2 := charT_len (UInt8.ofNat (lastR p b))
  rw [List.length_append, List.length_append]
  split <;> split <;> simp <;> omega
theorem itemsP_len (p : Nat → Bool) (b : Nat) : (itemsP p b).length ≤ 9 * b := by
  induction b with
  | zero => simp [itemsP]
  | succ b ih =>
    have := item1_len p b
    rw [itemsP, List.length_append]
    split <;> simp <;> omega
theorem mk_size (l : List UInt8) : (mk l).size = l.length := Kb.mk_sz l
theorem char_at (b : Nat) (hb : b < 256) (w : World) :
    Calls Try.prog 32 #[.int .i64 b] w fun e w' => e = .returned (.string (mk (charT (UInt8.ofNat b)))) ∧ Below w.heap.size w w' := by
  have := char_any (UInt8.ofNat b) w
  rwa [show ((UInt8.ofNat b).toNat : Int) = (b : Int) by simp; omega] at this
set_option maxHeartbeats 3000000 in
theorem items_any (s : Se) (w : World) (hf : FitS s) (N : Nat) (hN : N = 256) :
    Calls Try.prog 21 #[setV s] w fun e w' => e = .returned (.string (mk (itemsP (bit s) N))) ∧ Below w.heap.size w w' := by
  have HI := hide (fun b (hb : b < 256) W => is_any s b W hf hb)
  obtain ⟨s1, s2, s3, s4⟩ := s
  unfold setV at *
  dsimp only at *
  generalize bit ⟨s1, s2, s3, s4⟩ = p at *
  obtain ⟨W0, hW0⟩ : ∃ W0, w.alloc (.cells #[.int .u64 s1, .int .u64 s2, .int .u64 s3, .int .u64 s4] 24) = W0 := ⟨_, rfl⟩
  have b0 : Below w.heap.size w W0 := by rw [← hW0]; exact (Below.refl _ _).alloc (Nat.le_refl _) _
  have HC : Hid (∀ j v, (#[.int .u64 s1, .int .u64 s2, .int .u64 s3, .int .u64 s4] : Array Value)[j]? = some v → W0.cell? ⟨w.heap.size, j, none⟩ = some v) := hide (fun j v h => by rw [← hW0, World.cell?_alloc_new]; exact h)
  have hsz : w.heap.size < W0.heap.size := by rw [← hW0]; simp
  go_enter Try.func21, Try.ntmps21
  go_wp2_with fail
  have HS : Hid (∀ W, Below W0.heap.size W0 W → W.cell? ⟨w.heap.size, 0, none⟩ = some (.int .u64 s1) ∧ W.cell? ⟨w.heap.size, 1, none⟩ = some (.int .u64 s2) ∧ W.cell? ⟨w.heap.size, 2, none⟩ = some (.int .u64 s3) ∧ W.cell? ⟨w.heap.size, 3, none⟩ = some (.int .u64 s4)) := hide (fun W hb => ⟨cell_below ((unhide HC) 0 _ rfl) hsz hb, cell_below ((unhide HC) 1 _ rfl) hsz hb, cell_below ((unhide HC) 2 _ rfl) hsz hb, cell_below ((unhide HC) 3 _ rfl) hsz hb⟩)
  have B0 := hide b0
  clear hW0 b0 HC hsz hf
  go_loopw [4, 3] (fun x y wr => ∃ b : Nat, x = .int .i64 b ∧ b ≤ 256 ∧ y = .string (mk (itemsP p b)) ∧ Below W0.heap.size W0 wr) (fun x _ _ => 256 - (intOf x).toNat)
  case atStart => exact ⟨0, rfl, Nat.zero_le _, rfl, Below.refl _ _⟩
  case round =>
    obtain ⟨w2, rfl⟩ : ∃ w2, w2 = wr := ⟨_, rfl⟩
    obtain ⟨b, rfl, hb, rfl, hbel⟩ := hrel
    have B := hide hbel
    clear hbel
    obtain ⟨c0, c1, c2, c3⟩ := (unhide HS) w2 (unhide B)
    by_cases hlt : b < 256
    · have hbI : (b : Int) < 256 := by omega
      have hJ := hide ((unhide HI) b hlt w2)
      go_wp2_with fail
      refine (unhide hJ).mono ?_
      rintro e w3 ⟨rfl, b3⟩
      have BI := hide (bel_trans (unhide B) b3)
      clear b3 hJ c0 c1 c2 c3
      obtain ⟨c0, c1, c2, c3⟩ := (unhide HS) w3 (unhide BI)
      cases hp : p b
      · have HIT : Hid (itemsP p (b + 1) = itemsP p b) := hide (by rw [itemsP, if_neg (by unfold heads; rw [hp]; simp), List.append_nil])
        clear hp
        go_wp2_with fail
        exact ⟨⟨b + 1, by go_num, by omega, by rw [unhide HIT], unhide BI⟩, by simp [intOf]; omega⟩
      · by_cases h0 : 0 < b
        · obtain ⟨m, hm⟩ : ∃ m, b = m + 1 := ⟨b - 1, by omega⟩
          have h0I : (b : Int) > 0 := by omega
          have hsub : (b : Int) - 1 = m := by omega
          have hK := hide ((unhide HI) m (by omega) w3)
          have HM := hide hm
          have HP := hide hp
          clear hm hp
          go_wp2_with fail
          refine (unhide hK).mono ?_
          rintro e w3' ⟨rfl, b3⟩
          have BI' := hide (bel_trans (unhide BI) b3)
          clear b3 hK c0 c1 c2 c3 BI
          have BI := BI'
          clear BI'
          cases hq : p m
          · have HHD : Hid (heads p b = true) := hide (by unfold heads; rw [unhide HP, show b - 1 = m by have := unhide HM; omega, hq]; simp)
            clear hq hsub
            go_wp2_with fail
            go_loopw [5] (fun x wr => ∃ l : Nat, x = .int .i64 l ∧ b ≤ l ∧ l ≤ 255 ∧ Below W0.heap.size W0 wr ∧ lastR p b = lastR p l) (fun x _ => 255 - (intOf x).toNat)
            case atStart => exact ⟨b, rfl, Nat.le_refl _, by omega, unhide BI, rfl⟩
            case round =>
              obtain ⟨w4, rfl⟩ : ∃ w4, w4 = wr := ⟨_, rfl⟩
              obtain ⟨l, rfl, hbl, hl, hbel, hlast⟩ := hrel
              have BX := hide hbel
              have HLA := hide hlast
              clear hbel hlast
              obtain ⟨d0, d1, d2, d3⟩ := (unhide HS) w4 (unhide BX)
              by_cases h255 : l < 255
              · have hlI : (l : Int) < 255 := by omega
                have hJ := hide ((unhide HI) (l + 1) (by omega) w4)
                rw [show ((l + 1 : Nat) : Int) = (l : Int) + 1 by omega] at hJ
                go_wp2_with fail
                refine (unhide hJ).mono ?_
                rintro e wz ⟨rfl, bz⟩
                have BY := hide (bel_trans (unhide BX) bz)
                clear bz hJ BX d0 d1 d2 d3
                cases hpl : p (l + 1)
                · have HLR : Hid (lastR p b = l) := hide (by rw [unhide HLA, lastR_stop (by rw [hpl]; simp)])
                  have BX := BY
                  clear hpl HLA BY
                  have hC1 := hide (char_at b hlt wz)
                  have HIT : Hid (itemsP p (b + 1) = itemsP p b ++ (charT (UInt8.ofNat b) ++ ((if b + 1 < l then [45] else []) ++ (if b < l then charT (UInt8.ofNat l) else [])))) := hide (by rw [itemsP, if_pos (unhide HHD), item1, unhide HLR])
                  have hln := itemsP_len p b
                  obtain ⟨I0, hI0⟩ : ∃ I, itemsP p b = I := ⟨_, rfl⟩
                  rw [hI0] at HIT hln ⊢
                  clear hI0
                  obtain ⟨q1, hq1⟩ : ∃ q, mk (charT (UInt8.ofNat b)) = q := ⟨_, rfl⟩
                  rw [hq1] at hC1
                  obtain ⟨q0, hq0⟩ : ∃ q, mk I0 = q := ⟨_, rfl⟩
                  rw [hq0]
                  have hs0 : q0.size ≤ 2304 := by rw [← hq0, mk_size]; omega
                  have hs1 : q1.size ≤ 4 := by rw [← hq1, mk_size]; exact charT_len _
                  clear hln
                  have HQ := hide (And.intro hq0 hq1)
                  clear hq0 hq1
                  by_cases hA : b < l
                  · have hAI : (l : Int) > b := by omega
                    by_cases hD : b + 1 < l
                    · have hDI : (l : Int) > (b : Int) + 1 := by omega
                      rw [if_pos hD, if_pos hA] at HIT
                      go_wp2_with fail
                      refine (unhide hC1).mono ?_
                      rintro e w5 ⟨rfl, b5⟩
                      have B5 := hide (bel_trans (unhide BX) b5)
                      have hC2 := hide (char_at l (by omega) w5)
                      obtain ⟨q2, hq2⟩ : ∃ q, mk (charT (UInt8.ofNat l)) = q := ⟨_, rfl⟩
                      rw [hq2] at hC2
                      have hs2 : q2.size ≤ 4 := by rw [← hq2, mk_size]; exact charT_len _
                      have HQ2 := hide hq2
                      clear b5 hC1 hq2
                      go_wp2_with fail
                      refine (unhide hC2).mono ?_
                      rintro e w6 ⟨rfl, b6⟩
                      have B6 := hide (bel_trans (unhide B5) b6)
                      clear b6 hC2
                      go_wp2_with fail
                      refine ⟨⟨b + 1, by go_num, by omega, ?_, unhide B6⟩, by simp [intOf]; omega⟩
                      rw [unhide HIT, ← (unhide HQ).1, ← (unhide HQ).2, ← unhide HQ2]
                      simp only [mk, Kb.cat_list]
                      simp
                    · have hDI : ¬ ((l : Int) > (b : Int) + 1) := by omega
                      rw [if_neg hD, if_pos hA] at HIT
                      go_wp2_with fail
                      refine (unhide hC1).mono ?_
                      rintro e w5 ⟨rfl, b5⟩
                      have B5 := hide (bel_trans (unhide BX) b5)
                      have hC2 := hide (char_at l (by omega) w5)
                      obtain ⟨q2, hq2⟩ : ∃ q, mk (charT (UInt8.ofNat l)) = q := ⟨_, rfl⟩
                      rw [hq2] at hC2
                      have hs2 : q2.size ≤ 4 := by rw [← hq2, mk_size]; exact charT_len _
                      have HQ2 := hide hq2
                      clear b5 hC1 hq2
                      go_wp2_with fail
                      refine (unhide hC2).mono ?_
                      rintro e w6 ⟨rfl, b6⟩
                      have B6 := hide (bel_trans (unhide B5) b6)
                      clear b6 hC2
                      go_wp2_with fail
                      refine ⟨⟨b + 1, by go_num, by omega, ?_, unhide B6⟩, by simp [intOf]; omega⟩
                      rw [unhide HIT, ← (unhide HQ).1, ← (unhide HQ).2, ← unhide HQ2]
                      simp only [mk, Kb.cat_list]
                      simp
                  · have hAI : ¬ ((l : Int) > b) := by omega
                    have hDI : ¬ ((l : Int) > (b : Int) + 1) := by omega
                    rw [if_neg (by omega), if_neg hA] at HIT
                    go_wp2_with fail
                    refine (unhide hC1).mono ?_
                    rintro e w5 ⟨rfl, b5⟩
                    have B5 := hide (bel_trans (unhide BX) b5)
                    clear b5 hC1
                    go_wp2_with fail
                    refine ⟨⟨b + 1, by go_num, by omega, ?_, unhide B5⟩, by simp [intOf]; omega⟩
                    rw [unhide HIT, ← (unhide HQ).1, ← (unhide HQ).2]
                    simp only [mk, Kb.cat_list]
                    simp
                · have HLR : Hid (lastR p b = lastR p (l + 1)) := hide (by rw [unhide HLA, lastR_go h255 hpl])
                  clear hpl HLA
                  go_wp2_with fail
                  exact ⟨⟨l + 1, by go_num, by omega, by omega, unhide BY, unhide HLR⟩, by simp [intOf]; omega⟩
              · have HLR : Hid (lastR p b = l) := hide (by rw [unhide HLA, lastR_stop (by omega)])
                have hlI : ¬ ((l : Int) < 255) := by omega
                clear HLA d0 d1 d2 d3
                have hC1 := hide (char_at b hlt w4)
                have HIT : Hid (itemsP p (b + 1) = itemsP p b ++ (charT (UInt8.ofNat b) ++ ((if b + 1 < l then [45] else []) ++ (if b < l then charT (UInt8.ofNat l) else [])))) := hide (by rw [itemsP, if_pos (unhide HHD), item1, unhide HLR])
                have hln := itemsP_len p b
                obtain ⟨I0, hI0⟩ : ∃ I, itemsP p b = I := ⟨_, rfl⟩
                rw [hI0] at HIT hln ⊢
                clear hI0
                obtain ⟨q1, hq1⟩ : ∃ q, mk (charT (UInt8.ofNat b)) = q := ⟨_, rfl⟩
                rw [hq1] at hC1
                obtain ⟨q0, hq0⟩ : ∃ q, mk I0 = q := ⟨_, rfl⟩
                rw [hq0]
                have hs0 : q0.size ≤ 2304 := by rw [← hq0, mk_size]; omega
                have hs1 : q1.size ≤ 4 := by rw [← hq1, mk_size]; exact charT_len _
                clear hln
                have HQ := hide (And.intro hq0 hq1)
                clear hq0 hq1
                by_cases hA : b < l
                · have hAI : (l : Int) > b := by omega
                  by_cases hD : b + 1 < l
                  · have hDI : (l : Int) > (b : Int) + 1 := by omega
                    rw [if_pos hD, if_pos hA] at HIT
                    go_wp2_with fail
                    refine (unhide hC1).mono ?_
                    rintro e w5 ⟨rfl, b5⟩
                    have B5 := hide (bel_trans (unhide BX) b5)
                    have hC2 := hide (char_at l (by omega) w5)
                    obtain ⟨q2, hq2⟩ : ∃ q, mk (charT (UInt8.ofNat l)) = q := ⟨_, rfl⟩
                    rw [hq2] at hC2
                    have hs2 : q2.size ≤ 4 := by rw [← hq2, mk_size]; exact charT_len _
                    have HQ2 := hide hq2
                    clear b5 hC1 hq2
                    go_wp2_with fail
                    refine (unhide hC2).mono ?_
                    rintro e w6 ⟨rfl, b6⟩
                    have B6 := hide (bel_trans (unhide B5) b6)
                    clear b6 hC2
                    go_wp2_with fail
                    refine ⟨⟨b + 1, by go_num, by omega, ?_, unhide B6⟩, by simp [intOf]; omega⟩
                    rw [unhide HIT, ← (unhide HQ).1, ← (unhide HQ).2, ← unhide HQ2]
                    simp only [mk, Kb.cat_list]
                    simp
                  · have hDI : ¬ ((l : Int) > (b : Int) + 1) := by omega
                    rw [if_neg hD, if_pos hA] at HIT
                    go_wp2_with fail
                    refine (unhide hC1).mono ?_
                    rintro e w5 ⟨rfl, b5⟩
                    have B5 := hide (bel_trans (unhide BX) b5)
                    have hC2 := hide (char_at l (by omega) w5)
                    obtain ⟨q2, hq2⟩ : ∃ q, mk (charT (UInt8.ofNat l)) = q := ⟨_, rfl⟩
                    rw [hq2] at hC2
                    have hs2 : q2.size ≤ 4 := by rw [← hq2, mk_size]; exact charT_len _
                    have HQ2 := hide hq2
                    clear b5 hC1 hq2
                    go_wp2_with fail
                    refine (unhide hC2).mono ?_
                    rintro e w6 ⟨rfl, b6⟩
                    have B6 := hide (bel_trans (unhide B5) b6)
                    clear b6 hC2
                    go_wp2_with fail
                    refine ⟨⟨b + 1, by go_num, by omega, ?_, unhide B6⟩, by simp [intOf]; omega⟩
                    rw [unhide HIT, ← (unhide HQ).1, ← (unhide HQ).2, ← unhide HQ2]
                    simp only [mk, Kb.cat_list]
                    simp
                · have hAI : ¬ ((l : Int) > b) := by omega
                  have hDI : ¬ ((l : Int) > (b : Int) + 1) := by omega
                  rw [if_neg (by omega), if_neg hA] at HIT
                  go_wp2_with fail
                  refine (unhide hC1).mono ?_
                  rintro e w5 ⟨rfl, b5⟩
                  have B5 := hide (bel_trans (unhide BX) b5)
                  clear b5 hC1
                  go_wp2_with fail
                  refine ⟨⟨b + 1, by go_num, by omega, ?_, unhide B5⟩, by simp [intOf]; omega⟩
                  rw [unhide HIT, ← (unhide HQ).1, ← (unhide HQ).2]
                  simp only [mk, Kb.cat_list]
                  simp
          · have HIT : Hid (itemsP p (b + 1) = itemsP p b) := hide (by rw [itemsP, if_neg (by unfold heads; rw [unhide HP, show b - 1 = m by have := unhide HM; omega, hq, decide_eq_true h0]; simp), List.append_nil])
            clear hq hsub
            go_wp2_with fail
            exact ⟨⟨b + 1, by go_num, by omega, by rw [unhide HIT], unhide BI⟩, by simp [intOf]; omega⟩
        · have h0I : ¬ ((b : Int) > 0) := by omega
          have HHD : Hid (heads p b = true) := hide (by unfold heads; rw [hp, decide_eq_false h0]; rfl)
          clear hp
          go_wp2_with fail
          clear h0 h0I
          go_loopw [5] (fun x wr => ∃ l : Nat, x = .int .i64 l ∧ b ≤ l ∧ l ≤ 255 ∧ Below W0.heap.size W0 wr ∧ lastR p b = lastR p l) (fun x _ => 255 - (intOf x).toNat)
          case atStart => exact ⟨b, rfl, Nat.le_refl _, by omega, unhide BI, rfl⟩
          case round =>
            obtain ⟨w4, rfl⟩ : ∃ w4, w4 = wr := ⟨_, rfl⟩
            obtain ⟨l, rfl, hbl, hl, hbel, hlast⟩ := hrel
            have BX := hide hbel
            have HLA := hide hlast
            clear hbel hlast
            obtain ⟨d0, d1, d2, d3⟩ := (unhide HS) w4 (unhide BX)
            by_cases h255 : l < 255
            · have hlI : (l : Int) < 255 := by omega
              have hJ := hide ((unhide HI) (l + 1) (by omega) w4)
              rw [show ((l + 1 : Nat) : Int) = (l : Int) + 1 by omega] at hJ
              go_wp2_with fail
              refine (unhide hJ).mono ?_
              rintro e wz ⟨rfl, bz⟩
              have BY := hide (bel_trans (unhide BX) bz)
              clear bz hJ BX d0 d1 d2 d3
              cases hpl : p (l + 1)
              · have HLR : Hid (lastR p b = l) := hide (by rw [unhide HLA, lastR_stop (by rw [hpl]; simp)])
                have BX := BY
                clear hpl HLA BY
                have hC1 := hide (char_at b hlt wz)
                have HIT : Hid (itemsP p (b + 1) = itemsP p b ++ (charT (UInt8.ofNat b) ++ ((if b + 1 < l then [45] else []) ++ (if b < l then charT (UInt8.ofNat l) else [])))) := hide (by rw [itemsP, if_pos (unhide HHD), item1, unhide HLR])
                have hln := itemsP_len p b
                obtain ⟨I0, hI0⟩ : ∃ I, itemsP p b = I := ⟨_, rfl⟩
                rw [hI0] at HIT hln ⊢
                clear hI0
                obtain ⟨q1, hq1⟩ : ∃ q, mk (charT (UInt8.ofNat b)) = q := ⟨_, rfl⟩
                rw [hq1] at hC1
                obtain ⟨q0, hq0⟩ : ∃ q, mk I0 = q := ⟨_, rfl⟩
                rw [hq0]
                have hs0 : q0.size ≤ 2304 := by rw [← hq0, mk_size]; omega
                have hs1 : q1.size ≤ 4 := by rw [← hq1, mk_size]; exact charT_len _
                clear hln
                have HQ := hide (And.intro hq0 hq1)
                clear hq0 hq1
                by_cases hA : b < l
                · have hAI : (l : Int) > b := by omega
                  by_cases hD : b + 1 < l
                  · have hDI : (l : Int) > (b : Int) + 1 := by omega
                    rw [if_pos hD, if_pos hA] at HIT
                    go_wp2_with fail
                    refine (unhide hC1).mono ?_
                    rintro e w5 ⟨rfl, b5⟩
                    have B5 := hide (bel_trans (unhide BX) b5)
                    have hC2 := hide (char_at l (by omega) w5)
                    obtain ⟨q2, hq2⟩ : ∃ q, mk (charT (UInt8.ofNat l)) = q := ⟨_, rfl⟩
                    rw [hq2] at hC2
                    have hs2 : q2.size ≤ 4 := by rw [← hq2, mk_size]; exact charT_len _
                    have HQ2 := hide hq2
                    clear b5 hC1 hq2
                    go_wp2_with fail
                    refine (unhide hC2).mono ?_
                    rintro e w6 ⟨rfl, b6⟩
                    have B6 := hide (bel_trans (unhide B5) b6)
                    clear b6 hC2
                    go_wp2_with fail
                    refine ⟨⟨b + 1, by go_num, by omega, ?_, unhide B6⟩, by simp [intOf]; omega⟩
                    rw [unhide HIT, ← (unhide HQ).1, ← (unhide HQ).2, ← unhide HQ2]
                    simp only [mk, Kb.cat_list]
                    simp
                  · have hDI : ¬ ((l : Int) > (b : Int) + 1) := by omega
                    rw [if_neg hD, if_pos hA] at HIT
                    go_wp2_with fail
                    refine (unhide hC1).mono ?_
                    rintro e w5 ⟨rfl, b5⟩
                    have B5 := hide (bel_trans (unhide BX) b5)
                    have hC2 := hide (char_at l (by omega) w5)
                    obtain ⟨q2, hq2⟩ : ∃ q, mk (charT (UInt8.ofNat l)) = q := ⟨_, rfl⟩
                    rw [hq2] at hC2
                    have hs2 : q2.size ≤ 4 := by rw [← hq2, mk_size]; exact charT_len _
                    have HQ2 := hide hq2
                    clear b5 hC1 hq2
                    go_wp2_with fail
                    refine (unhide hC2).mono ?_
                    rintro e w6 ⟨rfl, b6⟩
                    have B6 := hide (bel_trans (unhide B5) b6)
                    clear b6 hC2
                    go_wp2_with fail
                    refine ⟨⟨b + 1, by go_num, by omega, ?_, unhide B6⟩, by simp [intOf]; omega⟩
                    rw [unhide HIT, ← (unhide HQ).1, ← (unhide HQ).2, ← unhide HQ2]
                    simp only [mk, Kb.cat_list]
                    simp
                · have hAI : ¬ ((l : Int) > b) := by omega
                  have hDI : ¬ ((l : Int) > (b : Int) + 1) := by omega
                  rw [if_neg (by omega), if_neg hA] at HIT
                  go_wp2_with fail
                  refine (unhide hC1).mono ?_
                  rintro e w5 ⟨rfl, b5⟩
                  have B5 := hide (bel_trans (unhide BX) b5)
                  clear b5 hC1
                  go_wp2_with fail
                  refine ⟨⟨b + 1, by go_num, by omega, ?_, unhide B5⟩, by simp [intOf]; omega⟩
                  rw [unhide HIT, ← (unhide HQ).1, ← (unhide HQ).2]
                  simp only [mk, Kb.cat_list]
                  simp
              · have HLR : Hid (lastR p b = lastR p (l + 1)) := hide (by rw [unhide HLA, lastR_go h255 hpl])
                clear hpl HLA
                go_wp2_with fail
                exact ⟨⟨l + 1, by go_num, by omega, by omega, unhide BY, unhide HLR⟩, by simp [intOf]; omega⟩
            · have HLR : Hid (lastR p b = l) := hide (by rw [unhide HLA, lastR_stop (by omega)])
              have hlI : ¬ ((l : Int) < 255) := by omega
              clear HLA d0 d1 d2 d3
              have hC1 := hide (char_at b hlt w4)
              have HIT : Hid (itemsP p (b + 1) = itemsP p b ++ (charT (UInt8.ofNat b) ++ ((if b + 1 < l then [45] else []) ++ (if b < l then charT (UInt8.ofNat l) else [])))) := hide (by rw [itemsP, if_pos (unhide HHD), item1, unhide HLR])
              have hln := itemsP_len p b
              obtain ⟨I0, hI0⟩ : ∃ I, itemsP p b = I := ⟨_, rfl⟩
              rw [hI0] at HIT hln ⊢
              clear hI0
              obtain ⟨q1, hq1⟩ : ∃ q, mk (charT (UInt8.ofNat b)) = q := ⟨_, rfl⟩
              rw [hq1] at hC1
              obtain ⟨q0, hq0⟩ : ∃ q, mk I0 = q := ⟨_, rfl⟩
              rw [hq0]
              have hs0 : q0.size ≤ 2304 := by rw [← hq0, mk_size]; omega
              have hs1 : q1.size ≤ 4 := by rw [← hq1, mk_size]; exact charT_len _
              clear hln
              have HQ := hide (And.intro hq0 hq1)
              clear hq0 hq1
              by_cases hA : b < l
              · have hAI : (l : Int) > b := by omega
                by_cases hD : b + 1 < l
                · have hDI : (l : Int) > (b : Int) + 1 := by omega
                  rw [if_pos hD, if_pos hA] at HIT
                  go_wp2_with fail
                  refine (unhide hC1).mono ?_
                  rintro e w5 ⟨rfl, b5⟩
                  have B5 := hide (bel_trans (unhide BX) b5)
                  have hC2 := hide (char_at l (by omega) w5)
                  obtain ⟨q2, hq2⟩ : ∃ q, mk (charT (UInt8.ofNat l)) = q := ⟨_, rfl⟩
                  rw [hq2] at hC2
                  have hs2 : q2.size ≤ 4 := by rw [← hq2, mk_size]; exact charT_len _
                  have HQ2 := hide hq2
                  clear b5 hC1 hq2
                  go_wp2_with fail
                  refine (unhide hC2).mono ?_
                  rintro e w6 ⟨rfl, b6⟩
                  have B6 := hide (bel_trans (unhide B5) b6)
                  clear b6 hC2
                  go_wp2_with fail
                  refine ⟨⟨b + 1, by go_num, by omega, ?_, unhide B6⟩, by simp [intOf]; omega⟩
                  rw [unhide HIT, ← (unhide HQ).1, ← (unhide HQ).2, ← unhide HQ2]
                  simp only [mk, Kb.cat_list]
                  simp
                · have hDI : ¬ ((l : Int) > (b : Int) + 1) := by omega
                  rw [if_neg hD, if_pos hA] at HIT
                  go_wp2_with fail
                  refine (unhide hC1).mono ?_
                  rintro e w5 ⟨rfl, b5⟩
                  have B5 := hide (bel_trans (unhide BX) b5)
                  have hC2 := hide (char_at l (by omega) w5)
                  obtain ⟨q2, hq2⟩ : ∃ q, mk (charT (UInt8.ofNat l)) = q := ⟨_, rfl⟩
                  rw [hq2] at hC2
                  have hs2 : q2.size ≤ 4 := by rw [← hq2, mk_size]; exact charT_len _
                  have HQ2 := hide hq2
                  clear b5 hC1 hq2
                  go_wp2_with fail
                  refine (unhide hC2).mono ?_
                  rintro e w6 ⟨rfl, b6⟩
                  have B6 := hide (bel_trans (unhide B5) b6)
                  clear b6 hC2
                  go_wp2_with fail
                  refine ⟨⟨b + 1, by go_num, by omega, ?_, unhide B6⟩, by simp [intOf]; omega⟩
                  rw [unhide HIT, ← (unhide HQ).1, ← (unhide HQ).2, ← unhide HQ2]
                  simp only [mk, Kb.cat_list]
                  simp
              · have hAI : ¬ ((l : Int) > b) := by omega
                have hDI : ¬ ((l : Int) > (b : Int) + 1) := by omega
                rw [if_neg (by omega), if_neg hA] at HIT
                go_wp2_with fail
                refine (unhide hC1).mono ?_
                rintro e w5 ⟨rfl, b5⟩
                have B5 := hide (bel_trans (unhide BX) b5)
                clear b5 hC1
                go_wp2_with fail
                refine ⟨⟨b + 1, by go_num, by omega, ?_, unhide B5⟩, by simp [intOf]; omega⟩
                rw [unhide HIT, ← (unhide HQ).1, ← (unhide HQ).2]
                simp only [mk, Kb.cat_list]
                simp
    · obtain rfl : b = N := by omega
      have hbI : ¬ ((b : Int) < 256) := by omega
      clear hN
      go_wp2_with fail
      go_ret
      exact ⟨rfl, bel_trans (unhide B0) (unhide B)⟩
end Go.Proofs.Ytgcdpgdfcaglmaa
