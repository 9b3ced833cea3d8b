/- How the program writes sets: appendItems. -/
import Derived.Test.YtmhjfiaohbioeaaJb
import Derived.Lib.Builder
namespace Go.Proofs.Ytmhjfiaohbioeaa
open Go.RowKit Kb Pop
set_option linter.unusedVariables false
set_option maxRecDepth 20000

theorem lastR_run (p : Nat → Bool) (n : Nat) : ∀ l, 255 - l ≤ n → p l = true → ∀ j, l ≤ j → j ≤ lastR p l → p j = true := by
  induction n with
  | zero => intro l h hp j h1 h2; rw [lastR_stop (by omega)] at h2; obtain rfl : j = l := by omega
            exact hp
  | succ n ih =>
    intro l h hp j h1 h2
    by_cases hc : l < 255 ∧ p (l + 1) = true
    · rw [lastR_go hc.1 hc.2] at h2
      by_cases e : j = l
      · subst e; exact hp
      · exact ih (l + 1) (by omega) hc.2 j (by omega) h2
    · rw [lastR_stop hc] at h2; obtain rfl : j = l := by omega
      exact hp
theorem items_run (p : Nat → Bool) (f : Nat) (hp : heads p f = true) : ∀ d, f + d ≤ lastR p f → itemsP p (f + d + 1) = itemsP p f ++ item1 p f := by
  have hpf : p f = true := by unfold heads at hp; cases h : p f; rw [h] at hp; simp at hp; rfl
  intro d
  induction d with
  | zero => intro h; show itemsP p (f + 1) = _; rw [itemsP, if_pos hp]
  | succ d ih =>
    intro h
    have hb : p (f + d) = true := lastR_run p 255 f (by omega) hpf _ (by omega) (by omega)
    rw [show f + (d + 1) + 1 = (f + d + 1) + 1 by omega, itemsP, ih (by omega), if_neg, List.append_nil]
    unfold heads
    rw [show f + d + 1 - 1 = f + d by omega, hb]
    simp
theorem items_jump (p : Nat → Bool) (f : Nat) (hp : heads p f = true) : itemsP p (lastR p f + 1) = itemsP p f ++ item2 f (lastR p f) := by
  have h := (lastR_ge p 255 f (by omega)).1
  have := items_run p f hp (lastR p f - f) (by omega)
  rwa [show f + (lastR p f - f) + 1 = lastR p f + 1 by omega] at this
theorem lastR_end (p : Nat → Bool) (n : Nat) : ∀ l, 255 - l ≤ n → lastR p l < 255 → p (lastR p l + 1) = false := by
  induction n with
  | zero => intro l h h2; rw [lastR_stop (by omega)] at h2; omega
  | succ n ih =>
    intro l h h2
    by_cases hc : l < 255 ∧ p (l + 1) = true
    · rw [lastR_go hc.1 hc.2] at h2 ⊢; exact ih (l + 1) (by omega) h2
    · rw [lastR_stop hc] at h2 ⊢
      cases hq : p (l + 1)
      · rfl
      · exact absurd ⟨h2, hq⟩ hc
theorem has_at (s : Se) (b : Nat) (w : World) (hf : FitS s) (hb : b < 256) :
    Calls Try.prog 50 #[setV s, .int .u8 b] w fun e w' => e = .returned (.bool (bit s b)) ∧ Below w.heap.size w w' := by
  have := has_any s (UInt8.ofNat b) w hf
  rwa [show (UInt8.ofNat b).toNat = b by simp; omega] at this
set_option maxHeartbeats 3000000 in
theorem ais_any (v : Value) (n B : Nat) (xs : List UInt8) (s : Se) (w : World) (hf : FitS s) (hB : B ≤ w.heap.size) (hn : n ≤ 900000000000) (hown : w.ownsRow B 5 1 v n (cells xs)) (N : Nat) (hN : N = 256) :
    Calls Try.prog 41 #[v, setV s] w fun e w' => ∃ v', e = .returned v' ∧ w'.ownsRow B 5 1 v' (n + (itemsP (bit s) N).length) (cells (xs ++ itemsP (bit s) N)) ∧ Gw B w w' v v' := by
  have HH := hide (fun b (hb : b < 256) W => has_at s b W hf hb)
  obtain ⟨s1, s2, s3, s4⟩ := s
  unfold setV at *
  dsimp only at *
  generalize bit ⟨s1, s2, s3, s4⟩ = p at *
  obtain ⟨W0, hW0⟩ : ∃ W0, w.alloc (.cells #[.int .u64 s1, .int .u64 s2, .int .u64 s3, .int .u64 s4] 24) = W0 := ⟨_, rfl⟩
  have R0 := hide ((RowS.start hown hB).lay (.cells #[.int .u64 s1, .int .u64 s2, .int .u64 s3, .int .u64 s4] 24))
  rw [hW0] at R0
  obtain ⟨g, hg⟩ : ∃ g, w.heap.size = g := ⟨_, rfl⟩
  obtain ⟨L, hL⟩ : ∃ L, [(w.heap.size, Obj.cells #[.int .u64 s1, .int .u64 s2, .int .u64 s3, .int .u64 s4] 24)] = L := ⟨_, rfl⟩
  have HM : Hid (∀ (n : Nat) (xs : List UInt8) (W : World) (y : Value), RowS B w v L n xs W y → W.cell? ⟨w.heap.size, 0, none⟩ = some (.int .u64 s1) ∧ W.cell? ⟨w.heap.size, 1, none⟩ = some (.int .u64 s2) ∧ W.cell? ⟨w.heap.size, 2, none⟩ = some (.int .u64 s3) ∧ W.cell? ⟨w.heap.size, 3, none⟩ = some (.int .u64 s4)) := hide (fun n xs W y R => by
    have hm : (w.heap.size, Obj.cells #[.int .u64 s1, .int .u64 s2, .int .u64 s3, .int .u64 s4] 24) ∈ L := by rw [← hL]; exact List.mem_cons_self
    exact ⟨R.cell hm 0, R.cell hm 1, R.cell hm 2, R.cell hm 3⟩)
  rw [hL] at R0
  clear hown hf hL hg
  go_enter Try.func41, Try.ntmps41
  go_wp2_with fail
  clear hW0
  go_loopw [5, 0] (fun x y wr => ∃ f : Nat, x = .int .i64 f ∧ f ≤ 256 ∧ RowS B w v L (n + (itemsP p f).length) (xs ++ itemsP p f) wr y ∧ (f < 256 → heads p f = p f)) (fun x _ _ => 256 - (intOf x).toNat)
  case atStart => exact ⟨0, rfl, by omega, by simpa [itemsP] using unhide R0, fun _ => by unfold heads; simp⟩
  case round =>
    obtain ⟨y, rfl⟩ : ∃ y, y = u0 := ⟨_, rfl⟩
    obtain ⟨f, rfl, hf, hrow, hh⟩ := hrel
    have R := hide hrow
    have HD := hide hh
    clear hrow hh R0
    obtain ⟨c0, c1, c2, c3⟩ := (unhide HM) _ _ _ _ (unhide R)
    by_cases hlt : f < 256
    · have hI : (f : Int) < 256 := by omega
      have hw8 : IntKind.u8.wrap (f : Int) = f := by rw [IntKind.wrap_u8]; omega
      have HC := hide ((unhide HH) f hlt wr)
      go_wp2_with fail
      refine (unhide HC).mono ?_
      rintro e w2 ⟨rfl, b2⟩
      have R2 := hide ((unhide R).below b2)
      clear b2 HC c0 c1 c2 c3 R
      cases hp : p f
      · have HIT : Hid (itemsP p (f + 1) = itemsP p f) := hide (by rw [itemsP, if_neg (by unfold heads; rw [hp]; simp), List.append_nil])
        have HD2 : Hid (heads p (f + 1) = p (f + 1)) := hide (by unfold heads; rw [show f + 1 - 1 = f by omega, hp]; simp)
        clear hp HD
        go_wp2_with fail
        exact ⟨⟨f + 1, by go_num, by omega, by rw [unhide HIT]; exact unhide R2, fun _ => unhide HD2⟩, by simp [intOf]; omega⟩
      · have HHD : Hid (heads p f = true) := hide (by rw [(unhide HD) hlt, hp])
        clear hp HD
        go_wp2_with fail
        go_loopw [6] (fun x wr => ∃ l : Nat, x = .int .i64 l ∧ f ≤ l ∧ l ≤ 255 ∧ RowS B w v L (n + (itemsP p f).length) (xs ++ itemsP p f) wr y ∧ lastR p f = lastR p l) (fun x _ => 255 - (intOf x).toNat)
        case atStart => exact ⟨f, rfl, Nat.le_refl _, by omega, unhide R2, rfl⟩
        case round =>
          obtain ⟨w4, rfl⟩ : ∃ w4, w4 = wr := ⟨_, rfl⟩
          obtain ⟨l, rfl, hfl, hl, hrow, hlast⟩ := hrel
          have RX := hide hrow
          have HLA := hide hlast
          clear hrow hlast
          obtain ⟨d0, d1, d2, d3⟩ := (unhide HM) _ _ _ _ (unhide RX)
          have hgo : Hid (∀ (W : World), lastR p f = l → RowS B w v L (n + (itemsP p f).length) (xs ++ itemsP p f) W y → Calls Try.prog 51 #[y, .int .u8 f, .int .u8 l] W fun e w' => ∃ v', e = .returned v' ∧ RowS B w v L (n + (itemsP p (l + 1)).length) (xs ++ itemsP p (l + 1)) w' v' ∧ (l + 1 < 256 → heads p (l + 1) = p (l + 1))) := hide (fun W he hR => by
            have hln := itemsP_len p f
            refine (ai_any y _ B _ f l W hfl (by omega) hR.hB (by omega) hR.own).mono ?_
            rintro e w' ⟨v', rfl, h1, h2⟩
            have hj := items_jump p f (unhide HHD)
            rw [he] at hj
            refine ⟨v', rfl, ?_, ?_⟩
            · rw [hj]
              refine hR.call ?_ h2
              simpa [Nat.add_assoc] using h1
            · intro h256
              have := lastR_end p 255 f (by omega) (by omega)
              rw [he] at this
              unfold heads
              rw [this]; rfl)
          by_cases h255 : l < 255
          · have hlI : (l : Int) + 1 < 256 := by omega
            have hw8 : IntKind.u8.wrap ((l : Int) + 1) = (l : Int) + 1 := by rw [IntKind.wrap_u8]; omega
            have hw8l : IntKind.u8.wrap (l : Int) = (l : Int) := by rw [IntKind.wrap_u8]; omega
            have hw8f : IntKind.u8.wrap (f : Int) = (f : Int) := by rw [IntKind.wrap_u8]; omega
            have hJ := hide ((unhide HH) (l + 1) (by omega) w4)
            rw [show ((l + 1 : Nat) : Int) = (l : Int) + 1 by omega] at hJ
            go_wp2_with fail
            refine (unhide hJ).mono ?_
            rintro e wz ⟨rfl, bz⟩
            have RY := hide ((unhide RX).below bz)
            clear bz hJ d0 d1 d2 d3
            cases hpl : p (l + 1)
            · have HLR : lastR p f = l := by rw [unhide HLA, lastR_stop (by rw [hpl]; simp)]
              have HCALL := hide ((unhide hgo) wz HLR (unhide RY))
              clear hpl HLA HLR hgo
              go_wp2_with fail
              refine (unhide HCALL).mono ?_
              rintro e w6 ⟨v6, rfl, o6, h6⟩
              have O6 := hide o6
              have H6 := hide h6
              clear o6 h6 HCALL
              go_wp2_with fail
              exact ⟨⟨l + 1, by go_num, by omega, unhide O6, unhide H6⟩, by simp [intOf]; omega⟩
            · have HLR : Hid (lastR p f = lastR p (l + 1)) := hide (by rw [unhide HLA, lastR_go h255 hpl])
              clear hpl HLA hgo
              go_wp2_with fail
              exact ⟨⟨l + 1, by go_num, by omega, by omega, unhide RY, unhide HLR⟩, by simp [intOf]; omega⟩
          · have HLR : lastR p f = l := by rw [unhide HLA, lastR_stop (by omega)]
            have hlI : ¬ ((l : Int) + 1 < 256) := by omega
            have hw8l : IntKind.u8.wrap (l : Int) = (l : Int) := by rw [IntKind.wrap_u8]; omega
            have hw8f : IntKind.u8.wrap (f : Int) = (f : Int) := by rw [IntKind.wrap_u8]; omega
            have HCALL := hide ((unhide hgo) w4 HLR (unhide RX))
            clear HLA HLR hgo d0 d1 d2 d3
            go_wp2_with fail
            refine (unhide HCALL).mono ?_
            rintro e w6 ⟨v6, rfl, o6, h6⟩
            have O6 := hide o6
            have H6 := hide h6
            clear o6 h6 HCALL
            go_wp2_with fail
            exact ⟨⟨l + 1, by go_num, by omega, unhide O6, unhide H6⟩, by simp [intOf]; omega⟩
    · obtain rfl : f = N := by omega
      have hI : ¬ ((f : Int) < 256) := by omega
      clear hN HD
      go_wp2_with fail
      go_ret
      exact ⟨y, rfl, (unhide R).own, (unhide R).gw⟩
end Go.Proofs.Ytmhjfiaohbioeaa
