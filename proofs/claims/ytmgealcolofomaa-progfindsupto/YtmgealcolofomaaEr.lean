/- Walks: the document's Runs. -/
import Derived.Test.YtmgealcolofomaaEt
import Derived.Deep.CutRange
import Derived.Deep.RegionLaw
import Derived.BigRegion
import Derived.BigQuiet
import Derived.StillTailTactics
namespace Go.Proofs.Ytmgealcolofomaa
open Go.RowKit Kb
set_option linter.unusedVariables false
set_option maxRecDepth 20000
open Sp
noncomputable def tA (p : List In) (s : List UInt8) (f a : Nat) : Nat → Nat → Bool := fun i j => (decide (i < f) || (decide (i = f) && decide (j < a))) && Pm.spanB p s i j
theorem tA_start (p : List In) (s : List UInt8) (f i j : Nat) : tA p s f 0 i j = tA p s f f i j := by
  unfold tA
  by_cases h : i = f ∧ j < f
  · obtain ⟨rfl, hj⟩ := h
    have : Pm.spanB p s i j = false := by
      rw [Pm.spanB_no]
      rintro ⟨k, hc, _⟩
      have := hc.le
      omega
    rw [this, Bool.and_false, Bool.and_false]
  · have e : (decide (i = f) && decide (j < f)) = false := by
      by_cases h1 : i = f
      · simp [h1]; omega
      · simp [h1]
    rw [e]
    simp
theorem QX.congr {w W : World} {g h n gm gh hb : Nat} {T T' : Nat → Nat → Bool} {m : Bool} {hs : List Bool} (x : QX w W g h n T gm gh hb m hs) (e : ∀ i j, i ≤ n → j ≤ n → T i j = T' i j) : QX w W g h n T' gm gh hb m hs :=
  ⟨x.tb.congr e, x.hx, x.bel, x.lo, x.l1, x.l2, x.l3, x.s1, x.s2, x.s3⟩
theorem tA_none (p : List In) (s : List UInt8) (f a u v : Nat) : tA p s f a u v = if u = f ∧ v = a then false else tA p s f a u v := by
  split
  · rename_i h
    rw [h.1, h.2]; simp [tA]
  · rfl
theorem tA_next {p : List In} {s : List UInt8} {f a : Nat} {o : Bool} (ho : o = true ↔ Pm.Span p s f a) (u v : Nat) : (if u = f ∧ v = a then o else tA p s f a u v) = tA p s f (a + 1) u v := by
  have e : o = Pm.spanB p s f a := Bool.eq_iff_iff.2 (ho.trans (Pm.spanB_iff _ _ _ _).symm)
  split
  · rename_i h
    rw [h.1, h.2, e]; simp [tA]
  · rename_i h
    unfold tA
    by_cases h1 : u = f
    · have h2 : v ≠ a := fun h2 => h ⟨h1, h2⟩
      have : decide (v < a) = decide (v < a + 1) := by rw [decide_eq_decide]; omega
      rw [this]
    · simp [h1]
set_option maxHeartbeats 40000000 in
theorem runs_any (pv : Value) (p : List In) (s : ByteArray) (w : World) (hI : Insts w pv p) (hz : Pm.chk p = 0) (hs : s.size ≤ 40) :
    Calls Try.prog 9 #[pv, .string s] w fun e w' => ∃ g h, e = .returned (.slice (some ⟨g, 0, none⟩) (s.size + 1) (s.size + 1)) ∧ TB w' g h s.size (Pm.spanB p s.data.toList) ∧ Below w.heap.size w w' := by
  have G := hide (Pm.good_of_chk hz)
  have hne : p ≠ [] := fun e => by have := (unhide G).pos; rw [e] at this; cases this
  obtain ⟨gi, off, c, rfl, hgi, hcell⟩ := hI.at_ hne
  have hfit := hide hI.fit
  have HC := hide (fun W (b : Below w.heap.size w W) j x (hj : p[j]? = some x) => (⟨cell_below (hcell j x hj).1 hgi b, cell_below (hcell j x hj).2.1 hgi b, cell_below (hcell j x hj).2.2.1 hgi b, cell_below (hcell j x hj).2.2.2.1 hgi b, cell_below (hcell j x hj).2.2.2.2.1 hgi b, cell_below (hcell j x hj).2.2.2.2.2.1 hgi b, cell_below (hcell j x hj).2.2.2.2.2.2 hgi b, Nat.lt_of_lt_of_le hgi b.size⟩ : _ ∧ _ ∧ _ ∧ _ ∧ _ ∧ _ ∧ _ ∧ gi < W.heap.size))
  have hp := (unhide G).pos
  have hp4 := (unhide G).small
  have hmk := make_bools p.length (by omega)
  have HMK := hide hmk
  clear hI hcell hne
  go_enter Try.func9, Try.ntmps9
  go_wp2_with fail
  refine (blank_any s.size (by omega) _).mono ?_; rintro e w1 ⟨rfl, ht1, hb1⟩
  have HT1 := hide ht1
  have HB1 := hide hb1
  clear ht1 hb1
  go_wp2_with fail
  go_loopw [6] (fun x wr => ∃ (f : Nat), x = .int .i64 f ∧ f ≤ s.size + 1 ∧ TB wr w.heap.size (w.heap.size + 1) s.size (tA p s.data.toList f 0) ∧ Below w.heap.size w wr) (fun x _ => s.size + 1 - (intOf x).toNat)
  case atStart => exact ⟨0, rfl, Nat.zero_le _, (unhide HT1).congr (fun i j _ _ => by simp [tA]), unhide HB1⟩
  case round =>
    obtain ⟨f, rfl, hf, hT, hB⟩ := hrel
    by_cases hfs : f ≤ s.size
    case neg =>
      have hfI : ¬ ((f : Int) ≤ s.size) := by omega
      have HT := hide (hT.congr (T' := Pm.spanB p s.data.toList) (fun i j hi _ => by simp [tA, show i < f by omega]))
      have HB := hide hB
      clear hT hB hmk
      go_wp2_with fail
      go_ret
      exact ⟨_, rfl, ⟨_, unhide HT⟩, unhide HB⟩
    have hfI : (f : Int) ≤ s.size := by omega
    have hmk1 := hmk wr
    have hlt := hT.lt
    have HY : QY w _ w.heap.size (w.heap.size + 1) s.size (tA p s.data.toList f 0) _ _ _ := QY.new hT hB (Nat.le_refl _) hp 4 49
    have A0 : Hid (Pm.At p s.data.toList f f ((List.replicate p.length false).set 0 true)) := hide (Pm.At.first (unhide G) (by rw [len_data]; exact hfs))
    have hr1 := RW.new wr p.length 4
    obtain ⟨Wa, hWa⟩ : ∃ Wa, wr.alloc (.cells (madeCells #[.bool false] p.length) 4) = Wa := ⟨_, rfl⟩
    have hWs : Wa.heap.size = wr.heap.size + 1 := by rw [← hWa]; simp
    rw [hWa] at HY hmk1 hr1
    have hr2 := hr1.below ((Below.refl _ Wa).alloc (Nat.le_refl _) (.cells #[.slice (some ⟨wr.heap.size, 0, none⟩) p.length p.length] 49))
    have c2 : (Wa.alloc (.cells #[.slice (some ⟨wr.heap.size, 0, none⟩) p.length p.length] 49)).cell? ⟨Wa.heap.size, 0, none⟩ = some (.slice (some ⟨wr.heap.size, 0, none⟩) p.length p.length) := by rw [World.cell?_alloc_new]; rfl
    obtain ⟨gh, hgh⟩ : ∃ gh, Wa.heap.size = gh := ⟨_, rfl⟩
    have hgh2 : wr.heap.size + 1 = gh := by omega
    rw [hgh2] at HY
    obtain ⟨W2, hW2⟩ : ∃ W2, Wa.alloc (.cells #[.slice (some ⟨wr.heap.size, 0, none⟩) p.length p.length] 49) = W2 := ⟨_, rfl⟩
    rw [hW2] at HY hr2 c2
    rw [hgh] at c2
    have y0 := hr2.cell 0 false (by simp [hp])
    have z0 := hr2.froz 0
    obtain ⟨hb, hhb⟩ : ∃ hb, wr.heap.size = hb := ⟨_, rfl⟩
    rw [hhb] at HY hr2 c2 hmk1 y0 z0 hW2
    have HYh := hide HY
    clear hT hB HY hr1 hr2 hWs hgh2 hmk hlt
    have hpI : (0 : Int) < p.length := by omega
    go_wp2_with fail
    clear hW2 hWa hgh hhb c2 y0 z0 hmk1
    go_loopw [8] (fun x wr => ∃ (a hb : Nat) (hs : List Bool), x = .int .i64 a ∧ f ≤ a ∧ a ≤ s.size + 1 ∧ QY w wr w.heap.size (w.heap.size + 1) s.size (tA p s.data.toList f a) gh hb hs ∧ hs.length = p.length ∧ (a ≤ s.size → Pm.At p s.data.toList f a hs)) (fun x _ => s.size + 1 - (intOf x).toNat)
    case atStart => exact ⟨f, _, _, rfl, Nat.le_refl _, by omega, (by have h1 := unhide HYh; exact ⟨h1.tb.congr (fun i j _ _ => tA_start _ _ _ _ _), h1.here, h1.fh, h1.row, h1.n3, h1.bel, h1.lo, h1.l2, h1.l3, h1.s2⟩), by simp, fun _ => unhide A0⟩
    case round =>
      obtain ⟨a, hb, hs, rfl, hfa, ha, hY, hlen, hA⟩ := hrel
      clear HYh A0
      by_cases has : a ≤ s.size
      case neg =>
        have haI : ¬ ((a : Int) ≤ s.size) := by omega
        have HT2 := hide (hY.tb.congr (T' := tA p s.data.toList (f + 1) 0) (fun i j _ hj => by
          unfold tA
          congr 1
          by_cases h1 : i < f
          · simp [h1, show i < f + 1 by omega]
          · by_cases h2 : i = f
            · simp [h2, show j < a by omega]
            · simp [h1, h2, show ¬ i < f + 1 by omega]))
        have HB2 := hide hY.bel
        clear hY hA
        go_wp2_with fail
        exact ⟨⟨f + 1, by go_num, by omega, unhide HT2, unhide HB2⟩, by simp [intOf]; omega⟩
      have haI : (a : Int) ≤ s.size := by omega
      have HA := hide (hA has)
      have HX0 := hY.box true 4
      obtain ⟨W4, hW4⟩ : ∃ W4, wr.alloc (.cells #[.bool true] 4) = W4 := ⟨_, rfl⟩
      rw [hW4] at HX0
      obtain ⟨gm0, hgm⟩ : ∃ gm0, wr.heap.size = gm0 := ⟨_, rfl⟩
      rw [hgm] at HX0
      have k9 := HX0.hx.more
      have HXh := hide HX0
      clear hY hA HX0
      go_wp2_with fail
      clear hW4 hgm k9
      go_loopw [9] (fun x w3 => ∃ (gm : Nat) (m : Bool) (hs' : List Bool), x = .pointer (some ⟨gm, 0, none⟩) ∧ QX w w3 w.heap.size (w.heap.size + 1) s.size (tA p s.data.toList f a) gm gh hb m hs' ∧ hs'.length = p.length ∧ Pm.At p s.data.toList f a hs' ∧ (m = false → ∀ k, Pm.Hr hs' k ↔ Pm.Come p s.data.toList f a k)) (fun x w3 => 2 * uW w3 hb p.length + mW w3 x)
      case atStart => exact ⟨gm0, true, hs, rfl, unhide HXh, hlen, unhide HA, fun e => by cases e⟩
      case round =>
        obtain ⟨gm, m, hs', rfl, hX, hlen', hA', hdone⟩ := hrel
        clear HXh HA hlen
        have hfs : f ≤ s.size := hfs
        cases m
        case true =>
          have k9 := hX.hx.more
          have f9 := hX.hx.fm
          have hXm := hX.measure
          rw [hlen'] at hXm
          have X4 := hX.setM false
          obtain ⟨W5, hW5⟩ : ∃ W, wr.setCell ⟨gm, 0, none⟩ (.bool false) = W := ⟨_, rfl⟩
          rw [hW5] at X4
          have HX4 := hide X4
          have HP0 := hide (Pm.PassI.start hA')
          have HME := hide hXm
          clear hX X4 hdone hA' hXm
          go_wp2_with fail
          clear hW5 k9 f9
          go_loopw [10] (fun x w4 => ∃ (i : Nat) (m' : Bool) (h' : List Bool), x = .int .i64 i ∧ i ≤ p.length ∧ QX w w4 w.heap.size (w.heap.size + 1) s.size (tA p s.data.toList f a) gm gh hb m' h' ∧ h'.length = p.length ∧ Pm.PassI p s.data.toList f a (Pm.uH hs') i [] m' h') (fun x _ => p.length - (intOf x).toNat)
          case atStart => exact ⟨0, false, hs', rfl, Nat.zero_le _, unhide HX4, hlen', unhide HP0⟩
          case round =>
            clear HX4 HP0
            obtain ⟨i, m', h', rfl, hi, hx', hl', hp'⟩ := hrel
            by_cases hlt : i < p.length
            case neg =>
              obtain rfl : i = p.length := by omega
              have k9 := hx'.hx.more
              have X6 := hx'.box m' 4
              have HDN : Hid (m' = false → ∀ k, Pm.Hr h' k ↔ Pm.Come p s.data.toList f a k) := hide (fun e k => by subst e; exact hp'.done k)
              have hmm := X6.measure
              rw [hl'] at hmm
              have hle := hp'.le
              have hlt' := hp'.lt
              have HAt := hide hp'.at_
              have HFN : Hid (2 * Pm.uH h' + (if m' = true then 1 else 0) < 2 * Pm.uH hs' + (if true = true then 1 else 0)) := hide (by
                cases m' with
                | false => simp; omega
                | true => have := hlt' rfl; simp; omega)
              obtain ⟨W6, hW6⟩ : ∃ W, wr.alloc (.cells #[.bool m'] 4) = W := ⟨_, rfl⟩
              rw [hW6] at X6 hmm
              obtain ⟨g6, hg6⟩ : ∃ q, wr.heap.size = q := ⟨_, rfl⟩
              rw [hg6] at X6 hmm
              have HX6 := hide X6
              have HMM := hide hmm
              have c6 := X6.hx.more
              have f6 := X6.hx.fm
              have hput : W6.setCell ⟨g6, 0, none⟩ (.bool m') = W6 := by rw [← hW6, ← hg6, World.setCell_alloc_new]; rfl
              clear X6 hmm hle hlt' hx' hp' hlt hi
              go_wp2_with fail
              exact ⟨⟨g6, m', h', rfl, unhide HX6, hl', unhide HAt, unhide HDN⟩, Nat.lt_of_le_of_lt (Nat.le_of_eq (unhide HMM)) (Nat.lt_of_lt_of_eq (unhide HFN) (unhide HME).symm)⟩
            obtain ⟨bt, hbt⟩ : ∃ b, h'[i]? = some b := ⟨h'[i]'(by omega), List.getElem?_eq_getElem _⟩
            have y0 := hx'.hx.here
            have y1 := hx'.hx.cell i bt hbt
            rw [hl'] at y0
            have hltI : (i : Int) < p.length := by omega
            cases bt
            · have HX5 := hide hx'
              have HP5 := hide (hp'.next (fun _ hr => by unfold Pm.Hr at hr; rw [hbt] at hr; cases hr))
              clear hx' hp' hbt
              go_wp2_with fail
              exact ⟨⟨i + 1, m', h', by go_num, by omega, unhide HX5, hl', unhide HP5⟩, by simp [intOf]; omega⟩
            · obtain ⟨x, hx⟩ : ∃ x, p[i]? = some x := ⟨p[i], List.getElem?_eq_getElem hlt⟩
              have hkind := (unhide G).kind i x hx
              have hci := hp'.at_.sound i hbt
              have heps := fun j => Pm.eps_one (n := s.data.toList.length) (a := a) (j := j) hx
              have hlen8 := len_data s
              obtain ⟨k0, k1, k2, _, _, _, _, hgl⟩ := (unhide HC) wr hx'.bel i x hx
              have HX5 := hide hx'
              have HP5 := hide hp'
              clear hx' hp' hbt
              by_cases h2 : x.k = 2
              · obtain ⟨ta, hta⟩ : ∃ t : Nat, x.a = t := ⟨x.a.toNat, by omega⟩
                obtain ⟨tb, htb⟩ : ∃ t : Nat, x.b = t := ⟨x.b.toNat, by omega⟩
                have hta2 : ta < p.length := by omega
                have htb2 : tb < p.length := by omega
                have e1 := (heps ta).2 (.inl ⟨h2, .inl (by omega)⟩)
                have e2 := (heps tb).2 (.inl ⟨h2, .inr (by omega)⟩)
                rw [hta] at k1
                rw [h2] at k0
                obtain ⟨b1, hb1⟩ : ∃ b, (h')[ta]? = some b := ⟨(h')[ta]'(by omega), List.getElem?_eq_getElem _⟩
                have HR1 := hide (runs1_any wr gm gh hb m' b1 (h') (ta) (unhide HX5).hx hb1)
                have HE1 := hide e1
                have HE2 := hide e2
                have HCI := hide hci
                clear hkind e1 e2 hci
                go_wp2_with fail
                clear k0 k1 k2 hgl y0 y1
                refine (unhide HR1).mono ?_; rintro e w5 ⟨⟨v1, rfl⟩, _, hw1⟩
                have QN1 : Hid (QX w w5 w.heap.size (w.heap.size + 1) s.size (tA p s.data.toList f a) gm gh hb (m' || !b1) ((h').set (ta) true)) := hide (by rw [hw1]; exact (unhide HX5).mark (by omega) _)
                have PN1 := hide ((unhide HP5).mark hb1 (.eps (unhide HCI) (unhide HE1)))
                obtain ⟨k0, k1, k2, _, _, _, _, hgl⟩ := (unhide HC) w5 (unhide QN1).bel i x hx
                rw [htb] at k2
                have hl5 : (h'.set ta true).length = p.length := by rw [List.length_set]; exact hl'
                clear hw1 HR1
                obtain ⟨b2, hb2⟩ : ∃ b, (h'.set ta true)[tb]? = some b := ⟨(h'.set ta true)[tb]'(by omega), List.getElem?_eq_getElem _⟩
                have HR2 := hide (runs1_any w5 gm gh hb (m' || !b1) b2 (h'.set ta true) (tb) (unhide QN1).hx hb2)
                go_wp2_with fail
                clear k0 k1 k2 hgl
                refine (unhide HR2).mono ?_; rintro e w6 ⟨⟨v2, rfl⟩, _, hw2⟩
                have QN2 : Hid (QX w w6 w.heap.size (w.heap.size + 1) s.size (tA p s.data.toList f a) gm gh hb ((m' || !b1) || !b2) ((h'.set ta true).set (tb) true)) := hide (by rw [hw2]; exact (unhide QN1).mark (by omega) _)
                have PN2 := hide ((unhide PN1).mark hb2 (.eps (unhide HCI) (unhide HE2)))
                have HN := hide ((unhide PN2).next (fun _ _ j hj => by rw [heps] at hj; simp; omega))
                clear hw2 HR2 QN1 PN1 PN2 HX5 HP5
                go_wp2_with fail
                exact ⟨⟨i + 1, _, _, by go_num, by omega, unhide QN2, by rw [List.length_set]; exact hl5, unhide HN⟩, by simp [intOf]; omega⟩
              by_cases h3 : x.k = 3
              · obtain ⟨ta, hta⟩ : ∃ t : Nat, x.a = t := ⟨x.a.toNat, by omega⟩
                have hta2 : ta < p.length := by omega
                have e1 := (heps ta).2 (.inr (.inl ⟨h3, by omega⟩))
                rw [hta] at k1
                rw [h3] at k0
                obtain ⟨b1, hb1⟩ : ∃ b, (h')[ta]? = some b := ⟨(h')[ta]'(by omega), List.getElem?_eq_getElem _⟩
                have HR1 := hide (runs1_any wr gm gh hb m' b1 (h') (ta) (unhide HX5).hx hb1)
                have HE1 := hide e1
                have HCI := hide hci
                clear hkind e1 hci
                go_wp2_with fail
                clear k0 k1 k2 hgl y0 y1
                refine (unhide HR1).mono ?_; rintro e w5 ⟨⟨v1, rfl⟩, _, hw1⟩
                have QN1 : Hid (QX w w5 w.heap.size (w.heap.size + 1) s.size (tA p s.data.toList f a) gm gh hb (m' || !b1) ((h').set (ta) true)) := hide (by rw [hw1]; exact (unhide HX5).mark (by omega) _)
                have PN1 := hide ((unhide HP5).mark hb1 (.eps (unhide HCI) (unhide HE1)))
                have HN := hide ((unhide PN1).next (fun _ _ j hj => by rw [heps] at hj; simp; omega))
                clear hw1 HR1 PN1 HX5 HP5
                go_wp2_with fail
                exact ⟨⟨i + 1, _, _, by go_num, by omega, unhide QN1, by rw [List.length_set]; exact hl', unhide HN⟩, by simp [intOf]; omega⟩
              by_cases h4 : x.k = 4
              · rw [h4] at k0
                by_cases ha0 : a = 0
                · have hi1 : i + 1 < p.length := by omega
                  have e1 := (heps (i + 1)).2 (.inr (.inr (.inl ⟨h4, ha0, rfl⟩)))
                  have haz : ((a : Int) == 0) = true := by rw [ha0]; rfl
                  have haz2 : (a : Int) = 0 := by omega
                  have HAZ := hide haz2
                  obtain ⟨b1, hb1⟩ : ∃ b, (h')[i + 1]? = some b := ⟨(h')[i + 1]'(by omega), List.getElem?_eq_getElem _⟩
                  have HR1 := hide (runs1_any wr gm gh hb m' b1 (h') (i + 1) (unhide HX5).hx hb1)
                  rw [show ((i + 1 : Nat) : Int) = (i : Int) + 1 by omega] at HR1
                  have HE1 := hide e1
                  have HCI := hide hci
                  clear hkind e1 hci
                  go_wp2_with fail
                  clear k0 k1 k2 hgl y0 y1
                  refine (unhide HR1).mono ?_; rintro e w5 ⟨⟨v1, rfl⟩, _, hw1⟩
                  have QN1 : Hid (QX w w5 w.heap.size (w.heap.size + 1) s.size (tA p s.data.toList f a) gm gh hb (m' || !b1) ((h').set (i + 1) true)) := hide (by rw [hw1]; exact (unhide HX5).mark (by omega) _)
                  have PN1 := hide ((unhide HP5).mark hb1 (.eps (unhide HCI) (unhide HE1)))
                  have HN := hide ((unhide PN1).next (fun _ _ j hj => by rw [heps] at hj; simp; omega))
                  clear hw1 HR1 PN1 HX5 HP5
                  go_wp2_with fail
                  refine ⟨?_, by simp [intOf]; omega⟩
                  (repeat apply Exists.intro)
                  refine And.intro ?_ (by rw [unhide HAZ] <;> rfl)
                  exact ⟨i + 1, _, _, by go_num, by omega, unhide QN1, by rw [List.length_set]; exact hl', unhide HN⟩
                · have haz : ((a : Int) == 0) = false := by rw [beq_eq_false_iff_ne]; omega
                  have haz2 : ¬ (a : Int) = 0 := by omega
                  have HN := hide ((unhide HP5).next (fun _ _ j hj => by rw [heps] at hj; omega))
                  clear hkind hci HP5
                  go_wp2_with fail
                  exact ⟨⟨i + 1, _, _, by go_num, by omega, unhide HX5, hl', unhide HN⟩, by simp [intOf]; omega⟩
              by_cases h5 : x.k = 5
              · rw [h5] at k0
                by_cases ha0 : a = s.size
                · have hi1 : i + 1 < p.length := by omega
                  have e1 := (heps (i + 1)).2 (.inr (.inr (.inr ⟨h5, by omega, rfl⟩)))
                  have haz : ((a : Int) == (s.size : Int)) = true := by rw [ha0]; exact beq_self_eq_true _
                  have haz2 : (a : Int) = s.size := by omega
                  have HAZ := hide haz2
                  obtain ⟨b1, hb1⟩ : ∃ b, (h')[i + 1]? = some b := ⟨(h')[i + 1]'(by omega), List.getElem?_eq_getElem _⟩
                  have HR1 := hide (runs1_any wr gm gh hb m' b1 (h') (i + 1) (unhide HX5).hx hb1)
                  rw [show ((i + 1 : Nat) : Int) = (i : Int) + 1 by omega] at HR1
                  have HE1 := hide e1
                  have HCI := hide hci
                  clear hkind e1 hci
                  go_wp2_with fail
                  clear k0 k1 k2 hgl y0 y1
                  refine (unhide HR1).mono ?_; rintro e w5 ⟨⟨v1, rfl⟩, _, hw1⟩
                  have QN1 : Hid (QX w w5 w.heap.size (w.heap.size + 1) s.size (tA p s.data.toList f a) gm gh hb (m' || !b1) ((h').set (i + 1) true)) := hide (by rw [hw1]; exact (unhide HX5).mark (by omega) _)
                  have PN1 := hide ((unhide HP5).mark hb1 (.eps (unhide HCI) (unhide HE1)))
                  have HN := hide ((unhide PN1).next (fun _ _ j hj => by rw [heps] at hj; simp; omega))
                  clear hw1 HR1 PN1 HX5 HP5
                  go_wp2_with fail
                  refine ⟨?_, by simp [intOf]; omega⟩
                  (repeat apply Exists.intro)
                  refine And.intro ?_ (by rw [unhide HAZ] <;> rfl)
                  exact ⟨i + 1, _, _, by go_num, by omega, unhide QN1, by rw [List.length_set]; exact hl', unhide HN⟩
                · have haz : ((a : Int) == (s.size : Int)) = false := by rw [beq_eq_false_iff_ne]; omega
                  have haz2 : ¬ (a : Int) = s.size := by omega
                  have HN := hide ((unhide HP5).next (fun _ _ j hj => by rw [heps] at hj; omega))
                  clear hkind hci HP5
                  go_wp2_with fail
                  exact ⟨⟨i + 1, _, _, by go_num, by omega, unhide HX5, hl', unhide HN⟩, by simp [intOf]; omega⟩
              have g2 : (x.k == 2) = false := by simpa using h2
              have g3 : (x.k == 3) = false := by simpa using h3
              have g4 : (x.k == 4) = false := by simpa using h4
              have g5 : (x.k == 5) = false := by simpa using h5
              have HN := hide ((unhide HP5).next (fun _ _ j hj => by rw [heps] at hj; omega))
              clear hkind hci HP5
              go_wp2_with fail
              exact ⟨⟨i + 1, _, _, by go_num, by omega, unhide HX5, hl', unhide HN⟩, by simp [intOf]; omega⟩
        case false =>
          have k9 := hX.hx.more
          have hcome := hide (hdone rfl)
          have r1 := RW.new wr p.length 4
          have bb := (Below.refl wr.heap.size wr).alloc (Nat.le_refl _) (.cells (madeCells #[.bool false] p.length) 4)
          have X6 := hX.below bb
          have hmk1 := (unhide HMK) wr
          have hs1 := hX.s1
          have hs2 := hX.s2
          have hs3 := hX.s3
          have hlt0 := hX.tb.lt
          obtain ⟨W6, hW6⟩ : ∃ W, wr.alloc (.cells (madeCells #[.bool false] p.length) 4) = W := ⟨_, rfl⟩
          rw [hW6] at X6 r1 hmk1
          obtain ⟨nb, hnb⟩ : ∃ q, wr.heap.size = q := ⟨_, rfl⟩
          rw [hnb] at r1 hmk1 hs1 hs2 hs3 hlt0
          have n1 : nb ≠ gm := by omega
          have n2 : nb ≠ gh := by omega
          have n3 : nb ≠ hb := by omega
          have HX6 : Hid (QX w W6 w.heap.size (w.heap.size + 1) s.size (fun u v => if u = f ∧ v = a then false else tA p s.data.toList f a u v) gm gh hb false hs') := hide (X6.congr (fun u v _ _ => tA_none _ _ _ _ u v))
          have HR6 := hide r1
          clear hX X6 r1 bb hdone hA'
          go_wp2_with fail
          clear hW6 hnb hmk1 k9
          go_loopw [13] (fun x w5 => ∃ (i : Nat) (nx : List Bool) (o : Bool), x = .int .i64 i ∧ i ≤ p.length ∧ QX w w5 w.heap.size (w.heap.size + 1) s.size (fun u v => if u = f ∧ v = a then o else tA p s.data.toList f a u v) gm gh hb false hs' ∧ RW w5 nb nx ∧ Pm.NextI p s.data.toList f a i nx o) (fun x _ => p.length - (intOf x).toNat)
          case atStart => exact ⟨0, _, false, rfl, Nat.zero_le _, unhide HX6, unhide HR6, Pm.NextI.start _ _ _ _⟩
          case round =>
            clear HX6 HR6
            obtain ⟨i, nx, o, rfl, hi, hx', hr', hn'⟩ := hrel
            by_cases hlt : i < p.length
            case neg =>
              obtain rfl : i = p.length := by omega
              have hsp := hn'.span (unhide G)
              have X7 := (hx'.congr (fun u v _ _ => tA_next hsp u v)).swap hr' hlt0 n1 n2
              have c7 := hx'.hx.here
              have f7 := hx'.hx.fh
              rw [hn'.size] at X7
              obtain ⟨W7, hW7⟩ : ∃ W, wr.setCell ⟨gh, 0, none⟩ (.slice (some ⟨nb, 0, none⟩) p.length p.length) = W := ⟨_, rfl⟩
              rw [hW7] at X7
              have Y7 := hide X7.toQY
              have hA2 := hide (hn'.at_ (unhide G) hfa)
              have hnl := hn'.size
              clear X7 hx' hr' hn' hsp
              go_wp2_with fail
              exact ⟨⟨a + 1, nb, nx, by go_num, by omega, by omega, unhide Y7, hnl, fun _ => unhide hA2⟩, by simp [intOf]; omega⟩
            obtain ⟨bt, hbt⟩ : ∃ b, hs'[i]? = some b := ⟨hs'[i]'(by omega), List.getElem?_eq_getElem _⟩
            have y0 := hx'.hx.here
            have y1 := hx'.hx.cell i bt hbt
            rw [hlen'] at y0
            have hltI : (i : Int) < p.length := by omega
            obtain ⟨x, hx⟩ : ∃ x, p[i]? = some x := ⟨p[i], List.getElem?_eq_getElem hlt⟩
            obtain ⟨k0, _, _, k3, k4, k5, k6, hgl⟩ := (unhide HC) wr hx'.bel i x hx
            have hfin : Pm.Fin6 p i ↔ x.k = 6 := ⟨fun ⟨y, hy, h⟩ => by rw [hx] at hy; cases hy; exact h, fun h => ⟨x, hx, h⟩⟩
            have hbyt : Pm.Byt p s.data.toList a i (i + 1) ↔ x.k = 1 ∧ ∃ c, s.data.toList[a]? = some c ∧ bit x.s c.toNat = true := ⟨fun ⟨y, c, hy, h1, h2, h3, _⟩ => by rw [hx] at hy; cases hy; exact ⟨h1, c, h2, h3⟩, fun ⟨h1, c, h2, h3⟩ => ⟨x, c, hx, h1, h2, h3, rfl⟩⟩
            cases bt
            · have hno : ¬ Pm.Come p s.data.toList f a i := fun h => by
                have := ((unhide hcome) i).2 h
                unfold Pm.Hr at this; rw [hbt] at this; cases this
              have hn2 := hn'.step (unhide G) (b6 := false) (b1 := false) ⟨fun h => (by cases h), fun h => absurd h.1 hno⟩ ⟨fun h => (by cases h), fun h => absurd h.1 hno⟩
              rw [if_neg (by simp), Bool.or_false] at hn2
              have HN := hide hn2
              have HX7 := hide hx'
              have HR7 := hide hr'
              clear hn' hn2 hx' hr' hno hbyt hfin
              go_wp2_with fail
              go_quiet (fail)
              go_wp2_with fail
              exact ⟨⟨i + 1, _, _, by go_num, by omega, (unhide HX7).below (Go.below_drewN (Below.refl _ _) _), (unhide HR7).below (Go.below_drewN (Below.refl _ _) _), unhide HN⟩, by simp [intOf]; omega⟩
            · have hci := ((unhide hcome) i).1 hbt
              by_cases h6 : x.k = 6
              · rw [h6] at k0
                have hn2 := hn'.step (unhide G) (b6 := true) (b1 := false) ⟨fun _ => ⟨hci, hfin.2 h6⟩, fun _ => rfl⟩ ⟨fun h => (by cases h), fun h => by have := (hbyt.1 h.2).1; omega⟩
                rw [if_neg (by simp), Bool.or_true] at hn2
                have HN := hide hn2
                have t0 := hx'.tb.top f hfs
                have t1 := hx'.tb.cell f a hfs has
                have t2 := hx'.tb.froz f a hfs
                have X7 := (hx'.put hfs has true).congr (T' := (fun u v => if u = f ∧ v = a then true else tA p s.data.toList f a u v)) (fun u v _ _ => by split <;> rfl)
                have R7 := hr'.other (g := w.heap.size + 1 + f) (k := a) (v := .bool true) (by omega)
                obtain ⟨W7, hW7⟩ : ∃ W, wr.setCell ⟨w.heap.size + 1 + f, a, none⟩ (.bool true) = W := ⟨_, rfl⟩
                rw [hW7] at X7 R7
                have z0 := X7.hx.here
                have z1 := X7.hx.cell i true hbt
                rw [hlen'] at z0
                obtain ⟨j0, _, _, _, _, _, _, hgl7⟩ := (unhide HC) W7 X7.bel i x hx
                rw [h6] at j0
                have hltw := hx'.tb.lt
                have hfsI : (f : Int) < (s.size : Int) + 1 := by omega
                have hasI : (a : Int) < (s.size : Int) + 1 := by omega
                have HX7 := hide X7
                have HR7 := hide R7
                clear hn' hn2 hx' hr' hbyt hfin X7 R7
                go_wp2_with fail
                clear hW7 k0 k3 k4 k5 k6 y0 y1 t0 t1 t2
                go_quiet (fail)
                go_wp2_with fail
                exact ⟨⟨i + 1, _, _, by go_num, by omega, (unhide HX7).below (Go.below_drewN (Below.refl _ _) _), (unhide HR7).below (Go.below_drewN (Below.refl _ _) _), unhide HN⟩, by simp [intOf]; omega⟩
              by_cases h1 : x.k = 1
              · rw [h1] at k0
                have hn6 : (false : Bool) = true ↔ Pm.Come p s.data.toList f a i ∧ Pm.Fin6 p i := ⟨fun h => (by cases h), fun h => absurd (hfin.1 h.2) h6⟩
                have hi1 : i + 1 < p.length := by
                  have := (unhide G).kind i x hx; omega
                by_cases hal : a < s.size
                · have haI : (a : Int) < s.size := by omega
                  have hfx := (unhide hfit) x (List.mem_of_getElem? hx)
                  have HIS := hide (fun W => is_any x.s s[a].toNat W hfx (UInt8.toNat_lt _))
                  unfold setV at HIS
                  obtain ⟨b, hb⟩ : ∃ b, bit x.s s[a].toNat = b := ⟨_, rfl⟩
                  have hsa : s.data.toList[a]? = some s[a] := by rw [List.getElem?_eq_getElem (by rw [len_data]; exact hal)]; rfl
                  have hb1 : b = true ↔ Pm.Come p s.data.toList f a i ∧ Pm.Byt p s.data.toList a i (i + 1) := by
                    rw [hbyt]
                    constructor
                    · intro h; exact ⟨hci, h1, s[a], hsa, hb.trans h⟩
                    · rintro ⟨_, _, c, e1, e2⟩
                      rw [hsa] at e1; cases e1; rw [← hb]; exact e2
                  have hn2 := hn'.step (unhide G) hn6 hb1
                  rw [Bool.or_false] at hn2
                  have HN := hide hn2
                  have HX7 := hide hx'
                  have HR7 := hide hr'
                  rw [hb] at HIS
                  have hnl := hn'.size
                  clear hn' hn2 hx' hr' hbyt hfin hn6 hb1 hb hsa hfx
                  have hwr : IntKind.i64.wrap ((s[a].toNat : Nat) : Int) = ((s[a].toNat : Nat) : Int) := wr64 _ (by have := UInt8.toNat_lt s[a]; omega) (by have := UInt8.toNat_lt s[a]; omega)
                  go_wp2_with fail
                  go_still_tail 28, (by kernel_rfl)
                  go_guarded
                  go_step
                  go_at_call 16
                  refine ((unhide HIS) _).mono ?_
                  rintro e w7 ⟨rfl, b7⟩
                  have b7' := bel_trans (Below.refl wr.heap.size wr).drew b7
                  have HX8 := hide ((unhide HX7).below b7')
                  have HR8 := hide ((unhide HR7).below b7')
                  clear b7 b7' HX7 HR7 HIS k0 k3 k4 k5 k6 y0 y1 hgl hwr
                  cases b
                  · go_wp2_with fail
                    exact ⟨⟨i + 1, _, _, by go_num, by omega, unhide HX8, unhide HR8, unhide HN⟩, by simp [intOf]; omega⟩
                  · have hi1I : (i : Int) + 1 < p.length := by omega
                    obtain ⟨bo, hbo⟩ : ∃ b, nx[i + 1]? = some b := ⟨nx[i + 1]'(by omega), List.getElem?_eq_getElem _⟩
                    have u0 := (unhide HR8).cell (i + 1) bo hbo
                    have u1 := (unhide HR8).froz (i + 1)
                    have HX9 := hide ((unhide HX8).beside (k := i + 1) (v := .bool true) hlt0 n1 n2 n3)
                    have HR9 := hide ((unhide HR8).set (t := i + 1) (by omega))
                    clear hbo
                    go_wp2_with fail
                    exact ⟨⟨i + 1, _, _, by go_num, by omega, unhide HX9, unhide HR9, unhide HN⟩, by simp [intOf]; omega⟩
                · have haI : ¬ (a : Int) < s.size := by omega
                  have hn2 := hn'.step (unhide G) (b1 := false) hn6 ⟨fun h => (by cases h), fun h => by
                    obtain ⟨_, c, e1, _⟩ := hbyt.1 h.2
                    rw [List.getElem?_eq_none (by rw [len_data]; omega)] at e1; cases e1⟩
                  rw [if_neg (by simp), Bool.or_false] at hn2
                  have HN := hide hn2
                  have HX7 := hide hx'
                  have HR7 := hide hr'
                  clear hn' hn2 hx' hr' hbyt hfin hn6
                  go_wp2_with fail
                  go_quiet (fail)
                  go_wp2_with fail
                  exact ⟨⟨i + 1, _, _, by go_num, by omega, (unhide HX7).below (Go.below_drewN (Below.refl _ _) _), (unhide HR7).below (Go.below_drewN (Below.refl _ _) _), unhide HN⟩, by simp [intOf]; omega⟩
              have g6 : (x.k == 6) = false := by simpa using h6
              have g1 : (x.k == 1) = false := by simpa using h1
              have hn2 := hn'.step (unhide G) (b6 := false) (b1 := false) ⟨fun h => (by cases h), fun h => absurd (hfin.1 h.2) h6⟩ ⟨fun h => (by cases h), fun h => absurd (hbyt.1 h.2).1 h1⟩
              rw [if_neg (by simp), Bool.or_false] at hn2
              have HN := hide hn2
              have HX7 := hide hx'
              have HR7 := hide hr'
              clear hn' hn2 hx' hr' hbyt hfin
              go_wp2_with fail
              go_quiet (fail)
              go_wp2_with fail
              exact ⟨⟨i + 1, _, _, by go_num, by omega, (unhide HX7).below (Go.below_drewN (Below.refl _ _) _), (unhide HR7).below (Go.below_drewN (Below.refl _ _) _), unhide HN⟩, by simp [intOf]; omega⟩
end Go.Proofs.Ytmgealcolofomaa
