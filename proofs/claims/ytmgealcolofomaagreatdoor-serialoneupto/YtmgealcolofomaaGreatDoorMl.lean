/- Walks: a head is read (the program's). -/
import Derived.Test.YtmgealcolofomaaGreatDoorMk
import Derived.Test.YtmgealcolofomaaGreatDoorMd
namespace Go.Proofs.YtmgealcolofomaaGreatDoor
open Go.RowKit Kb
set_option linter.unusedVariables false
set_option maxRecDepth 20000
open Mh (Fl)

theorem grown_row {w a b : World} {R : Option Nat} {B : Nat} {row : Option Nat} (h : w.grownBy a R) (g : a.grownBy b row) (hB : w.heap.size ≤ B) (hr : ∀ k, row = some k → B ≤ k) : w.grownBy b R := by
  obtain ⟨h1, h2, h3, h4, h5⟩ := h
  obtain ⟨g1, g2, g3, g4, g5⟩ := g
  exact ⟨g1.trans h1, g2.trans h2, g3.trans h3, Nat.le_trans h4 g4, fun k hk hne => (g5 k (Nat.lt_of_lt_of_le hk h4) (fun e => by have := hr k e.symm; omega)).trans (h5 k hk hne)⟩
theorem grown_below' {w a b : World} {R : Option Nat} (h : w.grownBy a R) (g : Below a.heap.size a b) : w.grownBy b R := by
  obtain ⟨h1, h2, h3, h4, h5⟩ := h
  exact ⟨g.os.trans h1, g.tape.trans h2, g.output.trans h3, Nat.le_trans h4 g.size, fun k hk hne => (g.block k (Nat.lt_of_lt_of_le hk h4)).trans (h5 k hk hne)⟩
def hmOf (o : Option (List UInt8 × List UInt8 × List Fl)) : List UInt8 := (o.getD ([], [], [])).1
def htOf (o : Option (List UInt8 × List UInt8 × List Fl)) : List UInt8 := (o.getD ([], [], [])).2.1
def hfOf (o : Option (List UInt8 × List UInt8 × List Fl)) : List Fl := (o.getD ([], [], [])).2.2
set_option maxHeartbeats 8000000 in
theorem read_any (s : ByteArray) (m : Int) (w : World) (hs : s.size ≤ 1048576) (hm : MH m w) (o : Option (List UInt8 × List UInt8 × List Fl)) (ho : Mh.readH s.data.toList = o) :
    Calls Tryz.prog 45 #[.string s] w fun e w' => ∃ v, e = .returned (.tuple #[.agg #[.string (mk (hmOf o)), .string (mk (htOf o)), v], .bool o.isSome]) ∧ w'.ownsRow w.heap.size 39 2 v (hfOf o).length (cellsF (hfOf o)) ∧ Below w.heap.size w w' := by
  obtain ⟨i0, hi, hz0, hz1, hz2⟩ := info_parts infoF
  have HCS := hide (fun W => Tryz.strings_CutSuffix s ⟨#[13, 10, 13, 10]⟩ W (by omega))
  rw [show (⟨#[13, 10, 13, 10]⟩ : ByteArray).data.toList = Mh.crlf ++ Mh.crlf from rfl] at HCS
  unfold Mh.readH at ho
  have hts : Lib.hasSuffix s.data.toList (Mh.crlf ++ Mh.crlf) = true → Lib.trimSuffix s.data.toList (Mh.crlf ++ Mh.crlf) = s.data.toList.take (s.data.toList.length - 4) := fun h => by unfold Lib.trimSuffix; rw [if_pos h]; rfl
  obtain ⟨y, hy⟩ : ∃ y : ByteArray, (⟨(Lib.trimSuffix s.data.toList (Mh.crlf ++ Mh.crlf)).toArray⟩ : ByteArray) = y := ⟨_, rfl⟩
  have hyd : y.data.toList = Lib.trimSuffix s.data.toList (Mh.crlf ++ Mh.crlf) := by rw [← hy]
  have hys : y.size ≤ s.size := by
    rw [← len_data y, hyd]; unfold Lib.trimSuffix; split
    · rw [List.length_take, len_data]; omega
    · rw [len_data]; exact Nat.le_refl _
  rw [hy] at HCS
  rw [← hyd] at hts
  obtain ⟨b, hb⟩ : ∃ b, Lib.hasSuffix s.data.toList (Mh.crlf ++ Mh.crlf) = b := ⟨_, rfl⟩
  rw [hb] at HCS hts ho
  clear hb hy hyd
  have X0 := hide (HX.new (base := w.heap.size) w (Nat.le_refl _) ⟨#[]⟩ ⟨#[]⟩ none 0 0)
  have b0 := (Below.refl w.heap.size w).alloc (Nat.le_refl _) (.cells #[.string ⟨#[]⟩, .string ⟨#[]⟩, .slice none 0 0] 24)
  have HM0 := hide (hm.below b0)
  have B0 := hide b0
  obtain ⟨W0, hW0⟩ : ∃ W0, w.alloc (.cells #[.string ⟨#[]⟩, .string ⟨#[]⟩, .slice none 0 0] 24) = W0 := ⟨_, rfl⟩
  rw [hW0] at X0 B0 HM0
  have HZ : Hid (∀ (W : World) (a b : ByteArray) (v : Value), HX W w.heap.size w.heap.size a b v → Below w.heap.size w W → (loadVar 24 ⟨w.heap.size, 0, none⟩).run Tryz.prog (putH W w.heap.size ⟨#[]⟩ ⟨#[]⟩ (.slice none 0 0)) = .ok (.agg #[.string ⟨#[]⟩, .string ⟨#[]⟩, .slice none 0 0]) (putH W w.heap.size ⟨#[]⟩ ⟨#[]⟩ (.slice none 0 0)) ∧ (putH W w.heap.size ⟨#[]⟩ ⟨#[]⟩ (.slice none 0 0)).ownsRow w.heap.size 39 2 (.slice none 0 0) 0 [] ∧ Below w.heap.size w (putH W w.heap.size ⟨#[]⟩ ⟨#[]⟩ (.slice none 0 0))) :=
    hide (fun W a b v hX hB => ⟨hX.loaded _ _ none 0 0, World.ownsRow_nil _ _ _ _, hB.grown (hX.put _ _ _ rfl).2 hB.size (fun q hq => by have := Option.some.inj hq; omega)⟩)
  have HNONE : Hid (o = none → mk (hmOf o) = ⟨#[]⟩ ∧ mk (htOf o) = ⟨#[]⟩ ∧ o.isSome = false ∧ (hfOf o).length = 0 ∧ cellsF (hfOf o) = []) := hide (fun e => by subst e; exact ⟨rfl, rfl, rfl, rfl, rfl⟩)
  have HO := hide ho
  have HTS := hide hts
  have HM : Hid (∀ W, Below w.heap.size w W → MH m W) := hide (fun W h => hm.below h)
  clear ho hts hm b0
  go_enter Tryz.func45, Tryz.ntmps45
  go_wp2_with fail
  clear hW0
  refine ((unhide HCS) W0).mono ?_; rintro e wx ⟨rfl, hwx⟩; rw [hwx]; clear hwx wx HCS
  cases b
  · have HEE := hide ((unhide HNONE) (by have := unhide HO; rw [if_neg (by simp)] at this; exact this.symm))
    obtain ⟨y0, y1, y2⟩ := (unhide X0).cells
    obtain ⟨f0, f1, f2⟩ := (unhide X0).frozen
    have P1 := hide ((unhide HZ) W0 _ _ _ (unhide X0) (unhide B0))
    clear HNONE HO HZ HTS
    go_wp2_with fail
    (try simp only [Exit.inBlock, Exit.then])
    refine bodyPost_ret_by (v := .tuple #[.agg #[.string ⟨#[]⟩, .string ⟨#[]⟩, .slice none 0 0], .bool false]) ?_ rfl ⟨.slice none 0 0, by rw [(unhide HEE).1, (unhide HEE).2.1, (unhide HEE).2.2.1], by rw [(unhide HEE).2.2.2.1, (unhide HEE).2.2.2.2]; exact (unhide P1).2.1, (unhide P1).2.2⟩
    refine results_ct (p := 2) (u := 3) (ty := 24) ?_ _ _ w.heap.size _ ?_ (unhide P1).1 _ ?_ <;> rfl
  · have HRL : Hid (Mh.readL (Mh.pc Mh.crlf y.data.toList) = o) := hide (by have := unhide HO; rw [if_pos rfl] at this; rw [(unhide HTS) rfl]; exact this)
    have HSP := hide (fun W (hW : MH m W) => split_s ⟨#[13, 10]⟩ y m W (by omega) (by show 1 ≤ 2; decide) hW)
    rw [show (⟨#[13, 10]⟩ : ByteArray).data.toList = Mh.crlf from rfl] at HSP
    have hml : ∀ p ∈ Mh.pc Mh.crlf y.data.toList, p.length ≤ y.size := fun p hp => by
      have := Mh.pc_mem_len Mh.crlf_ne y.data.toList p hp
      rwa [len_data] at this
    have hcl := Mh.pc_len Mh.crlf_ne y.data.toList
    rw [len_data] at hcl
    have hne := Mh.pc_ne Mh.crlf y.data.toList Mh.crlf_ne
    obtain ⟨cs, hcs⟩ : ∃ cs, Mh.pc Mh.crlf y.data.toList = cs := ⟨_, rfl⟩
    rw [hcs] at HSP hml hcl hne HRL
    clear hcs HO HTS
    have hpos : 0 < cs.length := List.length_pos_iff.2 hne
    have HML := hide hml
    clear hml
    go_wp2_with fail
    refine ((unhide HSP) W0 (unhide HM0)).mono ?_; rintro e w1 ⟨rfl, hw1⟩
    have b1 : Below W0.heap.size W0 w1 := by rw [hw1]; exact (Below.refl _ _).alloc (Nat.le_refl _) _
    have HL1 : Hid (LinesAt w1 W0.heap.size cs) := hide (by
      refine ⟨by rw [hw1]; simp, fun j p hp => ?_⟩
      rw [hw1, World.cell?_alloc_new W0 _ _ j]; simp [cellsS, hp])
    have hgW : w.heap.size < W0.heap.size := (unhide X0).lt.2
    obtain ⟨G, hG⟩ : ∃ G, W0.heap.size = G := ⟨_, rfl⟩
    rw [hG] at HL1 hgW
    have B1 := hide (bel_trans (unhide B0) b1)
    have X1 := hide ((unhide X0).below b1)
    have M1 := hide ((unhide HM0).below b1)
    have HCF := hide (containsF_any G cs w1 (unhide HL1) (by omega) (fun p hp => by have := (unhide HML) p hp; omega))
    rw [hG]
    clear b1 hw1 B0 X0 HM0 HSP hG
    unfold Mh.readL at HRL
    obtain ⟨q, hq⟩ : ∃ q, cs.any Mh.broken = q := ⟨_, rfl⟩
    rw [hq] at HCF HRL
    clear hq
    go_wp2_with fail
    refine (unhide HCF).mono ?_; rintro e w2 ⟨rfl, b2⟩
    have B2 := hide (bel_trans (unhide B1) b2)
    have X2 := hide ((unhide X1).below b2)
    have M2 := hide ((unhide M1).below b2)
    have L2 := hide ((unhide HL1).below b2)
    clear b2 B1 X1 M1 HL1 HCF
    cases q
    · obtain ⟨p0, L, rfl⟩ := List.exists_cons_of_ne_nil hne
      have HRL2 : Hid ((match Mh.firstOf p0 with | none => none | some p => match Mh.fieldsOf [] L with | none => none | some fs => some (p.1, p.2, fs)) = o) := hide (by
        have := unhide HRL; rw [if_neg (by simp)] at this; exact this)
      have hp0 := (unhide HML) p0 (by simp)
      have HF := hide (fun W (hW : MH m W) => readFirst_any (mk p0) m W (by rw [mk_size]; omega) hW _ rfl)
      rw [mk_toList] at HF
      have c0 := (unhide L2).2 0 p0 rfl
      obtain ⟨x0, hx0⟩ : ∃ x, mk p0 = x := ⟨_, rfl⟩
      obtain ⟨o1, ho1⟩ : ∃ o1, Mh.firstOf p0 = o1 := ⟨_, rfl⟩
      rw [ho1] at HF HRL2
      rw [hx0] at HF c0
      rw [List.length_cons] at hcl
      clear hx0 ho1 HRL hne hpos hp0
      rw [List.length_cons]
      go_wp2_with fail
      refine ((unhide HF) w2 (unhide M2)).mono ?_; rintro e w3 ⟨rfl, b3⟩
      have B3 := hide (bel_trans (unhide B2) b3)
      have X3 := hide ((unhide X2).below b3)
      have M3 := hide ((unhide M2).below b3)
      have L3 := hide ((unhide L2).below b3)
      clear b3 B2 X2 M2 L2 HF c0
      obtain ⟨a, ha⟩ : ∃ a, mk (fst' o1) = a := ⟨_, rfl⟩
      obtain ⟨b, hb⟩ : ∃ b, mk (snd' o1) = b := ⟨_, rfl⟩
      rw [ha, hb]
      have Y := HX.new (base := w3.heap.size) w3 (Nat.le_refl _) a b none 0 0
      have bb := (Below.refl w3.heap.size w3).alloc (Nat.le_refl _) (.cells #[.string a, .string b, .slice none 0 0] 24)
      have B4 := hide (bel_trans (unhide B3) bb)
      have X4 := hide ((unhide X3).below bb)
      have M4 := hide ((unhide M3).below bb)
      have L4 := hide ((unhide L3).below bb)
      have hgX : w.heap.size < w3.heap.size := (unhide X3).lt.2
      have hgL : G < w3.heap.size := (unhide L3).1
      obtain ⟨g7, hg7⟩ : ∃ g7, w3.heap.size = g7 := ⟨_, rfl⟩
      obtain ⟨W4, hW4⟩ : ∃ W4, w3.alloc (.cells #[.string a, .string b, .slice none 0 0] 24) = W4 := ⟨_, rfl⟩
      rw [hW4] at Y B4 X4 M4 L4
      rw [hg7] at Y hgX hgL
      obtain ⟨v0, v1, v2⟩ := Y.cells
      obtain ⟨e0, e1, e2⟩ := Y.frozen
      have hg74 : g7 < W4.heap.size := Y.lt.2
      obtain ⟨Y', k5⟩ := Y.set2 (.slice none 0 0)
      obtain ⟨W5, hW5⟩ : ∃ W5, W4.setCell ⟨g7, 2, none⟩ (.slice none 0 0) = W5 := ⟨_, rfl⟩
      rw [hW5] at Y' k5
      have B5 := hide ((unhide B4).grown k5 (unhide B4).size (fun q hq => by have := Option.some.inj hq; omega))
      have X5 := hide ((unhide X4).kept k5 (by intro e; have := Option.some.inj e; omega))
      have L5 : Hid (LinesAt W5 G (p0 :: L)) := hide ⟨Nat.lt_of_lt_of_le (unhide L4).1 k5.size, fun j p hp => k5.cell ((unhide L4).2 j p hp) (by intro e; have := Option.some.inj e; have h2 : G = g7 := this; omega)⟩
      have Y5 := hide Y'
      have hg75 : g7 < W5.heap.size := Nat.lt_of_lt_of_le hg74 k5.size
      clear bb B3 X3 M3 L3 Y Y' k5 B4 X4 L4 M4
      cases o1 with
      | none =>
        have HEE := hide ((unhide HNONE) (unhide HRL2).symm)
        obtain ⟨y0, y1, y2⟩ := (unhide X5).cells
        obtain ⟨f0, f1, f2⟩ := (unhide X5).frozen
        have P1 := hide ((unhide HZ) W5 _ _ _ (unhide X5) (unhide B5))
        clear HNONE HRL2 HZ
        go_wp2_with fail
        (try simp only [Exit.inBlock, Exit.then])
        refine bodyPost_ret_by (v := .tuple #[.agg #[.string ⟨#[]⟩, .string ⟨#[]⟩, .slice none 0 0], .bool false]) ?_ rfl ⟨.slice none 0 0, by rw [(unhide HEE).1, (unhide HEE).2.1, (unhide HEE).2.2.1], by rw [(unhide HEE).2.2.2.1, (unhide HEE).2.2.2.2]; exact (unhide P1).2.1, (unhide P1).2.2⟩
        refine results_ct (p := 2) (u := 3) (ty := 24) ?_ _ _ w.heap.size _ ?_ (unhide P1).1 _ ?_ <;> rfl
      | some pr =>
        have HRR : Hid ((match Mh.fieldsOf [] L with | none => none | some fs => some (pr.1, pr.2, fs)) = o) := hide (unhide HRL2)
        have HAB : Hid (mk pr.1 = a ∧ mk pr.2 = b) := hide ⟨ha, hb⟩
        clear HRL2 ha hb
        by_cases hL : L = []
        · subst hL
          have HEE : Hid (mk (hmOf o) = a ∧ mk (htOf o) = b ∧ o.isSome = true ∧ hfOf o = []) := hide (by
            have h := unhide HRR
            rw [Mh.fieldsOf] at h
            subst h; exact ⟨(unhide HAB).1, (unhide HAB).2, rfl, rfl⟩)
          go_wp2_with fail
          clear hW4 hg7 hW5 v0 v1 v2 e0 e1 e2 hg74
          go_loopw [39] (fun i wr => i = .int .i64 0 ∧ wr = W5) (fun _ _ => 0)
          case atStart => exact ⟨rfl, rfl⟩
          case round =>
            obtain ⟨rfl, rfl⟩ := hrel
            obtain ⟨v0, v1, v2⟩ := (unhide Y5).cells
            obtain ⟨y0, y1, y2⟩ := (unhide X5).cells
            obtain ⟨f0, f1, f2⟩ := (unhide X5).frozen
            have P1 := hide ((unhide X5).loaded a b none 0 0)
            have PK := ((unhide X5).put a b (.slice none 0 0) rfl).2
            have P2 := hide ((unhide B5).grown PK (unhide B5).size (fun q hq => by have := Option.some.inj hq; omega))
            clear HNONE HRR HZ PK
            go_wp2_with fail
            (try simp only [Exit.inBlock, Exit.then])
            refine bodyPost_ret_by (v := .tuple #[.agg #[.string a, .string b, .slice none 0 0], .bool true]) ?_ rfl ⟨.slice none 0 0, by rw [(unhide HEE).1, (unhide HEE).2.1, (unhide HEE).2.2.1], by rw [(unhide HEE).2.2.2]; exact World.ownsRow_nil _ _ _ _, unhide P2⟩
            refine results_ct (p := 2) (u := 3) (ty := 24) ?_ _ _ w.heap.size _ ?_ (unhide P1) _ ?_ <;> rfl
        · have hLn : ¬ L.length = 0 := fun e => hL (List.length_eq_zero_iff.1 e)
          go_wp2_with fail
          clear hW4 hg7 hW5 v0 v1 v2 e0 e1 e2 hg74
          go_loopw [39] (fun i wr => ∃ (k : Nat) (acc : List Fl) (o' : Option Addr) (c' : Nat), i = .int .i64 k ∧ k ≤ L.length ∧ acc.length = k ∧ Mh.fieldsOf acc (L.drop k) = Mh.fieldsOf [] L ∧ HX wr g7 g7 a b (.slice o' k c') ∧ wr.ownsRow W5.heap.size 39 2 (.slice o' k c') k (cellsF acc) ∧ W5.grownBy wr (some g7)) (fun i _ => L.length - (intOf i).toNat)
          case atStart => exact ⟨0, [], none, 0, rfl, Nat.zero_le _, rfl, rfl, unhide Y5, World.ownsRow_nil _ _ _ _, World.grownBy.refl _ _⟩
          case round =>
            obtain ⟨k, acc, o', c', rfl, hk, hal, hres, hY, hown, hgr⟩ := hrel
            have YK := hide hY
            have OWN := hide hown
            have GR := hide hgr
            have HAL := hide hal
            have HRS := hide hres
            have hW5r := hgr.size
            have XR := hide ((unhide X5).kept hgr (by intro e; have := Option.some.inj e; omega))
            have BR := hide ((unhide B5).grown hgr (unhide B5).size (fun q hq => by have := Option.some.inj hq; omega))
            have LR : Hid (LinesAt wr G (p0 :: L)) := hide ⟨Nat.lt_of_lt_of_le (unhide L5).1 hgr.size, fun j p hp => hgr.cell ((unhide L5).2 j p hp) (by intro e; have := Option.some.inj e; have h2 : G = g7 := this; omega)⟩
            have MR := hide ((unhide HM) wr (unhide BR))
            clear hY hown hgr hal hres
            by_cases hlt : k < L.length
            · obtain ⟨p, hp⟩ : ∃ p, L[k]? = some p := ⟨L[k], List.getElem?_eq_getElem hlt⟩
              have hl1 := (unhide LR).2 (1 + k) p (by rw [Nat.add_comm]; simpa using hp)
              have hGr := (unhide LR).1
              have hdrop : L.drop k = p :: L.drop (k + 1) := by
                rw [List.drop_eq_getElem_cons hlt]
                have := List.getElem?_eq_getElem hlt
                rw [hp] at this
                rw [← Option.some.inj this]
              have HRS2 : Hid ((match Mh.fieldOf p with | none => none | some f => Mh.fieldsOf (acc ++ [f]) (L.drop (k + 1))) = Mh.fieldsOf [] L) := hide (by have := unhide HRS; rw [hdrop, Mh.fieldsOf] at this; exact this)
              have hpl := (unhide HML) p (List.mem_cons_of_mem _ (List.mem_of_getElem? hp))
              have HRF := hide (fun W (hW : MH m W) => readField_any (mk p) m W (by rw [mk_size]; omega) hW _ rfl)
              rw [mk_toList] at HRF
              obtain ⟨px, hpx⟩ : ∃ x, mk p = x := ⟨_, rfl⟩
              obtain ⟨o2, ho2⟩ : ∃ o2, Mh.fieldOf p = o2 := ⟨_, rfl⟩
              rw [ho2] at HRF HRS2
              rw [hpx] at HRF hl1
              clear hpx ho2 hdrop hp HRS hpl
              go_wp2_with fail
              refine ((unhide HRF) wr (unhide MR)).mono ?_; rintro e w6 ⟨rfl, b6⟩
              obtain ⟨fa, hfa⟩ : ∃ fa, mk (fst' o2) = fa := ⟨_, rfl⟩
              obtain ⟨fb, hfb⟩ : ∃ fb, mk (snd' o2) = fb := ⟨_, rfl⟩
              rw [hfa, hfb]
              have bb := (Below.refl w6.heap.size w6).alloc (Nat.le_refl _) (.cells #[.string fa, .string fb] 39)
              have YK7 := hide (((unhide YK).below b6).below bb)
              have OW7 := hide (own_below (own_below (unhide OWN) b6) bb)
              have GR7 := hide (grown_below' (grown_below' (unhide GR) b6) bb)
              have XR7 := hide (((unhide XR).below b6).below bb)
              have BR7 := hide (bel_trans (bel_trans (unhide BR) b6) bb)
              have F7 := FX.new (base := w6.heap.size) w6 (Nat.le_refl _) fa fb
              have hg6 : g7 < w6.heap.size := ((unhide YK).below b6).lt.2
              obtain ⟨g11, hg11⟩ : ∃ g, w6.heap.size = g := ⟨_, rfl⟩
              obtain ⟨W7, hW7⟩ : ∃ W, w6.alloc (.cells #[.string fa, .string fb] 39) = W := ⟨_, rfl⟩
              rw [hW7] at YK7 OW7 GR7 XR7 BR7 F7
              rw [hg11] at F7 hg6
              obtain ⟨u0, u1⟩ := F7.cells
              have hl11 := F7.lt.2
              clear b6 bb YK OWN GR XR BR LR MR hl1 hGr F7 HRF
              cases o2 with
              | none =>
                have HEE := hide ((unhide HNONE) (by have h := unhide HRR; rw [← unhide HRS2] at h; exact h.symm))
                obtain ⟨y0, y1, y2⟩ := (unhide XR7).cells
                obtain ⟨f0, f1, f2⟩ := (unhide XR7).frozen
                have P1 := hide ((unhide HZ) W7 _ _ _ (unhide XR7) (unhide BR7))
                clear HNONE HRS2 HRR HZ hfa hfb
                go_wp2_with fail
                (try simp only [Exit.inBlock, Exit.then])
                refine bodyPost_ret_by (v := .tuple #[.agg #[.string ⟨#[]⟩, .string ⟨#[]⟩, .slice none 0 0], .bool false]) ?_ rfl ⟨.slice none 0 0, by rw [(unhide HEE).1, (unhide HEE).2.1, (unhide HEE).2.2.1], by rw [(unhide HEE).2.2.2.1, (unhide HEE).2.2.2.2]; exact (unhide P1).2.1, (unhide P1).2.2⟩
                refine results_ct (p := 2) (u := 3) (ty := 24) ?_ _ _ w.heap.size _ ?_ (unhide P1).1 _ ?_ <;> rfl
              | some f =>
                have HAF : Hid (mk f.1 = fa ∧ mk f.2 = fb) := hide ⟨hfa, hfb⟩
                have HRS3 : Hid (Mh.fieldsOf (acc ++ [f]) (L.drop (k + 1)) = Mh.fieldsOf [] L) := hide (unhide HRS2)
                have b3 : k + 1 ≤ maxLen := by unfold maxLen; omega
                have b4 : (k + 1) * 32 ≤ 140737488355328 := by omega
                have hs7 := (unhide GR7).size
                have HAP : Hid (∀ w8 v1, (W7.alloc (.cells #[.string fa, .string fb] 39)).grownBy w8 (Value.slice o' k c').ownBlock → w8.ownsRow W5.heap.size 39 2 v1 (k + 1) (cellsF acc ++ [.string fa, .string fb]) → HX w8 g7 g7 a b (.slice o' k c') ∧ W5.grownBy w8 (some g7)) := hide (fun w8 v1 gr own => by
                  have bal := (Below.refl W7.heap.size W7).alloc (Nat.le_refl _) (.cells #[.string fa, .string fb] 39)
                  have hr : ∀ q, (Value.slice o' k c').ownBlock = some q → W5.heap.size ≤ q := own_lt (unhide OW7)
                  refine ⟨((unhide YK7).below bal).kept gr (fun e => by have := hr g7 e; omega), grown_row (grown_below' (unhide GR7) bal) gr (Nat.le_refl _) hr⟩)
                obtain ⟨v0, v1, v2⟩ := (unhide YK7).cells
                obtain ⟨e0, e1, e2⟩ := (unhide YK7).frozen
                clear HRS2 hfa hfb
                go_wp2_with (at_builtin; refine wpList_append_own _ rfl _ _ 22 rfl W5.heap.size 39 i0 (.agg #[.string ByteArray.empty, .string ByteArray.empty]) 2 32 Tryz.underlying22 hi hz0 hz1 hz2 rfl (by decide) _ k (cellsF acc) rfl ((unhide OW7).alloc _) _ 1 1 _ rfl rfl (cell_two_new _ _ _ _) (by simp [Value.oneCell']) b3 b4 (by simp; omega) ?_; intro vv w8 own8 grow8 _; obtain ⟨Y8, G8⟩ := unhide HAP w8 vv grow8 own8; obtain ⟨oo, cc, rfl⟩ := own_forms own8; obtain ⟨q0, q1, q2⟩ := Y8.cells; obtain ⟨r0, r1, r2⟩ := Y8.frozen; have hl8 := Y8.lt.2)
                obtain ⟨Y9, k9⟩ := Y8.set2 (.slice oo (k + 1) cc)
                have own9 := World.ownsRow.kept own8 k9 (.inr (fun e => by have := (own8.lt g7 e).1; omega))
                refine ⟨⟨k + 1, acc ++ [f], oo, cc, by go_num, by omega, by rw [List.length_append, unhide HAL]; rfl, unhide HRS3, Y9, ?_, G8.trans k9⟩, by simp [intOf]; omega⟩
                rw [cellsF_append]
                show World.ownsRow _ _ _ _ _ _ (cellsF acc ++ [Value.string (mk f.1), Value.string (mk f.2)])
                rw [(unhide HAF).1, (unhide HAF).2]; exact own9
            · obtain rfl : k = L.length := by omega
              have hoe : o = some (pr.1, pr.2, acc) := by
                have h := unhide HRR
                rw [← unhide HRS, List.drop_length, Mh.fieldsOf] at h
                exact h.symm
              have HEE : Hid (mk (hmOf o) = a ∧ mk (htOf o) = b ∧ o.isSome = true ∧ hfOf o = acc) := hide (by rw [hoe]; exact ⟨(unhide HAB).1, (unhide HAB).2, rfl, rfl⟩)
              obtain ⟨v0, v1, v2⟩ := (unhide YK).cells
              obtain ⟨y0, y1, y2⟩ := (unhide XR).cells
              obtain ⟨f0, f1, f2⟩ := (unhide XR).frozen
              have P1 := hide ((unhide XR).loaded a b o' L.length c')
              have PK := ((unhide XR).put a b (.slice o' L.length c') rfl).2
              have P2 := hide ((unhide BR).grown PK (unhide BR).size (fun q hq => by have := Option.some.inj hq; omega))
              have P3 := hide (World.ownsRow.kept (unhide OWN) PK (.inr (fun e => by have := ((unhide OWN).lt w.heap.size e).1; omega)))
              have hb5 := (unhide B5).size
              clear hoe HNONE HRR HZ PK HRS
              go_wp2_with fail
              (try simp only [Exit.inBlock, Exit.then])
              refine bodyPost_ret_by (v := .tuple #[.agg #[.string a, .string b, .slice o' L.length c'], .bool true]) ?_ rfl ⟨.slice o' L.length c', by rw [(unhide HEE).1, (unhide HEE).2.1, (unhide HEE).2.2.1], by rw [(unhide HEE).2.2.2, unhide HAL]; exact own_mono2 (unhide P3) hb5, unhide P2⟩
              refine results_ct (p := 2) (u := 3) (ty := 24) ?_ _ _ w.heap.size _ ?_ (unhide P1) _ ?_ <;> rfl
    · have HEE := hide ((unhide HNONE) (by have := unhide HRL; rw [if_pos rfl] at this; exact this.symm))
      obtain ⟨y0, y1, y2⟩ := (unhide X2).cells
      obtain ⟨f0, f1, f2⟩ := (unhide X2).frozen
      have P1 := hide ((unhide HZ) w2 _ _ _ (unhide X2) (unhide B2))
      clear HNONE HRL HZ
      go_wp2_with fail
      (try simp only [Exit.inBlock, Exit.then])
      refine bodyPost_ret_by (v := .tuple #[.agg #[.string ⟨#[]⟩, .string ⟨#[]⟩, .slice none 0 0], .bool false]) ?_ rfl ⟨.slice none 0 0, by rw [(unhide HEE).1, (unhide HEE).2.1, (unhide HEE).2.2.1], by rw [(unhide HEE).2.2.2.1, (unhide HEE).2.2.2.2]; exact (unhide P1).2.1, (unhide P1).2.2⟩
      refine results_ct (p := 2) (u := 3) (ty := 24) ?_ _ _ w.heap.size _ ?_ (unhide P1).1 _ ?_ <;> rfl
end Go.Proofs.YtmgealcolofomaaGreatDoor
