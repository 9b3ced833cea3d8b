/- Sets of names in memory. -/
import Derived.Test.YtmgealcolofomaaDoorDa
import Derived.Test.YtmgealcolofomaaDoorMe
import Derived.Test.YtmgealcolofomaaDoorProg
import Derived.Maps.OwnSet
import Derived.StringKeys
import Derived.Test.YtmgealcolofomaaDoorMk
import Derived.Test.YtmgealcolofomaaDoorTh
import Derived.Test.YtmgealcolofomaaDoorMl
import Derived.Deep.CutRange
import Derived.Deep.RegionLaw
import Derived.BigRegion
namespace Go.Proofs.YtmgealcolofomaaDoor
open Go.RowKit Kb Go.Maps Go.WideMaps
set_option linter.unusedVariables false
set_option maxRecDepth 20000
open Mh (Fl)

theorem strKeyed : Keyed Tryd.prog 9 := string_keyed Tryd.underlying9
theorem zeroU (w : World) : (zeroValue 70).run Tryd.prog w = .ok (.agg #[]) w := by kernel_rfl
/-- block B is a set of at most n names: those of o -/
def Names (w : World) (B n : Nat) (o : List (List UInt8)) : Prop :=
  ∃ D : DataW Unit, w.ownsMap Tryd.prog 9 unitElem B n D ∧ ∀ l, Go.Maps.has D (.string l) = decide (l ∈ o)
section
variable {w w' : World} {B n : Nat} {o : List (List UInt8)}
theorem Names.made (w : World) : Names (w.alloc (.map #[] 0)) w.heap.size 0 [] := ⟨_, World.ownsMap_made w _ _ _, fun l => rfl⟩
theorem Names.lt (h : Names w B n o) : B < w.heap.size := by obtain ⟨D, h1, _⟩ := h; exact h1.lt
theorem Names.alloc (h : Names w B n o) (x : Obj) : Names (w.alloc x) B n o := by obtain ⟨D, h1, h2⟩ := h; exact ⟨D, h1.alloc x, h2⟩
theorem Names.drew (h : Names w B n o) : Names w.drew B n o := h
theorem Names.mono {n' : Nat} (h : Names w B n o) (hn : n ≤ n') : Names w B n' o := by obtain ⟨D, h1, h2⟩ := h; exact ⟨D, h1.mono hn, h2⟩
theorem Names.below (h : Names w B n o) (b : Below w.heap.size w w') : Names w' B n o := by
  obtain ⟨D, ⟨es, clock, h1, h2⟩, h3⟩ := h
  refine ⟨D, ⟨es, clock, ?_, h2⟩, h3⟩
  rw [b.block B (Array.getElem?_eq_some_iff.1 h1).1]; exact h1
theorem Names.congr {o' : List (List UInt8)} (h : Names w B n o) (e : ∀ l, l ∈ o ↔ l ∈ o') : Names w B n o' := by
  obtain ⟨D, h1, h2⟩ := h; exact ⟨D, h1, fun l => by rw [h2, decide_eq_decide]; exact e l⟩
theorem Names.look (h : Names w B n o) (x : ByteArray) (hx : x.size ≤ maxLen) :
    (Instr.lookup 67 (.map (some B)) (.string x) true).run Tryd.prog w = .ok (.tuple #[.agg #[], .bool (decide (x.data.toList ∈ o))]) w := by
  obtain ⟨D, h1, h2⟩ := h
  obtain ⟨v, ps, hrun, hv⟩ := h1.look_ok strKeyed Tryd.underlying67 (zeroU w) unitElem_mk (keyOf_string_mk Tryd.underlying9 hx)
  obtain ⟨rfl, _⟩ := unitElem_inv hv
  rw [h2] at hrun
  exact hrun
theorem Names.put (h : Names w B n o) (hn : n < maxLen) (x : ByteArray) (hx : x.size ≤ maxLen) :
    ∃ w', (Instr.mapUpdate 67 (.map (some B)) (.string x) (.agg #[])).run Tryd.prog w = .ok () w' ∧ Names w' B (n + 1) (o ++ [x.data.toList]) ∧ w.grownBy w' (some B) := by
  obtain ⟨D, h1, h2⟩ := h
  have hk := keyOf_string_mk (P := Tryd.prog) Tryd.underlying9 hx
  obtain ⟨w', hrun, h3, h4⟩ := h1.update strKeyed Tryd.underlying67 hn hk (unitElem_mk (H := Unit))
  refine ⟨w', hrun, ⟨_, h3, fun l => ?_⟩, h4⟩
  by_cases e : l = x.data.toList
  · subst e
    rw [has_put_same h1.isMap (strKeyed.key hk)]; simp
  · rw [has_put_other (by simpa using e), h2 l, decide_eq_decide]
    simp [e]
theorem Names.below_put (h : Names w B n o) (hg : w.grownBy w' (some B)) {b : Nat} {w0 : World} (hb : Below b w0 w) (hB : b ≤ B) : Below b w0 w' := hb.grown hg (by have := h.lt; omega) (fun q hq => by have := Option.some.inj hq; omega)
end
end Go.Proofs.YtmgealcolofomaaDoor

/- Walk: the names of fields that are for one connection (the program's). -/
namespace Go.Proofs.YtmgealcolofomaaDoor
open Go.RowKit Kb Go.Maps
set_option linter.unusedVariables false
set_option maxRecDepth 20000
open Mh (Fl)



set_option maxHeartbeats 1000000 in
theorem base_puts (W : World) : ∃ w1 w2 w3 w4 w5 w6 w7 w8 : World,
    (Instr.mapUpdate 67 (.map (some W.heap.size)) (.string ⟨#[99, 111, 110, 110, 101, 99, 116, 105, 111, 110]⟩) (.agg #[])).run Tryd.prog (W.alloc (.map #[] 0)) = .ok () w1 ∧
    (Instr.mapUpdate 67 (.map (some W.heap.size)) (.string ⟨#[107, 101, 101, 112, 45, 97, 108, 105, 118, 101]⟩) (.agg #[])).run Tryd.prog w1 = .ok () w2 ∧
    (Instr.mapUpdate 67 (.map (some W.heap.size)) (.string ⟨#[112, 114, 111, 120, 121, 45, 99, 111, 110, 110, 101, 99, 116, 105, 111, 110]⟩) (.agg #[])).run Tryd.prog w2 = .ok () w3 ∧
    (Instr.mapUpdate 67 (.map (some W.heap.size)) (.string ⟨#[116, 101]⟩) (.agg #[])).run Tryd.prog w3 = .ok () w4 ∧
    (Instr.mapUpdate 67 (.map (some W.heap.size)) (.string ⟨#[116, 114, 97, 105, 108, 101, 114]⟩) (.agg #[])).run Tryd.prog w4 = .ok () w5 ∧
    (Instr.mapUpdate 67 (.map (some W.heap.size)) (.string ⟨#[116, 114, 97, 110, 115, 102, 101, 114, 45, 101, 110, 99, 111, 100, 105, 110, 103]⟩) (.agg #[])).run Tryd.prog w5 = .ok () w6 ∧
    (Instr.mapUpdate 67 (.map (some W.heap.size)) (.string ⟨#[117, 112, 103, 114, 97, 100, 101]⟩) (.agg #[])).run Tryd.prog w6 = .ok () w7 ∧
    (Instr.mapUpdate 67 (.map (some W.heap.size)) (.string ⟨#[99, 111, 110, 116, 101, 110, 116, 45, 108, 101, 110, 103, 116, 104]⟩) (.agg #[])).run Tryd.prog w7 = .ok () w8 ∧
    Names w8 W.heap.size 8 Se.base ∧ Below W.heap.size W w8 := by
  have N0 := Names.made W
  have b0 := (Below.refl W.heap.size W).alloc (Nat.le_refl _) (.map #[] 0)
  obtain ⟨w1, r1, N1, g1⟩ := N0.put (by unfold maxLen; omega) ⟨#[99, 111, 110, 110, 101, 99, 116, 105, 111, 110]⟩ (by decide)
  have b1 := N0.below_put g1 b0 (Nat.le_refl _)
  obtain ⟨w2, r2, N2, g2⟩ := N1.put (by unfold maxLen; omega) ⟨#[107, 101, 101, 112, 45, 97, 108, 105, 118, 101]⟩ (by decide)
  have b2 := N1.below_put g2 b1 (Nat.le_refl _)
  obtain ⟨w3, r3, N3, g3⟩ := N2.put (by unfold maxLen; omega) ⟨#[112, 114, 111, 120, 121, 45, 99, 111, 110, 110, 101, 99, 116, 105, 111, 110]⟩ (by decide)
  have b3 := N2.below_put g3 b2 (Nat.le_refl _)
  obtain ⟨w4, r4, N4, g4⟩ := N3.put (by unfold maxLen; omega) ⟨#[116, 101]⟩ (by decide)
  have b4 := N3.below_put g4 b3 (Nat.le_refl _)
  obtain ⟨w5, r5, N5, g5⟩ := N4.put (by unfold maxLen; omega) ⟨#[116, 114, 97, 105, 108, 101, 114]⟩ (by decide)
  have b5 := N4.below_put g5 b4 (Nat.le_refl _)
  obtain ⟨w6, r6, N6, g6⟩ := N5.put (by unfold maxLen; omega) ⟨#[116, 114, 97, 110, 115, 102, 101, 114, 45, 101, 110, 99, 111, 100, 105, 110, 103]⟩ (by decide)
  have b6 := N5.below_put g6 b5 (Nat.le_refl _)
  obtain ⟨w7, r7, N7, g7⟩ := N6.put (by unfold maxLen; omega) ⟨#[117, 112, 103, 114, 97, 100, 101]⟩ (by decide)
  have b7 := N6.below_put g7 b6 (Nat.le_refl _)
  obtain ⟨w8, r8, N8, g8⟩ := N7.put (by unfold maxLen; omega) ⟨#[99, 111, 110, 116, 101, 110, 116, 45, 108, 101, 110, 103, 116, 104]⟩ (by decide)
  have b8 := N7.below_put g8 b7 (Nat.le_refl _)
  exact ⟨w1, w2, w3, w4, w5, w6, w7, w8, r1, r2, r3, r4, r5, r6, r7, r8, N8, b8⟩
theorem lit_own (W : World) (cs : List (List UInt8)) (h : cs.length ≤ 1099511627776) : (W.alloc (.cells (cellsS cs).toArray 9)).ownsRow W.heap.size 9 1 (.slice (some ⟨W.heap.size, 0, none⟩) cs.length cs.length) cs.length (cellsS cs) := by
  have e : (cellsS cs).length = cs.length := by simp [cellsS]
  have := World.ownsRow_lit (e := 9) (size := 1) W (cellsS cs).toArray cs.length (Nat.le_refl W.heap.size) (by unfold maxLen; omega) (by simp [e])
  simpa using this
theorem cellsS_at {cs : List (List UInt8)} {j : Nat} {x : List UInt8} (h : cs[j]? = some x) : (cellsS cs)[j]? = some (.string (mk x)) := by
  rw [cellsS, List.getElem?_map, h]; rfl
set_option maxHeartbeats 4000000 in
theorem own_any (m t : List UInt8) (u : Value) (fs : List Fl) (k : Int) (w : World) (hu : Flds w u fs) (hn : fs.length ≤ 1048576) (hfs : ∀ f ∈ fs, f.1.length + f.2.length ≤ 1048576) (hm : MH k w) :
    Calls Tryd.prog 28 #[headV m t u] w fun e w' => ∃ B n, e = .returned (.map (some B)) ∧ Names w' B n (Se.own fs) ∧ w.heap.size ≤ B ∧ Below w.heap.size w w' := by
  have hgl := Mh.gets_len Se.conn fs
  have HML := hide (fun x (hx : x ∈ Mh.gets Se.conn fs) => show x.length ≤ 1048576 by
    obtain ⟨f, hf, rfl⟩ := gets_from hx
    have := hfs f hf; omega)
  have HG := hide (fun W (h : Below w.heap.size w W) => hget_any m t u fs ⟨#[99, 111, 110, 110, 101, 99, 116, 105, 111, 110]⟩ W (hu.below h) (by decide) (fun f hf => by have := hfs f hf; omega) (Mh.gets Se.conn fs) rfl)
  have HOWN : Hid (Se.own fs = Se.base ++ (Mh.gets Se.conn fs).flatMap Se.nms) := hide rfl
  obtain ⟨gs, hgs⟩ : ∃ gs, Mh.gets Se.conn fs = gs := ⟨_, rfl⟩
  rw [hgs] at hgl HML HG HOWN
  clear hgs
  unfold headV at HG ⊢
  obtain ⟨o, c, rfl, hc⟩ := hu.form
  obtain ⟨x, hx⟩ : ∃ x, mk m = x := ⟨_, rfl⟩
  obtain ⟨y, hy⟩ : ∃ y, mk t = y := ⟨_, rfl⟩
  rw [hx, hy] at HG ⊢
  clear hx hy hu
  have b0 := (Below.refl w.heap.size w).alloc (Nat.le_refl _) (.cells #[.string x, .string y, .slice o fs.length c] 24)
  obtain ⟨z0, z1, z2⟩ := three_newF w (.string x) (.string y) (.slice o fs.length c) 24
  have hlt0 : w.heap.size < (w.alloc (.cells #[.string x, .string y, .slice o fs.length c] 24)).heap.size := by simp
  obtain ⟨W0, hW0⟩ : ∃ W0, w.alloc (.cells #[.string x, .string y, .slice o fs.length c] 24) = W0 := ⟨_, rfl⟩
  rw [hW0] at z0 z1 z2 b0 hlt0
  obtain ⟨w1, w2, w3, w4, w5, w6, w7, w8, r1, r2, r3, r4, r5, r6, r7, r8, N8, b8⟩ := base_puts W0
  have B8 := hide (bel_trans b0 b8)
  have HM8 := hide ((hm.below b0).below b8)
  have NH8 := hide N8
  replace z0 := cell_below z0 hlt0 b8
  replace z1 := cell_below z1 hlt0 b8
  replace z2 := cell_below z2 hlt0 b8
  have hlo : w.heap.size ≤ W0.heap.size := b0.size
  have hmm := @run_makeMap Tryd.prog
  have HMW := hide hm
  clear N8 b8 b0 hm
  go_enter Tryd.func28, Tryd.ntmps28
  go_wp2_with fail
  clear hW0 r1 r2 r3 r4 r5 r6 r7 r8 hmm
  refine ((unhide HG) w8 (unhide B8)).mono ?_; rintro e w9 ⟨v9, rfl, own9, b9⟩
  obtain ⟨vo, vc, rfl⟩ := own_forms own9
  have hBw8 := (unhide NH8).lt
  have NH9 := hide ((unhide NH8).below b9)
  have O9 := hide own9
  have B9 := hide (bel_trans (unhide B8) b9)
  have HM9 := hide ((unhide HM8).below b9)
  clear b9 own9 NH8 B8 HM8 HG z0 z1 z2
  obtain ⟨B, hB⟩ : ∃ B, W0.heap.size = B := ⟨_, rfl⟩
  rw [hB] at NH9 hlo hBw8
  have hBlo : B < w8.heap.size := hBw8
  go_wp2_with fail
  clear hB
  go_loopw [21] (fun x wr => ∃ i n : Nat, x = .int .i64 i ∧ i ≤ gs.length ∧ n ≤ 8 + i * 1048577 ∧ Names wr B n (Se.base ++ (gs.take i).flatMap Se.nms) ∧ wr.ownsRow w8.heap.size 9 1 (.slice vo gs.length vc) gs.length (cellsS gs) ∧ Below w.heap.size w wr) (fun x _ => gs.length - (intOf x).toNat)
  case atStart => exact ⟨0, 8, rfl, Nat.zero_le _, by omega, by simpa using unhide NH9, unhide O9, unhide B9⟩
  case round =>
    obtain ⟨i, n, rfl, hi, hnn, hN, hO, hB⟩ := hrel
    by_cases hlt : i < gs.length
    · obtain ⟨v, hv⟩ : ∃ v, gs[i]? = some v := ⟨gs[i], List.getElem?_eq_getElem hlt⟩
      obtain ⟨g, c', he, hcc⟩ := own_form hO (by omega)
      cases he
      have l0 := (hO.cellAt i (by omega)).trans (cellsS_at hv)
      have hvl := (unhide HML) v (List.mem_of_getElem? hv)
      obtain ⟨a, ha⟩ : ∃ a, mk v = a := ⟨_, rfl⟩
      have hva : v = a.data.toList := by rw [← ha]; simp [mk]
      have has : a.size ≤ 1048576 := by rw [← ha, mk_size]; exact hvl
      rw [ha] at l0
      have hMr : MH k wr := (unhide HMW).below hB
      have HSP := hide (split_s ⟨#[44]⟩ a k wr (by omega) (by show 1 ≤ 1; decide) hMr)
      rw [show (⟨#[44]⟩ : ByteArray).data.toList = [44] from rfl, pc_one] at HSP
      have HMC := hide (fun p (hp : p ∈ Cs.cut 44 a.data.toList) => show p.length ≤ 1048576 by
        have := Mh.pc_mem_len (t := [44]) (by simp) a.data.toList p (by rw [pc_one]; exact hp)
        rw [len_data] at this; omega)
      have hcl := Mh.pc_len (t := [44]) (by simp) a.data.toList
      rw [pc_one, len_data] at hcl
      have HST : Hid ((gs.take (i + 1)).flatMap Se.nms = (gs.take i).flatMap Se.nms ++ (Cs.cut 44 a.data.toList).map fun p => lower (trim p)) := hide (by
        rw [List.take_add_one, hv, hva]; simp [Se.nms])
      obtain ⟨cs, hcs⟩ : ∃ cs, Cs.cut 44 a.data.toList = cs := ⟨_, rfl⟩
      rw [hcs] at HSP HMC hcl HST
      have HN := hide hN
      have HO := hide hO
      have HB := hide hB
      clear hcs hN hO hB ha hva hv hMr hvl
      go_wp2_with fail
      refine (unhide HSP).mono ?_; rintro e w2 ⟨rfl, hw2⟩
      have b2 : Below wr.heap.size wr w2 := by rw [hw2]; exact (Below.refl _ _).alloc (Nat.le_refl _) _
      have OC : w2.ownsRow wr.heap.size 9 1 (.slice (some ⟨wr.heap.size, 0, none⟩) cs.length cs.length) cs.length (cellsS cs) := by rw [hw2]; exact lit_own wr cs (by omega)
      have N2 := hide ((unhide HN).below b2)
      have O2 := hide (own_below (unhide HO) b2)
      have B2 := hide (bel_trans (unhide HB) b2)
      have hBr := (unhide HN).lt
      have hgr := (World.ownsRow.lt (unhide HO) g rfl)
      clear HSP HN HO HB hw2 b2 l0
      obtain ⟨g2, hg2⟩ : ∃ g2, wr.heap.size = g2 := ⟨_, rfl⟩
      rw [hg2] at OC hBr hgr ⊢
      have HOC := hide OC
      clear OC hg2
      obtain ⟨L, hL⟩ : ∃ L, (gs.take i).flatMap Se.nms = L := ⟨_, rfl⟩
      rw [hL] at N2 HST
      clear hL
      go_wp2_with fail
      go_loopw [28] (fun x w3 => ∃ j n2 : Nat, x = .int .i64 j ∧ j ≤ cs.length ∧ n2 ≤ 8 + i * 1048577 + j ∧ Names w3 B n2 (Se.base ++ L ++ (cs.take j).map fun p => lower (trim p)) ∧ w3.ownsRow w8.heap.size 9 1 (.slice (some ⟨g, 0, none⟩) gs.length vc) gs.length (cellsS gs) ∧ w3.ownsRow g2 9 1 (.slice (some ⟨g2, 0, none⟩) cs.length cs.length) cs.length (cellsS cs) ∧ Below w.heap.size w w3) (fun x _ => cs.length - (intOf x).toNat)
      case atStart => exact ⟨0, n, rfl, Nat.zero_le _, by omega, by simpa using unhide N2, unhide O2, unhide HOC, unhide B2⟩
      case round =>
        clear N2 O2 B2 HOC
        obtain ⟨j, n2, rfl, hj, hn2, hN3, hO3, hC3, hB3⟩ := hrel
        by_cases hlt2 : j < cs.length
        · obtain ⟨p, hp⟩ : ∃ p, cs[j]? = some p := ⟨cs[j], List.getElem?_eq_getElem hlt2⟩
          have l0 := (hC3.cellAt j (by omega)).trans (cellsS_at hp)
          have hpl := (unhide HMC) p (List.mem_of_getElem? hp)
          obtain ⟨q, hq⟩ : ∃ q, mk p = q := ⟨_, rfl⟩
          have hpq : p = q.data.toList := by rw [← hq]; simp [mk]
          have hqs : q.size ≤ 1048576 := by rw [← hq, mk_size]; exact hpl
          rw [hq] at l0
          obtain ⟨r, hr⟩ := ex_list (trim q.data.toList)
          have hrs : r.size ≤ 1048576 := by
            have := trim_len q.data.toList
            rw [← hr, len_data, len_data] at this; omega
          obtain ⟨z, hz⟩ := ex_list (lower r.data.toList)
          have hzs : z.size ≤ 1048576 := by
            have := congrArg List.length hz
            rw [len_data] at this; unfold lower at this; rw [List.length_map, len_data] at this; omega
          have HTR := hide (fun W => trim_any q W (by omega))
          have HLW := hide (fun W => lower_any r W (by omega))
          rw [back_list r _ hr] at HTR
          rw [back_list z _ hz] at HLW
          have HPS : Hid ((cs.take (j + 1)).map (fun p => lower (trim p)) = (cs.take j).map (fun p => lower (trim p)) ++ [z.data.toList]) := hide (by
            rw [List.take_add_one, hp, hz, hr, hpq]; simp)
          have HN3 := hide hN3
          have HO3 := hide hO3
          have HC3 := hide hC3
          have HB3 := hide hB3
          clear hN3 hO3 hC3 hB3 hp hq hpq hr hz hpl
          go_wp2_with fail
          refine ((unhide HTR) wr).mono ?_; rintro e w4 ⟨rfl, b4⟩
          have N4 := hide ((unhide HN3).below b4)
          have O4 := hide (own_below (unhide HO3) b4)
          have C4 := hide (own_below (unhide HC3) b4)
          have B4 := hide (bel_trans (unhide HB3) b4)
          clear b4 HTR HN3 HO3 HC3 HB3 l0
          go_wp2_with fail
          refine ((unhide HLW) w4).mono ?_; rintro e w5 ⟨rfl, b5⟩
          have N5 := (unhide N4).below b5
          obtain ⟨w6, r6, N6, g6⟩ := N5.put (by unfold maxLen; omega) z (by unfold maxLen; omega)
          have B6 := hide (N5.below_put g6 (bel_trans (unhide B4) b5) hlo)
          have O6 := hide (World.ownsRow.kept (own_below (unhide O4) b5) g6 (.inr (fun e => by have := (World.ownsRow.lt (unhide O4) B e).1; omega)))
          have C6 := hide (World.ownsRow.kept (own_below (unhide C4) b5) g6 (.inr (fun e => by have := (World.ownsRow.lt (unhide C4) B e).1; omega)))
          have HN6 := hide N6
          clear N5 N6 g6 b5 N4 O4 C4 B4 HLW
          go_wp2_with fail
          refine ⟨?_, by simp [intOf]; omega⟩
          refine ⟨j + 1, n2 + 1, by go_num, by omega, by omega, ?_, unhide O6, unhide C6, unhide B6⟩
          rw [unhide HPS, ← List.append_assoc]; exact unhide HN6
        · obtain rfl : j = cs.length := by omega
          rw [List.take_length] at hN3
          have HN3 := hide hN3
          have HO3 := hide hO3
          have HB3 := hide hB3
          clear hN3 hO3 hC3 hB3
          go_wp2_with fail
          refine ⟨?_, by simp [intOf]; omega⟩
          refine ⟨i + 1, n2, by go_num, by omega, by omega, ?_, unhide HO3, unhide HB3⟩
          rw [unhide HST, ← List.append_assoc]; exact unhide HN3
    · obtain rfl : i = gs.length := by omega
      rw [List.take_length] at hN
      have HN := hide hN
      have HB := hide hB
      clear hN hO hB
      go_wp2_with fail
      go_ret
      exact ⟨B, n, rfl, by rw [unhide HOWN]; exact unhide HN, hlo, unhide HB⟩
end Go.Proofs.YtmgealcolofomaaDoor

/- Walk: a head without what is for one connection (the program's). -/
namespace Go.Proofs.YtmgealcolofomaaDoor
open Go.RowKit Kb Go.Maps
set_option linter.unusedVariables false
set_option maxRecDepth 20000
open Mh (Fl)

theorem results_c1s {fn : Func} {p : Tmp} {ty : TypeId} (h : fn.results = #[.cell p ty]) (tmps : Array Value) (w : World) (g : Nat) (z : Value)
    (hp : tmps.getD p undef = .pointer (some ⟨g, 0, none⟩)) (hl : (loadVar ty ⟨g, 0, none⟩).run Tryd.prog w = .ok z w) :
    (results fn tmps).run Tryd.prog w = .ok z w := by
  have hp' : tmps[p]?.getD undef = .pointer (some ⟨g, 0, none⟩) := by simpa using hp
  simp [results, h, hp', asAddr, hl]
theorem Names.kept {w w' : World} {B n : Nat} {o : List (List UInt8)} {row : Option Nat} (h : Names w B n o) (g : w.grownBy w' row) (hne : some B ≠ row) : Names w' B n o := by
  obtain ⟨D, h1, h2⟩ := h; exact ⟨D, h1.kept g hne, h2⟩
theorem HX.mono {w : World} {b b' g : Nat} {x y : ByteArray} {v : Value} (h : HX w b g x y v) (hb : b' ≤ b) : HX w b' g x y v := own_mono2 h hb
theorem head_alloc {V w3 : World} (bb : Below (V.alloc (.cells #[.string ⟨#[]⟩, .string ⟨#[]⟩, .slice none 0 0] 24)).heap.size (V.alloc (.cells #[.string ⟨#[]⟩, .string ⟨#[]⟩, .slice none 0 0] 24)) w3) :
    HX w3 V.heap.size V.heap.size ⟨#[]⟩ ⟨#[]⟩ (.slice none 0 0) := (HX.new V (Nat.le_refl _) _ _ _ _ _).below bb
theorem head_alloc_d {V w3 : World} (bb : Below (V.alloc (.cells #[.string ⟨#[]⟩, .string ⟨#[]⟩, .slice none 0 0] 24)).drew.heap.size (V.alloc (.cells #[.string ⟨#[]⟩, .string ⟨#[]⟩, .slice none 0 0] 24)).drew w3) :
    HX w3 V.heap.size V.heap.size ⟨#[]⟩ ⟨#[]⟩ (.slice none 0 0) := head_alloc (V := V) ⟨bb.os, bb.tape, bb.output, bb.size, bb.block⟩
set_option maxHeartbeats 8000000 in
theorem strip_any (m t : List UInt8) (u : Value) (fs : List Fl) (k : Int) (w : World) (hu : Flds w u fs) (hn : fs.length ≤ 1048576) (hmt : m.length + t.length ≤ 1048576) (hfs : ∀ f ∈ fs, f.1.length + f.2.length ≤ 1048576) (hm : MH k w) :
    Calls Tryd.prog 9 #[headV m t u] w fun e w' => ∃ v, e = .returned (headV m t v) ∧ w'.ownsRow w.heap.size 57 2 v (Se.strip fs).length (cellsF (Se.strip fs)) ∧ Below w.heap.size w w' := by
  have HON := hide (fun W (h : Below w.heap.size w W) => own_any m t u fs k W (hu.below h) hn hfs (hm.below h))
  have HFS := hide hfs
  have HU := hide hu
  have HST : Hid (Se.strip fs = Se.less (Se.own fs) fs) := hide rfl
  obtain ⟨N, hN⟩ : ∃ N, Se.own fs = N := ⟨_, rfl⟩
  rw [hN] at HON HST
  unfold headV at HON ⊢
  obtain ⟨o, c, rfl, hc⟩ := hu.form
  obtain ⟨i0, hi, hz0, hz1, hz2⟩ := info_parts infoF
  obtain ⟨x, hx⟩ : ∃ x, mk m = x := ⟨_, rfl⟩
  obtain ⟨y, hy⟩ : ∃ y, mk t = y := ⟨_, rfl⟩
  have hxs : x.size ≤ 1048576 := by rw [← hx, mk_size]; omega
  have hys : y.size ≤ 1048576 := by rw [← hy, mk_size]; omega
  rw [hx, hy] at HON ⊢
  clear hx hy hu hN hfs hm
  have X1 := HX.new (base := w.heap.size) w (Nat.le_refl _) x y o fs.length c
  have bb1 := (Below.refl w.heap.size w).alloc (Nat.le_refl _) (.cells #[.string x, .string y, .slice o fs.length c] 24)
  have hs1 : (w.alloc (.cells #[.string x, .string y, .slice o fs.length c] 24)).heap.size = w.heap.size + 1 := by simp
  obtain ⟨W1, hW1⟩ : ∃ W, w.alloc (.cells #[.string x, .string y, .slice o fs.length c] 24) = W := ⟨_, rfl⟩
  rw [hW1] at X1 bb1 hs1
  have X2 := HX.new (base := W1.heap.size) W1 (Nat.le_refl _) ⟨#[]⟩ ⟨#[]⟩ none 0 0
  have bb2 := (Below.refl W1.heap.size W1).alloc (Nat.le_refl _) (.cells #[.string ⟨#[]⟩, .string ⟨#[]⟩, .slice none 0 0] 24)
  obtain ⟨W2, hW2⟩ : ∃ W, W1.alloc (.cells #[.string ⟨#[]⟩, .string ⟨#[]⟩, .slice none 0 0] 24) = W := ⟨_, rfl⟩
  have Y1 := X1.below bb2
  rw [hW2] at X2 bb2 Y1
  have B2 := hide (bel_trans bb1 bb2)
  rw [hs1] at X2
  have HBOX := hide (fun W (h : Below W2.heap.size W2 W) => (⟨(Y1.below h).cells, (X2.below h).cells, (X2.below h).frozen, (X2.below h).lt.2⟩ : (_ ∧ _ ∧ _) ∧ (_ ∧ _ ∧ _) ∧ (_ ∧ _ ∧ _) ∧ _))
  have HRS := hide (fun W (h : Below W2.heap.size W2 W) => X2.below h)
  obtain ⟨⟨a0, a1, a2⟩, ⟨b0, b1, b2⟩, ⟨f0, f1, f2⟩, hl2⟩ := (unhide HBOX) W2 (Below.refl _ _)
  clear X1 X2 Y1 bb1 bb2
  go_enter Tryd.func9, Tryd.ntmps9
  go_wp2_with fail
  clear hW1 hW2
  refine ((unhide HON) W2 (unhide B2)).mono ?_; rintro e w3 ⟨B, n, rfl, hN3, hlo3, b3⟩
  have HN3 := hide hN3
  have BW3 := hide b3
  have HB3 := hN3.lt
  obtain ⟨⟨a0, a1, a2⟩, ⟨b0, b1, b2⟩, ⟨f0, f1, f2⟩, hl3⟩ := (unhide HBOX) w3 b3
  clear hN3 b3 HON
  have HCL : Hid (∀ (x : ByteArray) W, x.size ≤ 1048576 → Calls Tryd.prog 29 #[.string x] W fun e W' => e = .returned (.string x) ∧ Below W.heap.size W W') := hide (fun x W hx => clone_any x W (by omega))
  go_upto_region 2 with fail
  go_cut [4] from 11 to 17 (fun v wx => ∃ g4, v = .pointer (some ⟨g4, 0, none⟩) ∧ HX wx w3.heap.size g4 x y (.slice none 0 0) ∧ Below w3.heap.size w3 wx)
  case first =>
    have HBC : Hid (Below w3.heap.size w3 w3.drew) := hide (Below.refl _ _).drew
    clear b0 b1 b2 f0 f1 f2
    have hl0 : w.heap.size < w3.heap.size := by omega
    go_region_law (go_simp; go_at_call 29; refine ((unhide HCL) _ _ (by assumption)).mono ?_; rintro e w4 ⟨rfl, b4⟩; (try have XA := hide ((unhide XA).below b4)); (try ((with_reducible have qq := head_alloc b4); have XA := hide (qq.mono (b' := w3.heap.size) (by first | exact Nat.le_refl _ | exact (unhide HBC).size)); clear qq)); (try ((with_reducible have qq := head_alloc_d b4); have XA := hide (qq.mono (b' := w3.heap.size) (by first | exact Nat.le_refl _ | exact (unhide HBC).size)); clear qq)); (try (obtain ⟨y0, y1, y2⟩ := (unhide XA).cells; obtain ⟨r0, r1, r2⟩ := (unhide XA).frozen; have hxl := (unhide XA).lt.2)); (try simp only [World.size_drew] at y0 y1 y2 r0 r1 r2 hxl); have hbc := (by first | exact bel_trans (unhide HBC) b4 | exact bel_trans ((unhide HBC).alloc (unhide HBC).size _) b4 | exact bel_trans (((unhide HBC).alloc (unhide HBC).size _).drew) b4 : Below w3.heap.size w3 w4); obtain ⟨⟨a0, a1, a2⟩, _, _, hl1⟩ := (unhide HBOX) w4 (bel_trans (unhide BW3) hbc); have hl0 : w.heap.size < w4.heap.size := (by omega); have HBC := hide hbc; clear hbc b4)
    all_goals (
      go_wp2_with fail
      go_meet
      first
        | exact ⟨_, rfl, (HX.new _ (unhide HBC).size x y none 0 0), (unhide HBC).alloc (unhide HBC).size _⟩
        | exact ⟨_, rfl, ((unhide XA).put x y (.slice none 0 0) rfl).1, (unhide HBC).grown ((unhide XA).put x y (.slice none 0 0) rfl).2 (unhide HBC).size (fun q hq => by have := Option.some.inj hq; have := (unhide XA).lt.1; omega)⟩)
  case rest =>
    obtain ⟨g4, rfl, hX5, hB5⟩ := hcut
    have hg45 := hX5.lt
    have HN5 := hide ((unhide HN3).below hB5)
    have X5 := hide hX5
    have B5 := hide (bel_trans (unhide BW3) hB5)
    obtain ⟨⟨a0, a1, a2⟩, ⟨b0, b1, b2⟩, ⟨f0, f1, f2⟩, hl5⟩ := (unhide HBOX) wc (unhide B5)
    have hW23 := (unhide BW3).size
    clear hX5 hB5 HN3 BW3
    go_wp2_with fail
    clear a0 a1 a2 b0 b1 b2 f0 f1 f2
    go_loopw [21] (fun i wr => ∃ (j : Nat) (acc : List Fl) (o' : Option Addr) (c' : Nat), i = .int .i64 j ∧ j ≤ fs.length ∧ acc = Se.less N (fs.take j) ∧ HX wr w3.heap.size g4 x y (.slice o' acc.length c') ∧ wr.ownsRow wc.heap.size 57 2 (.slice o' acc.length c') acc.length (cellsF acc) ∧ wc.grownBy wr (some g4)) (fun i _ => fs.length - (intOf i).toNat)
    case atStart => exact ⟨0, [], none, 0, rfl, Nat.zero_le _, rfl, unhide X5, World.ownsRow_nil _ _ _ _, ⟨rfl, rfl, rfl, Nat.le_refl _, fun _ _ _ => rfl⟩⟩
    case round =>
      obtain ⟨j, acc, o', c', rfl, hj, hacc, hX, hO, hGR⟩ := hrel
      have HB2 : Hid (Below W2.heap.size W2 wr) := hide ((unhide B5).grown hGR (unhide B5).size (fun q hq => by have := Option.some.inj hq; omega))
      have HNr : Hid (Names wr B n N) := hide ((unhide HN5).kept hGR (fun e => by have := Option.some.inj e; omega))
      have XR := hide hX
      have OR := hide hO
      have GR := hide hGR
      have HACC := hide hacc
      have hal : acc.length ≤ j := by rw [hacc]; exact Nat.le_trans (Se.less_len _ _) (by rw [List.length_take]; omega)
      obtain ⟨⟨a0, a1, a2⟩, ⟨b0, b1, b2⟩, ⟨f0, f1, f2⟩, hlr⟩ := (unhide HBOX) wr (unhide HB2)
      clear hacc hX hO hGR
      by_cases hlt : j < fs.length
      · obtain ⟨f, hf⟩ : ∃ f, fs[j]? = some f := ⟨fs[j], List.getElem?_eq_getElem hlt⟩
        obtain ⟨g, off, c1, hv, hg, hcell⟩ := ((unhide HU).below (bel_trans (unhide B2) (unhide HB2))).at_ (by intro e; rw [e] at hlt; cases hlt)
        cases hv
        obtain ⟨l0, l1⟩ := hcell j f hf
        have hfl := (unhide HFS) f (List.mem_of_getElem? hf)
        have HSN := hide (Se.less_snoc N fs j f hf)
        obtain ⟨a, ha⟩ : ∃ a, mk f.1 = a := ⟨_, rfl⟩
        obtain ⟨b, hb⟩ : ∃ b, mk f.2 = b := ⟨_, rfl⟩
        have ha' : f.1 = a.data.toList := by rw [← ha]; simp [mk]
        have hb' : f.2 = b.data.toList := by rw [← hb]; simp [mk]
        rw [ha] at l0
        rw [hb] at l1
        rw [ha', hb', len_data, len_data] at hfl
        have has : a.size ≤ 1048576 := by omega
        have hbs : b.size ≤ 1048576 := by omega
        obtain ⟨q, hq⟩ := ex_list (lower a.data.toList)
        have HLA := hide (fun W => lower_any a W (by omega))
        rw [back_list q _ hq] at HLA
        have hqs : q.size ≤ 1048576 := by
          have := congrArg List.length hq
          rw [len_data] at this; unfold lower at this; rw [List.length_map, len_data] at this; omega
        rw [ha', ← hq] at HSN
        have HFE : Hid (f = (a.data.toList, b.data.toList)) := hide (by rw [← ha', ← hb'])
        clear ha hb ha' hb' hcell hf hq hfl
        have hlrr : w.heap.size < wr.heap.size := by omega
        have hg4r := (unhide XR).lt
        have F6 := FX.new (base := wr.heap.size) wr (Nat.le_refl _) a b
        have bb := (Below.refl wr.heap.size wr).alloc (Nat.le_refl _) (.cells #[.string a, .string b] 57)
        obtain ⟨g6, hg6⟩ : ∃ g, wr.heap.size = g := ⟨_, rfl⟩
        obtain ⟨W6, hW6⟩ : ∃ W, wr.alloc (.cells #[.string a, .string b] 57) = W := ⟨_, rfl⟩
        have X6 := hide ((unhide XR).below bb)
        have O6 := hide (own_below (unhide OR) bb)
        have G6 := hide (grown_below' (unhide GR) bb)
        have N6 := hide ((unhide HNr).below bb)
        have BB6 := hide (bel_trans (unhide HB2) bb)
        rw [hW6] at F6 X6 O6 G6 N6 BB6
        rw [hg6] at F6 hg4r hlrr hlr
        have F6' := hide F6
        obtain ⟨u0, u1⟩ := F6.cells
        have hl6 := F6.lt.2
        clear F6 bb XR OR GR HNr HB2
        go_wp2_with fail
        clear hW6 hg6 a0 a1 a2 b0 b1 b2 f0 f1 f2 l0 l1
        refine ((unhide HLA) W6).mono ?_; rintro e w7 ⟨rfl, b7⟩
        have X7 := hide ((unhide X6).below b7)
        have O7 := hide (own_below (unhide O6) b7)
        have G7 := hide (grown_below' (unhide G6) b7)
        have N7 := hide ((unhide N6).below b7)
        have BB7 := hide (bel_trans (unhide BB6) b7)
        have F7 := hide ((unhide F6').below b7)
        clear b7 X6 O6 G6 N6 BB6 F6' HLA u0 u1
        have hlk := (unhide N7).look q (by unfold maxLen; omega)
        by_cases hin : q.data.toList ∈ N
        · rw [decide_eq_true hin] at hlk
          have HXX : Hid (Se.less N (fs.take (j + 1)) = acc) := hide (by rw [unhide HSN, if_pos hin, List.append_nil, unhide HACC])
          clear HSN hin
          go_wp2_with fail
          have bb8 := (Below.refl w7.heap.size w7).alloc (Nat.le_refl _) (.cells #[] 70)
          exact ⟨⟨j + 1, acc, o', c', by go_num, by omega, (unhide HXX).symm, (unhide X7).below bb8, own_below (unhide O7) bb8, grown_below' (unhide G7) bb8⟩, by simp [intOf]; omega⟩
        · rw [decide_eq_false hin] at hlk
          have HXX : Hid (Se.less N (fs.take (j + 1)) = acc ++ [(a.data.toList, b.data.toList)]) := hide (by rw [unhide HSN, if_neg hin, unhide HFE, unhide HACC])
          clear HSN hin HACC
          obtain ⟨n1, hn1⟩ : ∃ n1, acc.length = n1 := ⟨_, rfl⟩
          rw [hn1] at X7 O7 hal
          have HN1 := hide hn1
          have bb8 := (Below.refl w7.heap.size w7).alloc (Nat.le_refl _) (.cells #[] 70)
          obtain ⟨W8, hW8⟩ : ∃ W, w7.alloc (.cells #[] 70) = W := ⟨_, rfl⟩
          rw [hW8] at bb8
          have X8 := hide ((unhide X7).below bb8)
          have O8 := hide (own_below (unhide O7) bb8)
          have G8 := hide (grown_below' (unhide G7) bb8)
          have F8 := hide ((unhide F7).below bb8)
          have b3 : n1 + 1 ≤ maxLen := by unfold maxLen; omega
          have b4 : (n1 + 1) * 32 ≤ 140737488355328 := by omega
          clear X7 O7 G7 F7 N7 BB7 bb8 hn1
          go_upto_region 8 with fail
          clear hW8 hlk
          have HFC : Hid (∀ W, Below W8.heap.size W8 W → (W.cell? ⟨g4, 0, none⟩ = some (.string x) ∧ W.cell? ⟨g4, 1, none⟩ = some (.string y) ∧ W.cell? ⟨g4, 2, none⟩ = some (.slice o' n1 c')) ∧ (W.cell? ⟨g6, 0, none⟩ = some (.string a) ∧ W.cell? ⟨g6, 1, none⟩ = some (.string b)) ∧ wc.heap.size ≤ W.heap.size ∧ g4 < W.heap.size) := hide (fun W h => ⟨((unhide X8).below h).cells, ((unhide F8).below h).cells, Nat.le_trans (unhide G8).size h.size, ((unhide X8).below h).lt.2⟩)
          have HAP : Hid (∀ W w10 v1, Below W8.heap.size W8 W → (W.alloc (.cells #[.string a, .string b] 57)).grownBy w10 (Value.slice o' n1 c').ownBlock → w10.ownsRow wc.heap.size 57 2 v1 (n1 + 1) (cellsF acc ++ [.string a, .string b]) → HX w10 w3.heap.size g4 x y (.slice o' n1 c') ∧ wc.grownBy w10 (some g4)) := hide (fun W w10 v1 hbc gr own => by
            have bal := bel_trans hbc ((Below.refl W.heap.size W).alloc (Nat.le_refl _) (.cells #[.string a, .string b] 57))
            have hr : ∀ q, (Value.slice o' n1 c').ownBlock = some q → wc.heap.size ≤ q := own_lt (unhide O8)
            exact ⟨((unhide X8).below bal).kept gr (fun e => by have := hr g4 e; omega), grown_row (grown_below' (unhide G8) bal) gr (Nat.le_refl _) hr⟩)
          have HOW := hide (fun W (h : Below W8.heap.size W8 W) => own_below (unhide O8) h)
          have HBC : Hid (Below W8.heap.size W8 W8.drew) := hide (Below.refl _ _).drew
          obtain ⟨⟨p0, p1, p2⟩, ⟨l0, l1⟩, hsz, hg4w⟩ := (unhide HFC) W8 (Below.refl _ _)
          go_region_law (first
            | (go_simp; go_at_call 29; refine ((unhide HCL) _ _ (by assumption)).mono ?_; rintro e w9 ⟨rfl, b9⟩; have hbc := bel_trans (unhide HBC) b9; obtain ⟨⟨p0, p1, p2⟩, ⟨l0, l1⟩, hsz, hg4w⟩ := (unhide HFC) w9 hbc; have HBC := hide hbc; clear hbc b9)
            | (refine Kb.step_append_owned rfl (.tmp 36) (.tmp 44) 22 rfl wc.heap.size 57 i0 (.agg #[.string ByteArray.empty, .string ByteArray.empty]) 2 32 Tryd.underlying22 hi hz0 hz1 hz2 rfl (by decide) _ n1 (cellsF acc) rfl (((unhide HOW) _ (unhide HBC)).alloc _) _ 1 1 _ rfl rfl (cell_two_new _ _ _ _) (by simp [Value.oneCell']) b3 b4 (by simp; omega) ?_; intro vv w10 own10 grow10; obtain ⟨Y10, G10⟩ := unhide HAP _ w10 vv (unhide HBC) grow10 own10; obtain ⟨oo, cc, rfl⟩ := own_forms own10; obtain ⟨p0, p1, p2⟩ := Y10.cells; obtain ⟨r0, r1, r2⟩ := Y10.frozen; have hl10 := Y10.lt.2))
          all_goals (
            go_wp2_with fail
            obtain ⟨Y11, k11⟩ := Y10.set2 (.slice oo (n1 + 1) cc)
            have own11 := World.ownsRow.kept own10 k11 (.inr (fun e => by have := (own10.lt g4 e).1; omega))
            refine ⟨⟨j + 1, acc ++ [(a.data.toList, b.data.toList)], oo, cc, by go_num, by omega, (unhide HXX).symm, by rw [List.length_append, unhide HN1]; exact Y11, ?_, G10.trans k11⟩, by simp [intOf]; omega⟩
            rw [cellsF_append, List.length_append, unhide HN1]
            show World.ownsRow _ _ _ _ _ _ (cellsF acc ++ [Value.string (mk a.data.toList), Value.string (mk b.data.toList)])
            rw [mk_data, mk_data]; exact own11)
      · obtain rfl : j = fs.length := by omega
        have HE : Hid (Se.strip fs = acc) := hide (by rw [unhide HST, unhide HACC, List.take_length])
        obtain ⟨n1, hn1⟩ : ∃ n1, acc.length = n1 := ⟨_, rfl⟩
        rw [hn1] at XR OR hal
        have HN1 := hide hn1
        have XF := (unhide HRS) wr (unhide HB2)
        obtain ⟨p0, p1, p2⟩ := (unhide XR).cells
        have PK := (XF.put x y (.slice o' n1 c') rfl).2
        have PL := (XF.put x y (.slice o' n1 c') rfl).1
        have P1 := hide PL.load
        have P2 := hide ((bel_trans (unhide B2) (unhide HB2)).grown PK (bel_trans (unhide B2) (unhide HB2)).size (fun q hq => by have := Option.some.inj hq; omega))
        have P3 := hide (World.ownsRow.kept (unhide OR) PK (.inr (fun e => by have := ((unhide OR).lt (w.heap.size + 1) e).1; omega)))
        have hww : w.heap.size ≤ wc.heap.size := by omega
        clear hn1 PK PL XF HACC
        go_wp2_with fail
        (try simp only [Exit.inBlock, Exit.then])
        refine bodyPost_ret_by (v := .agg #[.string x, .string y, .slice o' n1 c']) ?_ rfl ⟨.slice o' n1 c', rfl, by rw [unhide HE, unhide HN1]; exact own_mono2 (unhide P3) hww, unhide P2⟩
        refine results_c1s (p := 2) (ty := 24) ?_ _ _ (w.heap.size + 1) _ ?_ (unhide P1) <;> rfl
end Go.Proofs.YtmgealcolofomaaDoor
