/- However the bytes come, the same requests are told, the same error, and the same waits: whatever is handed in.
   Conditions: what is handed in is of bulk at most 1048576; the library's tables are as the program's text lays them, and its own variable MaxLen holds whatever number. -/
import Derived.Test.YtjpclmkekmkddaaDoorRows
import Derived.Test.YtjpclmkekmkddaaDoorTie
import Derived.Test.YtjpclmkekmkddaaDoorCards
import Derived.WalkKit
import Derived.ProofKit
import Derived.OpenShut
import Derived.ShutString
import Derived.JoinedCond
import Derived.BigQuiet
import Derived.BigRegion
import Derived.Deep.RegionWith
import Derived.Deep.QuietTactic
import Derived.Laws.AppendOwnNone
import Derived.Test.YtjpclmkekmkddaaDoorUr
import Derived.Test.YtjpclmkekmkddaaDoorTi
import Derived.Test.YtjpclmkekmkddaaDoorLaid
import Derived.Stop.LaidErr
namespace Go.Proofs.YtjpclmkekmkddaaDoor.oneCuts
open Go.ChangeShapes Go.WideShapes Go.ChangeAt Go.RowKit
open Go.ChangeMaps (open_string shut_string)
open Kb
open Mh (Fl)
set_option linter.unusedVariables false
set_option maxRecDepth 20000
set_option maxRecDepth 20000

theorem get_text : Mh.text [71, 69, 84] [47] [] = [71, 69, 84, 32, 47, 32, 72, 84, 84, 80, 47, 49, 46, 49, 13, 10, 13, 10] := by
  unfold Mh.text Mh.lines
  rw [List.map_nil, Lib.join_one]
  rfl
theorem get_one : On.one 4096 4096 [71, 69, 84, 32, 47, 32, 72, 84, 84, 80, 47, 49, 46, 49, 13, 10, 13, 10] = .ok (([71, 69, 84], [47], [], []), 18) := by
  have h := On.one_text (m := [71, 69, 84]) (t := [47]) (fs := []) (b := []) (k := 1) (sz := 0) (hd := 4096) (bd := 4096) (by decide) (by rw [get_text]; decide) (Nat.le_refl _) rfl [] [] On.body_none
  rw [get_text] at h
  exact h
theorem no_one : On.one 4096 4096 [] = .error 7 := by
  unfold On.one On.headP
  rw [if_pos (by decide)]
  rfl
theorem get_feed : On.feed 4096 4096 40 [71, 69, 84, 32, 47, 32, 72, 84, 84, 80, 47, 49, 46, 49, 13, 10] 0 [13, 10] = (([], 0), [([71, 69, 84], [47], [], [])], 0) := by
  have ha : On.all 4096 4096 [71, 69, 84, 32, 47, 32, 72, 84, 84, 80, 47, 49, 46, 49, 13, 10, 13, 10] = ([([71, 69, 84], [47], [], [])], [], 7) := by
    rw [On.all_yes (by decide) get_one]
    have : ([71, 69, 84, 32, 47, 32, 72, 84, 84, 80, 47, 49, 46, 49, 13, 10, 13, 10] : List UInt8).drop 18 = [] := rfl
    rw [this, On.all_no no_one]
  have hcat : ([71, 69, 84, 32, 47, 32, 72, 84, 84, 80, 47, 49, 46, 49, 13, 10] ++ [13, 10] : List UInt8) = [71, 69, 84, 32, 47, 32, 72, 84, 84, 80, 47, 49, 46, 49, 13, 10, 13, 10] := rfl
  unfold On.feed
  rw [hcat, show (4096 : Int).toNat = 4096 from rfl, ha]
  rfl
theorem chk12 {hd bd ar s c : Int} (hc : On.chkF hd bd ar 0 0 s = c) (h0 : c ≠ 0) : c = 1 ∨ c = 2 := by
  unfold On.chkF at hc
  by_cases hb : On.bnd hd bd ar ≠ 0
  · rw [if_pos hb] at hc
    left; rw [← hc]
    unfold On.bnd at hb ⊢
    by_cases h : (30 ≤ hd ∧ hd ≤ 4096) ∧ (0 ≤ bd ∧ bd ≤ 4096) ∧ 1 ≤ ar ∧ ar ≤ 40
    · rw [if_pos h] at hb; exact absurd rfl hb
    · rw [if_neg h]
  · rw [if_neg hb] at hc
    by_cases h2 : (65536 : Int) < 0 ∨ 8192 < s
    · rw [if_pos h2] at hc; exact .inr hc.symm
    · rw [if_neg h2, if_neg (show ¬ (0 : Int) ≠ 0 by decide)] at hc; exact absurd hc.symm h0
set_option maxHeartbeats 16000000 in
theorem walk_m (s : ByteArray) (hd bd ar : Int) (v : Value) (zs : List Int) (k : Int) (hb : s.size + zs.length ≤ 1048576) (w : World) (hI : Ints w v zs) (hm : MH k w) :
    Calls Tryd.prog 4 #[.string s, .agg #[.int .i64 hd, .int .i64 bd, .int .i64 ar], v] w fun e w' => e = .returned (.bool true) ∧ Below w.heap.size w w' := by
  obtain ⟨i0, hi, hz0, hz1, hz2⟩ := info_parts infoQ
  have HWD := hide (fun W => wide_any W)
  obtain ⟨pa, pb, pl, hpf, hpl⟩ : ∃ pa pb pl, On.feed 4096 4096 40 [71, 69, 84, 32, 47, 32, 72, 84, 84, 80, 47, 49, 46, 49, 13, 10] 0 [13, 10] = ((pa, pb), pl, 0) ∧ pl.length = 1 := ⟨_, _, _, get_feed, rfl⟩
  have HG := hide (fun W (hW : MH k W) => feed_any ⟨#[71, 69, 84, 32, 47, 32, 72, 84, 84, 80, 47, 49, 46, 49, 13, 10]⟩ 0 4096 4096 40 ⟨#[13, 10]⟩ k W (by decide) hW _ hpf)
  have HFD := hide (fun (rest : ByteArray) (over : Int) (t : ByteArray) (h : rest.size + t.size ≤ 16777216) W (hW : MH k W) o ho => feed_any rest over hd bd ar t k W h hW o ho)
  have HEQ := hide (fun W B C V U l m (h1 : Reqs W B V l) (h2 : Reqs W C U m) (hq : l.map Prod.fst = m.map Prod.fst) (hn : l.length ≤ 1099511627776) => equal_reqs W B C V U l m h1 h2 hq hn)
  have HRS := hide (fun (n m : Int) (hn : -9223372036854775808 ≤ n ∧ n ≤ 9223372036854775807) (h1 : 0 < m) (h2 : m ≤ 1099511627776) W => rest_big2 n m hn h1 h2 W)
  unfold bndV at HWD HG HFD
  dsimp only at HG
  obtain ⟨p1, hp1⟩ : ∃ p, mk pa = p := ⟨_, rfl⟩
  rw [hp1] at HG
  clear hp1 hpf
  obtain ⟨⟨⟨oa, ob⟩, ol, oe⟩, ho⟩ : ∃ o, On.feed hd bd ar [] 0 s.data.toList = o := ⟨_, rfl⟩
  have HF1 := hide (fun W (hW : MH k W) => (unhide HFD) ⟨#[]⟩ 0 s (by show 0 + s.size ≤ _; omega) W hW _ ho)
  dsimp only at HF1
  have HO := hide ho
  obtain ⟨x, hx⟩ : ∃ x, mk oa = x := ⟨_, rfl⟩
  rw [hx] at HF1
  have HX := hide hx
  obtain ⟨vo, vc, rfl, _⟩ := hI.form
  clear hx ho
  obtain ⟨z0, z1, z2⟩ := three_newF w (.int .i64 hd) (.int .i64 bd) (.int .i64 ar) 42
  have b0 := (Below.refl w.heap.size w).alloc (Nat.le_refl _) (.cells #[.int .i64 hd, .int .i64 bd, .int .i64 ar] 42)
  have hl0 : w.heap.size < (w.alloc (.cells #[.int .i64 hd, .int .i64 bd, .int .i64 ar] 42)).heap.size := by simp
  obtain ⟨W0, hW0⟩ : ∃ W, w.alloc (.cells #[.int .i64 hd, .int .i64 bd, .int .i64 ar] 42) = W := ⟨_, rfl⟩
  rw [hW0] at b0 z0 z1 z2 hl0
  have hm0 := hm.below b0
  have hI0 := hI.below b0
  have HVR := hide (fun W (h : Below W0.heap.size W0 W) => (⟨⟨cell_below z0 hl0 h, cell_below z1 hl0 h, cell_below z2 hl0 h⟩, hm0.below h, hI0.below h, bel_trans b0 h⟩ : (W.cell? ⟨w.heap.size, 0, none⟩ = some (.int .i64 hd) ∧ W.cell? ⟨w.heap.size, 1, none⟩ = some (.int .i64 bd) ∧ W.cell? ⟨w.heap.size, 2, none⟩ = some (.int .i64 ar)) ∧ MH k W ∧ Ints W (.slice vo zs.length vc) zs ∧ Below w.heap.size w W))
  clear b0 hm hm0 hI hI0 z0 z1 z2 hl0
  go_enter Tryd.func4, Tryd.ntmps4
  go_wp2_with fail
  clear hW0
  refine ((unhide HWD) W0).mono ?_; rintro e w1 ⟨rfl, b1⟩
  have B1 := hide b1
  clear b1 HWD
  go_wp2_with fail
  refine ((unhide HG) w1 ((unhide HVR) w1 (unhide B1)).2.1).mono ?_; rintro e w2 ⟨V2, l2, rfl, hl2, hR2, _, b2⟩
  obtain ⟨o2, c2, rfl⟩ := own_forms hR2.own
  have hll : l2.length = 1 := by have := congrArg List.length hl2; rw [hpl] at this; simpa using this
  rw [hll]
  have B2 := bel_trans (unhide B1) b2
  clear b2 hl2 hR2 B1 HG
  have bb := (Below.refl w2.heap.size w2).alloc (Nat.le_refl _) (.cells #[.string p1, .int .i64 pb] 45)
  obtain ⟨W3, hW3⟩ : ∃ W, w2.alloc (.cells #[.string p1, .int .i64 pb] 45) = W := ⟨_, rfl⟩
  rw [hW3] at bb
  have B3 := hide (bel_trans B2 bb)
  clear bb B2 hll
  obtain ⟨⟨z0, z1, z2⟩, hm3, _, _⟩ := (unhide HVR) W3 (unhide B3)
  have HM3 := hide hm3
  clear hm3
  go_wp2_with fail
  clear hW3
  refine ((unhide HF1) W3 (unhide HM3)).mono ?_; rintro e w4 ⟨V4, l4, rfl, hl4, hR4, hl4n, b4⟩
  obtain ⟨o4, c4, rfl⟩ := own_forms hR4.own
  have R4 := hR4
  have B4 := bel_trans (unhide B3) b4
  have HL4 := hide hl4
  clear b4 hl4 hR4 B3 HM3 HF1 z0 z1 z2
  have X5 := RX.new (base := w4.heap.size) w4 (Nat.le_refl _) x ob
  have bb := (Below.refl w4.heap.size w4).alloc (Nat.le_refl _) (.cells #[.string x, .int .i64 ob] 45)
  obtain ⟨g5, hg5⟩ : ∃ g, w4.heap.size = g := ⟨_, rfl⟩
  obtain ⟨W5, hW5⟩ : ∃ W, w4.alloc (.cells #[.string x, .int .i64 ob] 45) = W := ⟨_, rfl⟩
  rw [hW5] at bb X5
  rw [hg5] at X5
  have R5 := hide (R4.below bb)
  have Y5 := hide X5
  have B5 := hide (bel_trans B4 bb)
  clear bb X5 R4 B4
  have ho := unhide HO
  rw [On.feed_chk, len_data, List.length_nil] at ho
  obtain ⟨c, hc⟩ : ∃ c, On.chkF hd bd ar 0 0 s.size = c := ⟨_, rfl⟩
  rw [show ((0 : Nat) : Int) = 0 from rfl, hc] at ho
  by_cases h0 : c = 0
  case neg =>
    rw [if_pos h0] at ho
    injection ho with e1 e2; injection e1 with e1 e3; injection e2 with e2 e4
    have hle : l4 = [] := List.map_eq_nil_iff.1 (by rw [unhide HL4, ← e2])
    have hc12 : c = 1 ∨ c = 2 := chk12 hc h0
    have HFIN := hide ((unhide HVR) W5 (unhide B5)).2.2.2
    subst e4 hle
    rw [List.length_nil]
    clear e1 e2 e3 HX HO HL4 HEQ HRS HFD R5 hc h0
    rcases hc12 with rfl | rfl
    · go_wp2_with fail
      go_ret
      exact ⟨rfl, unhide HFIN⟩
    · go_wp2_with fail
      go_ret
      exact ⟨rfl, unhide HFIN⟩
  subst h0
  obtain ⟨hbn, _, hs8, _⟩ := On.chkF_ok hc
  have h0d := (On.bnd_ok hbn).2.1.1
  have h30 : 30 ≤ hd.toNat := by have := (On.bnd_ok hbn).1.1; omega
  have he12 : oe = 0 ∨ oe = 4 ∨ oe = 5 ∨ oe = 6 := by
    have hae := On.all_errs (hd := hd.toNat) h0d ([] ++ s.data.toList)
    rw [if_neg (by decide)] at ho
    split at ho
    · injection ho with e1 e2; injection e2 with e2 e4; exact .inl e4.symm
    · rename_i h7
      injection ho with e1 e2; injection e2 with e2 e4
      omega
  have he1 : (oe == 1) = false := by rcases he12 with h | h | h | h <;> rw [h] <;> rfl
  have he2 : (oe == 2) = false := by rcases he12 with h | h | h | h <;> rw [h] <;> rfl
  have HB := hide hbn
  have hs8' : s.size ≤ 8192 := by omega
  have HST := hide (On.cut_start (bd := bd) h30 s.data.toList)
  clear he12 ho hc hbn hs8
  have X6 := RX.new (base := W5.heap.size) W5 (Nat.le_refl _) ⟨#[]⟩ 0
  have bb := (Below.refl W5.heap.size W5).alloc (Nat.le_refl _) (.cells #[.string ⟨#[]⟩, .int .i64 0] 45)
  have hs6 : W5.heap.size + 1 = (W5.alloc (.cells #[.string ⟨#[]⟩, .int .i64 0] 45)).heap.size := by simp
  obtain ⟨gX, hgX⟩ : ∃ g, W5.heap.size = g := ⟨_, rfl⟩
  obtain ⟨W6, hW6⟩ : ∃ W, W5.alloc (.cells #[.string ⟨#[]⟩, .int .i64 0] 45) = W := ⟨_, rfl⟩
  rw [hW6] at bb X6 hs6
  rw [hgX] at X6 hs6
  have B6 := hide bb
  have Y6 := hide X6
  have HGX := hide hgX
  clear bb X6
  go_wp2_with fail
  clear hW5 hg5 hW6 hgX
  go_loopw [0, 14, 15, 16] (fun a b c d wr => ∃ (t : ByteArray) (m : List RV) (f : Int) (i : Nat) (xr : ByteArray) (xo : Int), a = .string t ∧ c = .int .i64 f ∧ d = .int .i64 (i : Int) ∧ t.size ≤ s.size ∧ i ≤ zs.length + 1 ∧ On.CutI hd.toNat bd s.data.toList t.data.toList (m.map Prod.fst) f xr.data.toList xo ∧ (i = zs.length + 1 → f ≠ 0 ∨ t.size = 0) ∧ xr.size ≤ 16777216 ∧ Reqs wr (gX + 1) b m ∧ RX wr gX gX xr xo ∧ Below W5.heap.size W5 wr ∧ gX + 1 ≤ wr.heap.size) (fun _ _ _ d _ => zs.length + 1 - (intOf d).toNat)
  case atStart => exact ⟨s, [], 0, 0, ⟨#[]⟩, 0, rfl, rfl, rfl, Nat.le_refl _, Nat.zero_le _, unhide HST, fun h => by omega, by decide, Reqs.nil _ _, unhide Y6, unhide B6, Nat.le_of_eq hs6⟩
  case round =>
    obtain ⟨t, m, f, i, xr, xo, rfl, rfl, rfl, hts, hiz, hcut, hlast, hxrs, hRm, hXr, hbel, hgs⟩ := hrel
    obtain ⟨mo, mc, rfl⟩ := own_forms hRm.own
    obtain ⟨⟨z0, z1, z2⟩, hmr, hIr, hfin⟩ := (unhide HVR) wr (bel_trans (unhide B5) hbel)
    have RM := hide hRm
    have XR := hide hXr
    have BE := hide hbel
    have HMR := hide hmr
    have HIR := hide hIr
    have HFIN := hide hfin
    have CUT := hide hcut
    have LAST := hide hlast
    clear hRm hXr hbel hmr hIr hfin hcut hlast
    by_cases hf : f = 0
    case neg =>
      have hfb : (f == 0) = false := by simpa using hf
      have HEND := hide (On.cut_end (unhide HB) (by rw [len_data]; omega) (unhide CUT) (.inl hf))
      clear hf
      clear CUT LAST HST HFD HRS HMR HIR z0 z1 z2 
      obtain ⟨y0, y1⟩ := (unhide XR).cells
      obtain ⟨q0, q1⟩ := ((unhide Y5).below (unhide BE)).cells
      have HEE : Hid (oa = xr.data.toList ∧ ob = xo ∧ ol = m.map Prod.fst ∧ oe = f) := hide (by
        have h1 := (unhide HO).symm.trans (unhide HEND)
        injection h1 with e1 e2; injection e1 with e1 e3; injection e2 with e2 e4
        exact ⟨e1, e3, e2, e4⟩)
      obtain ⟨g1, g2, g3, g4⟩ := unhide HEE
      have hxx : x = xr := by rw [← unhide HX, g1, mk_data]
      have HS := hide ((unhide HEQ) wr _ _ _ _ l4 m ((unhide R5).below (unhide BE)) (unhide RM) (by rw [unhide HL4, g3]) (by omega))
      subst g2 g4 hxx
      have hxe := eq_tq x
      clear HEE HEND HO HX HL4 HEQ R5 RM Y5 XR g1 g3
      go_wp2_with fail
      refine (unhide HS).mono ?_; rintro e w9 ⟨rfl, b9⟩
      have HF9 := hide (bel_trans (unhide HFIN) b9)
      clear b9 HS HFIN y0 y1 q0 q1
      go_wp2_with fail
      go_ret
      exact ⟨rfl, unhide HF9⟩
    by_cases hii : i ≤ zs.length
    case neg =>
      have hi1 : i = zs.length + 1 := by omega
      have hiI : ¬ ((i : Int) ≤ zs.length) := by omega
      have HEND := hide (On.cut_end (unhide HB) (by rw [len_data]; omega) (unhide CUT) (by
        rcases (unhide LAST) hi1 with h | h
        · exact .inl h
        · exact .inr (List.length_eq_zero_iff.1 (by rw [len_data]; exact h))))
      subst hf
      clear hi1 hii
      clear CUT LAST HST HFD HRS HMR HIR z0 z1 z2 
      obtain ⟨y0, y1⟩ := (unhide XR).cells
      obtain ⟨q0, q1⟩ := ((unhide Y5).below (unhide BE)).cells
      have HEE : Hid (oa = xr.data.toList ∧ ob = xo ∧ ol = m.map Prod.fst ∧ oe = 0) := hide (by
        have h1 := (unhide HO).symm.trans (unhide HEND)
        injection h1 with e1 e2; injection e1 with e1 e3; injection e2 with e2 e4
        exact ⟨e1, e3, e2, e4⟩)
      obtain ⟨g1, g2, g3, g4⟩ := unhide HEE
      have hxx : x = xr := by rw [← unhide HX, g1, mk_data]
      have HS := hide ((unhide HEQ) wr _ _ _ _ l4 m ((unhide R5).below (unhide BE)) (unhide RM) (by rw [unhide HL4, g3]) (by omega))
      subst g2 g4 hxx
      have hxe := eq_tq x
      clear HEE HEND HO HX HL4 HEQ R5 RM Y5 XR g1 g3
      go_wp2_with fail
      refine (unhide HS).mono ?_; rintro e w9 ⟨rfl, b9⟩
      have HF9 := hide (bel_trans (unhide HFIN) b9)
      clear b9 HS HFIN y0 y1 q0 q1
      go_wp2_with fail
      go_ret
      exact ⟨rfl, unhide HF9⟩
    have hiI : (i : Int) ≤ zs.length := by omega
    have hxl : xr.size ≤ 15000000 := by
      rcases unhide CUT with ⟨_, _, d, hd1, ha⟩ | ⟨h, _⟩
      · have := On.all_len (hd := hd.toNat) h0d d
        rw [ha] at this
        dsimp only at this
        rw [len_data] at this
        have h2 := congrArg List.length hd1
        rw [List.length_append, len_data] at h2
        omega
      · exact absurd hf h
    subst hf
    obtain ⟨y0, y1⟩ := (unhide XR).cells
    obtain ⟨f0, f1⟩ := (unhide XR).frozen
    by_cases hlt : i < zs.length
    · have hltI : (i : Int) < zs.length := by omega
      have hne : zs ≠ [] := by intro e; rw [e] at hlt; cases hlt
      obtain ⟨z, hz⟩ : ∃ z, zs[i]? = some z := ⟨zs[i], List.getElem?_eq_getElem hlt⟩
      obtain ⟨gz, oz, cz, hvz, hgz, hcz⟩ := (unhide HIR).at_ hne
      cases hvz
      have hzc := hcz i z hz
      have hzf := (unhide HIR).fits z (List.mem_of_getElem? hz)
      obtain ⟨n, hn⟩ : ∃ n : Nat, z % ((t.size : Int) + 1) = (n : Int) := ⟨(z % ((t.size : Int) + 1)).toNat, (Int.toNat_of_nonneg (Int.emod_nonneg z (show ((t.size : Int) + 1) ≠ 0 by omega))).symm⟩
      have hnt : n ≤ t.size := by have := Int.emod_lt_of_pos z (show (0 : Int) < (t.size : Int) + 1 by omega); rw [hn] at this; omega
      have HRR := hide ((unhide HRS) z ((t.size : Int) + 1) hzf (by omega) (by omega))
      rw [hn] at HRR
      have HNL : Hid (i + 1 = zs.length + 1 → n = t.size) := hide (fun h => by omega)
      clear hz hcz hzf hn hne
      obtain ⟨p, hp⟩ : ∃ p, t.extract 0 n = p := ⟨_, rfl⟩
      obtain ⟨r, hr⟩ : ∃ r, t.extract n t.size = r := ⟨_, rfl⟩
      have hpl : p.data.toList = t.data.toList.take n := by rw [← hp]; exact take_data _ _
      have hrl : r.data.toList = t.data.toList.drop n := by rw [← hr]; exact extract_drop _ _
      have HRZ : Hid (r.size = t.size - n) := hide (by rw [← hr]; simp)
      have HRE : Hid (t.size = n → r = ByteArray.empty) := hide (fun h => by apply eq_of_lists; rw [← hr, extract_drop, List.drop_of_length_le (by rw [len_data]; omega)]; rfl)
      have hps : p.size ≤ 1048576 := by rw [← hp]; simp; omega
      have hntI : ((n : Nat) : Int) ≤ t.size := by omega
      obtain ⟨⟨⟨ya, yb⟩, yl, ye⟩, hy⟩ : ∃ o, On.feed hd bd ar xr.data.toList xo p.data.toList = o := ⟨_, rfl⟩
      have HFE := hide ((unhide HFD) xr xo p (by omega) wr (unhide HMR) _ hy)
      have HFE' := hide ((unhide HFD) xr xo p (by omega) wr.drew ((unhide HMR).below (Below.refl _ _).drew) _ hy)
      dsimp only at HFE HFE'
      rw [hpl] at hy
      have hst := On.cut_step (unhide HB) (by rw [len_data]; omega) (unhide CUT) rfl (n) _ hy
      dsimp only at hst
      rw [← hrl] at hst
      have HST2 := hide hst
      obtain ⟨y, hyy⟩ : ∃ y, mk ya = y := ⟨_, rfl⟩
      rw [hyy] at HFE HFE'
      have HYY : Hid (y.data.toList = ya) := hide (by rw [← hyy, mk_toList])
      have HYS : Hid (y.size ≤ 16777216) := hide (by
        rcases hst.1 with ⟨_, _, d, hd1, ha⟩ | ⟨_, _, _, h, _⟩
        · have := On.all_len (hd := hd.toNat) h0d d
          rw [ha] at this
          dsimp only at this
          have h2 := congrArg List.length hd1
          rw [List.length_append, len_data] at h2
          rw [← hyy, mk_size]; omega
        · rw [← hyy, mk_size, h]; exact Nat.zero_le _)
      clear hy hst hpl hrl hyy CUT HST HO
      go_wp2_with fail
      refine ((unhide HRR) wr).mono ?_; rintro e wx ⟨rfl, hwx⟩; rw [hwx]; clear hwx wx
      clear hzc HRR
      go_wp2_with fail
      go_region_with ((go_at_call 11); (first | refine (unhide HFE).mono ?_ | refine (unhide HFE').mono ?_); rintro e w7 ⟨V7, l7, rfl, hl7, hR7, hl7n, b7⟩; obtain ⟨ko, kc, rfl⟩ := own_forms hR7.own; have hb7 : Below wr.heap.size wr w7 := (by first | exact b7 | exact bel_trans (Below.refl _ _).drew b7); have X7 := (unhide XR).below hb7; obtain ⟨q0, q1⟩ := X7.cells; obtain ⟨r0, r1⟩ := X7.frozen; have HX7 := hide X7; have HB7 := hide hb7; have HR7 : Hid (Reqs w7 (gX + 1) (.slice ko l7.length kc) l7) := hide (hR7.mono hgs); have HL7 := hide hl7; clear b7 hb7 X7 hR7 hl7)
      all_goals (
        clear q0 q1 r0 r1 y0 y1 f0 f1 z0 z1 z2 HFE HFE' HFD
        obtain ⟨P8, G8⟩ := (unhide HX7).put y yb
        have hlt7 := (unhide HX7).lt.2
        have hs57 : W5.heap.size ≤ w7.heap.size := Nat.le_trans (unhide BE).size (unhide HB7).size
        have BE8 := ((bel_trans (unhide BE) (unhide HB7)).grown G8 hs57 (fun q hq => by have := Option.some.inj hq; have := unhide HGX; omega))
        have RM8 := ((unhide RM).below (unhide HB7)).kept G8 (fun q hq => by have := Option.some.inj hq; omega)
        have RL8 := (unhide HR7).kept G8 (fun q hq => by have := Option.some.inj hq; omega)
        have hs8 : gX + 1 ≤ (putR w7 gX y yb).heap.size := by have := G8.size; omega
        have hs58 : W5.heap.size ≤ (putR w7 gX y yb).heap.size := Nat.le_trans hs57 G8.size
        obtain ⟨W8, hW8⟩ : ∃ W, putR w7 gX y yb = W := ⟨_, rfl⟩
        rw [hW8] at P8 BE8 RM8 RL8 hs8 hs58
        unfold putR at hW8
        have hll : l7.length ≤ 16384 := by have h1 := (unhide HST2).2.1; have h2 := congrArg List.length (unhide HL7); rw [List.length_map] at h2; omega
        have hml : m.length ≤ 8192 := by have h1 := (unhide HST2).2.2; rw [List.length_map] at h1; exact h1
        have b3 : m.length + l7.length ≤ maxLen := by unfold maxLen; omega
        have b4 : (m.length + l7.length) * 72 ≤ 140737488355328 := by omega
        have HENDR : Hid (∀ (W : World) (V : Value), Reqs W (gX + 1) V (m ++ l7) → RX W gX gX y yb → Below W5.heap.size W5 W → gX + 1 ≤ W.heap.size →
            ∃ (t' : ByteArray) (m' : List RV) (f' : Int) (i' : Nat) (xr' : ByteArray) (xo' : Int), Value.string r = .string t' ∧ Value.int .i64 ye = .int .i64 f' ∧ Value.int .i64 ((i : Int) + 1) = .int .i64 (i' : Int) ∧ t'.size ≤ s.size ∧ i' ≤ zs.length + 1 ∧ On.CutI hd.toNat bd s.data.toList t'.data.toList (m'.map Prod.fst) f' xr'.data.toList xo' ∧ (i' = zs.length + 1 → f' ≠ 0 ∨ t'.size = 0) ∧ xr'.size ≤ 16777216 ∧ Reqs W (gX + 1) V m' ∧ RX W gX gX xr' xo' ∧ Below W5.heap.size W5 W ∧ gX + 1 ≤ W.heap.size) := hide (fun W V h1 h2 h3 h4 => by
          refine ⟨r, m ++ l7, ye, i + 1, y, yb, rfl, rfl, by rw [Int.natCast_add]; rfl, ?_, by omega, ?_, ?_, unhide HYS, h1, h2, h3, h4⟩
          · rw [unhide HRZ]; omega
          · rw [List.map_append, unhide HL7, unhide HYY]; exact (unhide HST2).1
          · intro h
            right
            rw [unhide HRZ]
            have := (unhide HNL) h
            omega)
        have OWN := hide RM8.own
        have HP8 := hide P8
        have HBE8 := hide BE8
        have HRM8 := hide RM8
        have HRL8 := hide RL8
        clear P8 G8 BE8 RM8 RL8 HX7 HB7 HR7 RM XR BE HST2 HL7 HYY HRZ HNL HYS
        rcases (unhide HRL8).own.2 with ⟨hnil, hn0⟩ | ⟨gk, capk, curk, hk, _⟩
        · have hl0 : l7 = [] := List.length_eq_zero_iff.1 hn0
          rw [hnil]
          go_wp2_with (at_builtin; refine wpList_append_own_none rfl _ _ 46 rfl (gX + 1) 56 i0 4 Tryd.underlying46 hi _ m.length (cellsQ m) rfl (unhide OWN) rfl ?_)
          clear hW8
          obtain ⟨t', m', f', i', xr', xo', g1, g2, g3, g4⟩ := (unhide HENDR) W8 (.slice mo m.length mc) (by rw [hl0, List.append_nil]; exact unhide HRM8) (unhide HP8) (unhide HBE8) hs8
          exact ⟨⟨t', m', f', i', xr', xo', (by first | exact g1 | (rw [← (unhide HRE) (by trivial)]; exact g1)), g2, by first | exact g3 | (go_num; done) | (go_num; exact g3), g4⟩, by simp [intOf]; omega⟩
        · cases hk
          have hnews : ∀ j u, (cellsQ l7)[j]? = some u → W8.cell? ((⟨gk, 0, none⟩ : Addr).add j) = some u := by
            intro j u hj
            have hjl : j < l7.length * 4 := by have h1 := (List.getElem?_eq_some_iff.1 hj).1; have h2 := (unhide HRL8).own.1; omega
            have := (unhide HRL8).own.cellAt j hjl
            rw [add_plain, Nat.zero_add, this]; exact hj
          have HNW := hide hnews
          clear hnews
          go_wp2_with (at_builtin; refine wpList_append_own _ rfl _ _ 46 rfl (gX + 1) 56 i0 (.agg #[.string ByteArray.empty, .string ByteArray.empty, .slice none 0 0, .string ByteArray.empty]) 4 72 Tryd.underlying46 hi hz0 hz1 hz2 rfl (by decide) _ m.length (cellsQ m) rfl (unhide OWN) _ l7.length _ (cellsQ l7) rfl (unhide HRL8).own.1 (unhide HNW) (unhide HRL8).oneCells b3 b4 hs8 ?_; intro vv w9 own9 grow9 _; have HR9 := hide ((unhide HRM8).push (unhide HRL8).rows own9 grow9); have HX9 := hide ((unhide HP8).kept grow9 (fun e => by have := own_lt (unhide OWN) gX e; omega)); have HB9 := hide ((unhide HBE8).grown grow9 hs58 (fun q hq => by have := own_lt (unhide OWN) q hq; have := unhide HGX; omega)); have hs9 : gX + 1 ≤ w9.heap.size := Nat.le_trans hs8 grow9.size; clear own9 grow9)
          clear hW8
          obtain ⟨t', m', f', i', xr', xo', g1, g2, g3, g4⟩ := (unhide HENDR) w9 vv (unhide HR9) (unhide HX9) (unhide HB9) hs9
          exact ⟨⟨t', m', f', i', xr', xo', (by first | exact g1 | (rw [← (unhide HRE) (by trivial)]; exact g1)), g2, by first | exact g3 | (go_num; done) | (go_num; exact g3), g4⟩, by simp [intOf]; omega⟩
      )

    · have hltI : ¬ (i : Int) < zs.length := by omega
      have hnt : t.size ≤ t.size := Nat.le_refl _
      have HNL : Hid (i + 1 = zs.length + 1 → t.size = t.size) := hide (fun _ => rfl)
      obtain ⟨p, hp⟩ : ∃ p, t.extract 0 t.size = p := ⟨_, rfl⟩
      obtain ⟨r, hr⟩ : ∃ r, t.extract t.size t.size = r := ⟨_, rfl⟩
      have hpl : p.data.toList = t.data.toList.take t.size := by rw [← hp]; exact take_data _ _
      have hrl : r.data.toList = t.data.toList.drop t.size := by rw [← hr]; exact extract_drop _ _
      have HRZ : Hid (r.size = t.size - t.size) := hide (by rw [← hr]; simp)
      have HRE : Hid (t.size = t.size → r = ByteArray.empty) := hide (fun h => by apply eq_of_lists; rw [← hr, extract_drop, List.drop_of_length_le (by rw [len_data]; omega)]; rfl)
      have hps : p.size ≤ 1048576 := by rw [← hp]; simp; omega
      have hntI : ((t.size : Nat) : Int) ≤ t.size := by omega
      obtain ⟨⟨⟨ya, yb⟩, yl, ye⟩, hy⟩ : ∃ o, On.feed hd bd ar xr.data.toList xo p.data.toList = o := ⟨_, rfl⟩
      have HFE := hide ((unhide HFD) xr xo p (by omega) wr (unhide HMR) _ hy)
      have HFE' := hide ((unhide HFD) xr xo p (by omega) wr.drew ((unhide HMR).below (Below.refl _ _).drew) _ hy)
      dsimp only at HFE HFE'
      rw [hpl] at hy
      have hst := On.cut_step (unhide HB) (by rw [len_data]; omega) (unhide CUT) rfl (t.size) _ hy
      dsimp only at hst
      rw [← hrl] at hst
      have HST2 := hide hst
      obtain ⟨y, hyy⟩ : ∃ y, mk ya = y := ⟨_, rfl⟩
      rw [hyy] at HFE HFE'
      have HYY : Hid (y.data.toList = ya) := hide (by rw [← hyy, mk_toList])
      have HYS : Hid (y.size ≤ 16777216) := hide (by
        rcases hst.1 with ⟨_, _, d, hd1, ha⟩ | ⟨_, _, _, h, _⟩
        · have := On.all_len (hd := hd.toNat) h0d d
          rw [ha] at this
          dsimp only at this
          have h2 := congrArg List.length hd1
          rw [List.length_append, len_data] at h2
          rw [← hyy, mk_size]; omega
        · rw [← hyy, mk_size, h]; exact Nat.zero_le _)
      clear hy hst hpl hrl hyy CUT HST HO
      go_wp2_with fail
      go_region_with ((go_at_call 11); (first | refine (unhide HFE).mono ?_ | refine (unhide HFE').mono ?_); rintro e w7 ⟨V7, l7, rfl, hl7, hR7, hl7n, b7⟩; obtain ⟨ko, kc, rfl⟩ := own_forms hR7.own; have hb7 : Below wr.heap.size wr w7 := (by first | exact b7 | exact bel_trans (Below.refl _ _).drew b7); have X7 := (unhide XR).below hb7; obtain ⟨q0, q1⟩ := X7.cells; obtain ⟨r0, r1⟩ := X7.frozen; have HX7 := hide X7; have HB7 := hide hb7; have HR7 : Hid (Reqs w7 (gX + 1) (.slice ko l7.length kc) l7) := hide (hR7.mono hgs); have HL7 := hide hl7; clear b7 hb7 X7 hR7 hl7)
      all_goals (
        clear q0 q1 r0 r1 y0 y1 f0 f1 z0 z1 z2 HFE HFE' HFD
        obtain ⟨P8, G8⟩ := (unhide HX7).put y yb
        have hlt7 := (unhide HX7).lt.2
        have hs57 : W5.heap.size ≤ w7.heap.size := Nat.le_trans (unhide BE).size (unhide HB7).size
        have BE8 := ((bel_trans (unhide BE) (unhide HB7)).grown G8 hs57 (fun q hq => by have := Option.some.inj hq; have := unhide HGX; omega))
        have RM8 := ((unhide RM).below (unhide HB7)).kept G8 (fun q hq => by have := Option.some.inj hq; omega)
        have RL8 := (unhide HR7).kept G8 (fun q hq => by have := Option.some.inj hq; omega)
        have hs8 : gX + 1 ≤ (putR w7 gX y yb).heap.size := by have := G8.size; omega
        have hs58 : W5.heap.size ≤ (putR w7 gX y yb).heap.size := Nat.le_trans hs57 G8.size
        obtain ⟨W8, hW8⟩ : ∃ W, putR w7 gX y yb = W := ⟨_, rfl⟩
        rw [hW8] at P8 BE8 RM8 RL8 hs8 hs58
        unfold putR at hW8
        have hll : l7.length ≤ 16384 := by have h1 := (unhide HST2).2.1; have h2 := congrArg List.length (unhide HL7); rw [List.length_map] at h2; omega
        have hml : m.length ≤ 8192 := by have h1 := (unhide HST2).2.2; rw [List.length_map] at h1; exact h1
        have b3 : m.length + l7.length ≤ maxLen := by unfold maxLen; omega
        have b4 : (m.length + l7.length) * 72 ≤ 140737488355328 := by omega
        have HENDR : Hid (∀ (W : World) (V : Value), Reqs W (gX + 1) V (m ++ l7) → RX W gX gX y yb → Below W5.heap.size W5 W → gX + 1 ≤ W.heap.size →
            ∃ (t' : ByteArray) (m' : List RV) (f' : Int) (i' : Nat) (xr' : ByteArray) (xo' : Int), Value.string r = .string t' ∧ Value.int .i64 ye = .int .i64 f' ∧ Value.int .i64 ((i : Int) + 1) = .int .i64 (i' : Int) ∧ t'.size ≤ s.size ∧ i' ≤ zs.length + 1 ∧ On.CutI hd.toNat bd s.data.toList t'.data.toList (m'.map Prod.fst) f' xr'.data.toList xo' ∧ (i' = zs.length + 1 → f' ≠ 0 ∨ t'.size = 0) ∧ xr'.size ≤ 16777216 ∧ Reqs W (gX + 1) V m' ∧ RX W gX gX xr' xo' ∧ Below W5.heap.size W5 W ∧ gX + 1 ≤ W.heap.size) := hide (fun W V h1 h2 h3 h4 => by
          refine ⟨r, m ++ l7, ye, i + 1, y, yb, rfl, rfl, by rw [Int.natCast_add]; rfl, ?_, by omega, ?_, ?_, unhide HYS, h1, h2, h3, h4⟩
          · rw [unhide HRZ]; omega
          · rw [List.map_append, unhide HL7, unhide HYY]; exact (unhide HST2).1
          · intro h
            right
            rw [unhide HRZ]
            have := (unhide HNL) h
            omega)
        have OWN := hide RM8.own
        have HP8 := hide P8
        have HBE8 := hide BE8
        have HRM8 := hide RM8
        have HRL8 := hide RL8
        clear P8 G8 BE8 RM8 RL8 HX7 HB7 HR7 RM XR BE HST2 HL7 HYY HRZ HNL HYS
        rcases (unhide HRL8).own.2 with ⟨hnil, hn0⟩ | ⟨gk, capk, curk, hk, _⟩
        · have hl0 : l7 = [] := List.length_eq_zero_iff.1 hn0
          rw [hnil]
          go_wp2_with (at_builtin; refine wpList_append_own_none rfl _ _ 46 rfl (gX + 1) 56 i0 4 Tryd.underlying46 hi _ m.length (cellsQ m) rfl (unhide OWN) rfl ?_)
          clear hW8
          obtain ⟨t', m', f', i', xr', xo', g1, g2, g3, g4⟩ := (unhide HENDR) W8 (.slice mo m.length mc) (by rw [hl0, List.append_nil]; exact unhide HRM8) (unhide HP8) (unhide HBE8) hs8
          exact ⟨⟨t', m', f', i', xr', xo', (by first | exact g1 | (rw [← (unhide HRE) (by trivial)]; exact g1)), g2, by first | exact g3 | (go_num; done) | (go_num; exact g3), g4⟩, by simp [intOf]; omega⟩
        · cases hk
          have hnews : ∀ j u, (cellsQ l7)[j]? = some u → W8.cell? ((⟨gk, 0, none⟩ : Addr).add j) = some u := by
            intro j u hj
            have hjl : j < l7.length * 4 := by have h1 := (List.getElem?_eq_some_iff.1 hj).1; have h2 := (unhide HRL8).own.1; omega
            have := (unhide HRL8).own.cellAt j hjl
            rw [add_plain, Nat.zero_add, this]; exact hj
          have HNW := hide hnews
          clear hnews
          go_wp2_with (at_builtin; refine wpList_append_own _ rfl _ _ 46 rfl (gX + 1) 56 i0 (.agg #[.string ByteArray.empty, .string ByteArray.empty, .slice none 0 0, .string ByteArray.empty]) 4 72 Tryd.underlying46 hi hz0 hz1 hz2 rfl (by decide) _ m.length (cellsQ m) rfl (unhide OWN) _ l7.length _ (cellsQ l7) rfl (unhide HRL8).own.1 (unhide HNW) (unhide HRL8).oneCells b3 b4 hs8 ?_; intro vv w9 own9 grow9 _; have HR9 := hide ((unhide HRM8).push (unhide HRL8).rows own9 grow9); have HX9 := hide ((unhide HP8).kept grow9 (fun e => by have := own_lt (unhide OWN) gX e; omega)); have HB9 := hide ((unhide HBE8).grown grow9 hs58 (fun q hq => by have := own_lt (unhide OWN) q hq; have := unhide HGX; omega)); have hs9 : gX + 1 ≤ w9.heap.size := Nat.le_trans hs8 grow9.size; clear own9 grow9)
          clear hW8
          obtain ⟨t', m', f', i', xr', xo', g1, g2, g3, g4⟩ := (unhide HENDR) w9 vv (unhide HR9) (unhide HX9) (unhide HB9) hs9
          exact ⟨⟨t', m', f', i', xr', xo', (by first | exact g1 | (rw [← (unhide HRE) (by trivial)]; exact g1)), g2, by first | exact g3 | (go_num; done) | (go_num; exact g3), g4⟩, by simp [intOf]; omega⟩
      )


theorem walk (s : ByteArray) (hd bd ar : Int) (v : Value) (zs : List Int) (hb : s.size + zs.length ≤ 1048576) (hh : (-9223372036854775808 ≤ hd ∧ hd ≤ 9223372036854775807) ∧ (-9223372036854775808 ≤ bd ∧ bd ≤ 9223372036854775807) ∧ (-9223372036854775808 ≤ ar ∧ ar ≤ 9223372036854775807)) (w : World) (hI : Ints w v zs) (hsh : w.ShapedOpen Tryd.prog) (hL : laidMetH Tryd.prog Rows.oneCutsUptoRow.laid w) :
    Calls Tryd.prog 4 #[.string s, .agg #[.int .i64 hd, .int .i64 bd, .int .i64 ar], v] w fun e w' => e = .returned (.bool true) ∧ Below w.heap.size w w' := by
  obtain ⟨k, hk⟩ := Tryd.laysM145.s1_3 w hsh
  exact walk_m s hd bd ar v zs k hb w hI hk
theorem own : ownKnob Tryd.prog.godebug = none := by kernel_rfl

theorem small_of {H : Type} {b1 c1 : Int} {a0 : ByteArray} {a1 : Int} {a2 : DataW H} (hk : Rows.uptoSmall H ([.lit (.string a0.data.toList), .agg [.lit (.int .i64 a1), .lit (.int .i64 b1), .lit (.int .i64 c1)], a2] ++ []) = true) : a0.size + Rows.uptoBulk a2 ≤ 1048576 := by
  have h := of_decide_eq_true hk
  simp only [Rows.uptoBulkAll, Rows.uptoBulk, List.append_nil, Array.length_toList, ByteArray.size_data] at h
  omega

set_option maxRecDepth 100000 in
theorem contract (H : Type) (enc : TypeId × Value → H) (W : World) (base : Nat) (args : Array Value) (ds gs : List (DataW H)) (before : List MemPlace) (hsh : W.ShapedOpen Tryd.prog)
    (hval0 : ∀ (j : Nat) t v, Tryd.f4.params[j]? = some t → args[j]? = some v → Value.okWide Tryd.prog W .any base t v)
    (hW : DataW.Whole enc Tryd.prog Tryd.f4.params.toList Rows.oneCutsSpec.vars false W args.toList ds gs before) (hk : Rows.uptoSmall H (ds ++ gs) = true) (hL : laidMetH Tryd.prog Rows.oneCutsUptoRow.laid W) :
    Calls Tryd.prog 4 args W fun e W' => ∃ v, e = .returned v ∧ Rows.oneCutsSpec.post enc Tryd.prog Tryd.f4 false true false false W args v W' := by
  have hval : ∀ (j : Nat) t v, Tryd.f4.params[j]? = some t → args[j]? = some v → Value.okWide Tryd.prog W .any base t v := hval0
  have hW' := hW
  obtain ⟨p, q, hA0, hV, rfl, hfz, hnd⟩ := hW
  have hA : DataW.TrodAll enc Tryd.prog W 0 (fun _ => true) true Tryd.f4.params.toList args.toList ds p := hA0
  rw [Tryd.params4] at hA hval
  obtain ⟨v0, vs0, d0, ds0, p0, q0, hargs, rfl, rfl, h0, r0⟩ := trodAll_cons hA
  obtain ⟨v1, vs1, d1, ds1, p1, q1, rfl, rfl, rfl, h1, r1⟩ := trodAll_cons r0
  obtain ⟨v2, vs2, d2, ds2, p2, q2, rfl, rfl, rfl, h2, r2⟩ := trodAll_cons r1
  obtain ⟨rfl, rfl, rfl⟩ := trodAll_nil r2
  obtain rfl : args = #[v0, v1, v2] := by cases args; simp_all
  obtain ⟨rfl, rfl⟩ := trodVars_none hV
  obtain ⟨a0, rfl, rfl, rfl, w0⟩ := open_string Tryd.underlying9 (hval 0 9 v0 rfl rfl) h0
  obtain ⟨c1, e1, k1, y1, z1, o1, m1, rfl, rfl, rfl, hy1, hz1, ho1⟩ := Go.Joins.open_agg3 Tryd.underlying42 (by kernel_rfl) (by kernel_rfl) (hval 1 42 v1 rfl rfl) h1
  obtain ⟨a1, ea1, rfl, w1⟩ := DataW.trod_int Tryd.underlying3 hy1
  obtain ⟨b1, eb1, rfl, x1⟩ := DataW.trod_int Tryd.underlying3 hz1
  obtain ⟨j1, ej1, rfl, xx1⟩ := DataW.trod_int Tryd.underlying3 ho1
  simp at ea1 eb1 ej1
  subst ea1 eb1 ej1
  have hsm := small_of hk
  obtain ⟨z2, hI2, hz2, hlt2⟩ := open_ints_in (hval 2 43 v2 rfl rfl) h2 (by omega)
  clear hA0 hval0
  have hd1 : (-9223372036854775808 ≤ a1 ∧ a1 ≤ 9223372036854775807) ∧ (-9223372036854775808 ≤ b1 ∧ b1 ≤ 9223372036854775807) ∧ (-9223372036854775808 ≤ j1 ∧ j1 ≤ 9223372036854775807) := ⟨ by simpa [Lit.wf, IntKind.min, IntKind.max, IntKind.signed, IntKind.bits] using w1, by simpa [Lit.wf, IntKind.min, IntKind.max, IntKind.signed, IntKind.bits] using x1, by simpa [Lit.wf, IntKind.min, IntKind.max, IntKind.signed, IntKind.bits] using xx1⟩
  refine (walk a0 a1 b1 j1 v2 z2 (by omega) hd1 W hI2 hsh hL).mono fun e W' ⟨he, hb⟩ => ?_
  subst he
  exact ⟨_, rfl, _, _, _, [], ([] ++ ([] ++ (p2 ++ []))), [], hW', (trodAll_cons_mk (shut_bool Tryd.underlying4 _) trodAll_mk0), (trodAll_cons_mk (shut_string Tryd.underlying9 w0) (trodAll_cons_mk (Go.Joins.shut_agg3 (y0 := (.lit (.int .i64 a1), [])) (y1 := (.lit (.int .i64 b1), [])) (y2 := (.lit (.int .i64 j1), [])) Tryd.underlying42 (by kernel_rfl) (by kernel_rfl) ⟨1, by simp [DataW.trod, Tryd.underlying3, w1]⟩ ⟨1, by simp [DataW.trod, Tryd.underlying3, x1]⟩ ⟨1, by simp [DataW.trod, Tryd.underlying3, xx1]⟩) (trodAll_cons_mk (Below.trod laidOutAll (by kernel_rfl) (of_decide_eq_true (by kernel_rfl)) h2 hb hlt2) trodAll_mk0))), rfl, hb.frame _, fun h => by cases h⟩

theorem reads (os : Os) {H : Type} (enc : TypeId × Value → H) : ∃ places, DataW.whole enc Tryd.prog ((laidIn (World.holding Tryd.prog os ⟨#[], #[], []⟩)).forCall (fun _ _ => 0) ⟨#[], #[.string ByteArray.empty, .agg #[.int .i64 0, .int .i64 0, .int .i64 0], .slice none 0 0], []⟩).memory Tryd.f4.params.toList Rows.oneCutsSpec.vars false (#[.string ByteArray.empty, .agg #[.int .i64 0, .int .i64 0, .int .i64 0], .slice none 0 0] : Array Value).toList 8 = some ([.lit (.string []), .agg [.lit (.int .i64 0), .lit (.int .i64 0), .lit (.int .i64 0)], .nil], [], places) :=
  ⟨[], by kernel_rfl⟩
theorem laid_met (os : Os) : laidMet Tryd.prog Rows.oneCutsUptoRow.laid ((laidIn (World.holding Tryd.prog os ⟨#[], #[], []⟩)).forCall (fun _ _ => 0) ⟨#[], #[.string ByteArray.empty, .agg #[.int .i64 0, .int .i64 0, .int .i64 0], .slice none 0 0], []⟩).memory :=
  laidMet_of_run' 8 (by kernel_rfl) (by kernel_rfl)

set_option maxRecDepth 100000 in
theorem lifted (os : Os) (started : os.Started) (H : Type) (enc : TypeId × Value → H) (F : Stop.Interp) :
    ReturnsInHanded {} Tryd.checked os 4 .any ((Rows.OpenSpec.upto Rows.oneCutsSpec).preRow enc Tryd.prog Tryd.f4 Rows.oneCutsUptoRow.domain false Rows.oneCutsUptoRow.laid) (((Rows.OpenSpec.upto Rows.oneCutsSpec).at F).post enc Tryd.prog Tryd.f4 false true false false) := by
  obtain ⟨places, hx⟩ := reads os enc
  refine returnsInHanded_of_row (C := Tryd.checked) (s := Rows.OpenSpec.upto Rows.oneCutsSpec) own started (by kernel_rfl) Tryd.func4
    (witness_row_at (enc := enc) (C := Tryd.checked) false (laidIn (World.holding Tryd.prog os ⟨#[], #[], []⟩)) #[.string ByteArray.empty, .agg #[.int .i64 0, .int .i64 0, .int .i64 0], .slice none 0 0] rfl (by kernel_rfl) (by kernel_rfl) (by kernel_rfl)
      (OpenSpec.preRow_of_cond 8 hx (by kernel_rfl) (fun k hk => by cases hk; kernel_rfl) (by kernel_rfl) (laid_met os))) ?_
  intro W base args ds gs before hval hW _ hcond _ hL hsh _
  exact contract H enc W base args ds gs before hsh hval hW (hcond _ rfl) hL

theorem row : Rows.OneCutsUptoSaid :=
  OpenClaim.holds_of_cond 4 Tryd.f4 rfl rfl rfl rfl rfl rfl rfl ⟨rfl, rfl, rfl, rfl, rfl⟩ rfl rfl rfl rfl rfl (by kernel_rfl) Tryd.func4 (by kernel_rfl)
    (of_decide_eq_true (by kernel_rfl)) (by unfold Func.isWrapper; first | (rw [if_pos (by decide +kernel)]; kernel_rfl) | (rw [if_neg (by decide +kernel)]; exact ⟨rfl, rfl⟩))
    (fun os started H enc _ F => by rw [OpenClaim.pre_eq_preRow]; exact lifted os started H enc F)

theorem plain (f : FuncId) (fn : Func) (hf : Tryd.pinned.checked.prog.funcNamed "gatewicket/wickkeep.OneCuts" = some f) (hfn : Tryd.pinned.checked.prog.funcs[f]? = some fn) :
    false = Tryd.pinned.checked.prog.looks [] ∧ ∀ (j : Nat) t, fn.params[j]? = some t → Tryd.pinned.checked.prog.wantsStandIn t = false := by
  obtain rfl : f = 4 := Option.some.inj ((show Tryd.prog.funcNamed "gatewicket/wickkeep.OneCuts" = some 4 by kernel_rfl).symm.trans hf) |>.symm
  obtain rfl : fn = Tryd.f4 := (Option.some.inj (Tryd.func4.symm.trans hfn)).symm
  refine ⟨by kernel_rfl, fun j t ht => ?_⟩
  rw [Tryd.params4] at ht
  have hm : t = 9 ∨ t = 42 ∨ t = 43 := by simpa using Array.mem_of_getElem? ht
  rcases hm with rfl | rfl | rfl
  · exact (show Tryd.prog.wantsStandIn 9 = false by kernel_rfl)
  · exact (show Tryd.prog.wantsStandIn 42 = false by kernel_rfl)
  · exact (show Tryd.prog.wantsStandIn 43 = false by kernel_rfl)

theorem over : Rows.OneCutsUptoCardSaid :=
  Claim7.holds_tied_plain_at .later [] _ _ _ _ row (fun _ h => by cases h) (by kernel_rfl) (fun _ h => by cases h) oneCutsUpto_row_tie rfl ⟨rfl, rfl⟩ (by kernel_rfl) rfl plain (by kernel_rfl)
end Go.Proofs.YtjpclmkekmkddaaDoor.oneCuts
namespace Go.Proofs.YtjpclmkekmkddaaDoor
theorem oneCuts_holds : Rows.OneCutsUptoCardSaid := oneCuts.over
#print axioms oneCuts_holds
end Go.Proofs.YtjpclmkekmkddaaDoor
