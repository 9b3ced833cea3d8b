/- No head is the beginning of another one; what is read is right, and is read from its own text as the same: whatever is handed in.
   Conditions: what is handed in is of bulk at most 1048576; the library's tables are as the program's text lays them, and its own variable MaxLen holds whatever number. -/
import Derived.Test.YtloidooaebhliabDoorRows
import Derived.Test.YtloidooaebhliabDoorTie
import Derived.Test.YtloidooaebhliabDoorCards
import Derived.WalkKit
import Derived.ProofKit
import Derived.OpenShut
import Derived.ShutString
import Derived.JoinedCond
import Derived.Test.YtloidooaebhliabDoorMm
import Derived.Test.YtloidooaebhliabDoorLaid
import Derived.Stop.LaidErr
namespace Go.Proofs.YtloidooaebhliabDoor.headOnce
open Go.ChangeShapes Go.WideShapes Go.ChangeAt Go.RowKit
open Go.ChangeMaps (open_string shut_string)
open Kb
open Mh (Fl)
set_option linter.unusedVariables false
set_option maxRecDepth 20000

def sample : List UInt8 := [65, 32, 98, 32, 72, 84, 84, 80, 47, 49, 46, 49, 13, 10, 120, 58, 32, 32, 121, 32, 13, 10, 13, 10]
theorem sample_parse : Mh.parse sample = ([65], [98], [([120], [121])], 0) := by
  have hpc : Mh.pc Mh.crlf [65, 32, 98, 32, 72, 84, 84, 80, 47, 49, 46, 49, 13, 10, 120, 58, 32, 32, 121, 32] = [[65, 32, 98, 32, 72, 84, 84, 80, 47, 49, 46, 49], [120, 58, 32, 32, 121, 32]] := by
    have := Mh.crlf_hit (u := [65, 32, 98, 32, 72, 84, 84, 80, 47, 49, 46, 49]) [120, 58, 32, 32, 121, 32] (by decide)
    rw [Mh.crlf_no (u := [120, 58, 32, 32, 121, 32]) (by decide)] at this
    exact this
  have hread : Mh.readH sample = some ([65], [98], [([120], [121])]) := by
    unfold Mh.readH
    rw [if_pos (by decide), show sample.take (sample.length - 4) = [65, 32, 98, 32, 72, 84, 84, 80, 47, 49, 46, 49, 13, 10, 120, 58, 32, 32, 121, 32] from rfl, hpc]
    decide +kernel
  unfold Mh.parse
  rw [if_neg (by decide), hread]
  dsimp only
  rw [if_pos (by decide +kernel)]
theorem parse_bad {s : List UInt8} {m t : List UInt8} {fs : List Fl} {z : Int} (h : Mh.parse s = (m, t, fs, z)) (hz : z ≠ 0) : m = [] ∧ t = [] ∧ fs = [] := by
  rcases Mh.parse_cases s with ⟨e, he, _⟩ | ⟨m', t', fs', he⟩
  · rw [he] at h; injection h with e1 e2; injection e2 with e2 e3; injection e3 with e3 e4
    exact ⟨e1.symm, e2.symm, e3.symm⟩
  · rw [he] at h; injection h with e1 e2; injection e2 with e2 e3; injection e3 with e3 e4
    exact absurd e4.symm hz
theorem parse_more {s more m t m' t' : List UInt8} {fs fs' : List Fl} {z : Int} (h : Mh.parse s = (m, t, fs, 0)) (hm : more ≠ []) (h' : Mh.parse (s ++ more) = (m', t', fs', z)) : z ≠ 0 := by
  intro hz
  subst hz
  exact hm (Mh.once (Mh.parse_ok h).2.1 (Mh.parse_ok h').2.1)
set_option maxHeartbeats 8000000 in
theorem walk_m (s more : ByteArray) (k : Int) (hb : s.size + more.size ≤ 1048576) (w : World) (hm : MH k w) :
    Calls Tryd.prog 3 #[.string s, .string more] w fun e w' => e = .returned (.bool true) ∧ Below w.heap.size w w' := by
  have HP0 := hide (fun W (hW : MH k W) => hparse_any (mk sample) k W (by rw [mk_size]; decide) hW [65] [98] [([120], [121])] 0 (by rw [mk_toList]; exact sample_parse))
  have HP0' : Hid (∀ W, MH k W → Calls Tryd.prog 4 #[.string ⟨#[65, 32, 98, 32, 72, 84, 84, 80, 47, 49, 46, 49, 13, 10, 120, 58, 32, 32, 121, 32, 13, 10, 13, 10]⟩] W fun e w' => ∃ v, e = .returned (.tuple #[.agg #[.string ⟨#[65]⟩, .string ⟨#[98]⟩, v], .int .i64 0]) ∧ w'.ownsRow W.heap.size 29 2 v 1 [.string ⟨#[120]⟩, .string ⟨#[121]⟩] ∧ Below W.heap.size W w') := hide (unhide HP0)
  obtain ⟨⟨m, t, fs, z⟩, hp⟩ : ∃ q, Mh.parse s.data.toList = q := ⟨_, rfl⟩
  have HP1 := hide (fun W (hW : MH k W) => hparse_any s k W (by omega) hW m t fs z hp)
  have HBAD := hide (fun h0 : z ≠ 0 => parse_bad hp h0)
  have HM := hide hm
  have HPP := hide hp
  clear HP0 hm hp
  go_enter Tryd.func3, Tryd.ntmps3
  go_wp2_with fail
  refine ((unhide HP0') w (unhide HM)).mono ?_; rintro e w1 ⟨v, rfl, own1, b1⟩
  obtain ⟨g1, c1, rfl, -⟩ := own_form own1 (by decide)
  have bb := (Below.refl w1.heap.size w1).alloc (Nat.le_refl _) (.cells #[.string ⟨#[65]⟩, .string ⟨#[98]⟩, .slice (some ⟨g1, 0, none⟩) 1 c1] 24)
  have Y := HX.new (base := w1.heap.size) w1 (Nat.le_refl _) ⟨#[65]⟩ ⟨#[98]⟩ (some ⟨g1, 0, none⟩) 1 c1
  have O1 := own_below own1 bb
  have B1 := hide (bel_trans b1 bb)
  obtain ⟨gh, hgh⟩ : ∃ g, w1.heap.size = g := ⟨_, rfl⟩
  obtain ⟨W1, hW1⟩ : ∃ W, w1.alloc (.cells #[.string ⟨#[65]⟩, .string ⟨#[98]⟩, .slice (some ⟨g1, 0, none⟩) 1 c1] 24) = W := ⟨_, rfl⟩
  rw [hW1] at Y O1 B1
  rw [hgh] at Y
  obtain ⟨a0, a1, a2⟩ := Y.cells
  have hlh := Y.lt.2
  have d0 : W1.cell? ⟨g1, 0, none⟩ = some (.string ⟨#[120]⟩) := World.ownsRow.cellAt O1 0 (by omega)
  have d1 : W1.cell? ⟨g1, 1, none⟩ = some (.string ⟨#[121]⟩) := World.ownsRow.cellAt O1 1 (by omega)
  have hlg : g1 < W1.heap.size := (O1.lt g1 rfl).2
  have M1 := hide ((unhide HM).below (unhide B1))
  clear bb Y O1 own1 b1 HP0'
  go_wp2_with fail
  clear hW1 hgh a0 a1 a2 d0 d1 hlh hlg
  refine ((unhide HP1) W1 (unhide M1)).mono ?_; rintro e w2 ⟨v2, rfl, own2, b2⟩
  obtain ⟨vo, vc, rfl⟩ := own_forms own2
  have HE : Hid (z ≠ 0 ∨ z = 0) := hide (by omega)
  have bb := (Below.refl w2.heap.size w2).alloc (Nat.le_refl _) (.cells #[.string (mk m), .string (mk t), .slice vo fs.length vc] 24)
  have Y := HX.new (base := w2.heap.size) w2 (Nat.le_refl _) (mk m) (mk t) vo fs.length vc
  have O2 := hide (own_below own2 bb)
  have B2 := hide (bel_trans (bel_trans (unhide B1) b2) bb)
  have M2 := hide (((unhide M1).below b2).below bb)
  obtain ⟨x, hx⟩ : ∃ x, mk m = x := ⟨_, rfl⟩
  obtain ⟨y, hy⟩ : ∃ y, mk t = y := ⟨_, rfl⟩
  obtain ⟨n, hn⟩ : ∃ n, fs.length = n := ⟨_, rfl⟩
  have HXY : Hid (mk m = x ∧ mk t = y ∧ fs.length = n) := hide ⟨hx, hy, hn⟩
  rw [hx, hy, hn] at Y B2 M2 O2 ⊢
  obtain ⟨g2, hg2⟩ : ∃ g, w2.heap.size = g := ⟨_, rfl⟩
  obtain ⟨W2, hW2⟩ : ∃ W, w2.alloc (.cells #[.string x, .string y, .slice vo n vc] 24) = W := ⟨_, rfl⟩
  rw [hW2] at Y B2 M2 O2
  rw [hg2] at Y
  have Y2 := hide Y
  obtain ⟨a0, a1, a2⟩ := Y.cells
  have hl2 := Y.lt.2
  clear bb Y own2 b2 B1 M1 HP1 hx hy hn
  rcases unhide HE with h0 | h0
  · obtain ⟨e1, e2, e3⟩ := (unhide HBAD) h0
    have HS : Hid (Calls Tryd.prog 5 #[.agg #[.string x, .string y, .slice vo n vc], .agg #[.string ⟨#[]⟩, .string ⟨#[]⟩, .slice none 0 0]] W2 fun e w' => e = .returned (.bool true) ∧ Below W2.heap.size W2 w') := hide (by
      obtain ⟨h1, h2, h3⟩ := unhide HXY
      have own := unhide O2
      subst e1 e2 e3
      rw [← h1, ← h2]
      rw [← h3] at own ⊢
      exact same_any [] [] _ _ [] W2 (Flds.own own (by decide)) (Flds.nil W2))
    have hzn : (z != 0) = true := by simpa using h0
    clear HE HBAD HPP HXY e1 e2 e3 h0 O2
    go_wp2_with fail
    clear hW2 hg2
    refine (unhide HS).mono ?_; rintro e w3 ⟨rfl, b3⟩
    go_wp2_with fail
    go_ret
    exact ⟨rfl, bel_trans (unhide B2) b3⟩
  · subst h0
    obtain ⟨h4, hrd, hck⟩ := Mh.parse_ok (unhide HPP)
    have hbd := Mh.read_bounds hrd
    rw [len_data] at hbd
    have FL : Hid (∀ W, Below W2.heap.size W2 W → Flds W (.slice vo n vc) fs) := hide (fun W b => by
      have := (unhide HXY).2.2
      have own := own_below (unhide O2) b
      rw [← this] at own ⊢
      exact Flds.own own (by omega))
    have HPR : Hid (∀ W, Below W2.heap.size W2 W → Calls Tryd.prog 6 #[.agg #[.string x, .string y, .slice vo n vc]] W fun e w' => e = .returned (.tuple #[.string (mk (Mh.text m t fs)), .int .i64 0]) ∧ Below W.heap.size W w') := hide (fun W b => by
      have h := hprint_ok m t _ fs W ((unhide FL) W b) hck
      unfold headV at h
      rw [(unhide HXY).1, (unhide HXY).2.1] at h
      exact h)
    have HCK : Hid (∀ W, Below W2.heap.size W2 W → Calls Tryd.prog 7 #[.agg #[.string x, .string y, .slice vo n vc]] W fun e w' => e = .returned (.int .i64 0) ∧ Below W.heap.size W w') := hide (fun W b => by
      have h := hcheck_any m t _ fs W ((unhide FL) W b) (by omega) (fun f hf => by have := hbd.2.2.2 f hf; omega)
      unfold headV at h
      rw [(unhide HXY).1, (unhide HXY).2.1, hck] at h
      exact h)
    have HPA := hide (fun W (hW : MH k W) => hparse_any (mk (Mh.text m t fs)) k W (by rw [mk_size]; have := Mh.text_len hck; omega) hW)
    have hpt := Mh.parse_text hck
    rw [mk_toList] at HPA
    have HSM : Hid (∀ W v, Below W2.heap.size W2 W → Flds W v fs → Calls Tryd.prog 5 #[.agg #[.string x, .string y, .slice vo n vc], .agg #[.string x, .string y, v]] W fun e w' => e = .returned (.bool true) ∧ Below W.heap.size W w') := hide (fun W v b hv => by
      have h := same_any m t _ v fs W ((unhide FL) W b) hv
      unfold headV at h
      rw [(unhide HXY).1, (unhide HXY).2.1] at h
      exact h)
    have htl := Mh.text_len hck
    obtain ⟨q, hq⟩ : ∃ q, mk (Mh.text m t fs) = q := ⟨_, rfl⟩
    have hqs : q.size = (Mh.text m t fs).length := by rw [← hq, mk_size]
    rw [hq] at HPR HPA
    rw [← hqs] at hpt htl
    have HPT := hide hpt
    have HMORE := hide (fun (h : more.data.toList ≠ []) {m' t' fs' z'} h' => parse_more (m' := m') (t' := t') (fs' := fs') (z := z') (unhide HPP) h h')
    have HBD := hide hbd
    have hroom : n ≤ 1048576 := by rw [← (unhide HXY).2.2]; omega
    clear HE HBAD HPP hq hqs hrd hck hbd hpt h4 FL
    -- the rest, from a world at which all stands
    by_cases hmo : more.size = 0
    · have hme : more.toList.isEmpty = true := by rw [Lib.toList_data, List.isEmpty_iff]; exact List.length_eq_zero_iff.1 (by rw [len_data]; exact hmo)
      have BC := hide (Below.refl W2.heap.size W2)
      clear HMORE
      have XC := hide ((unhide Y2).below (unhide BC))
      obtain ⟨a0, a1, a2⟩ := (unhide XC).cells
      have hl2 := (unhide XC).lt.2
      go_wp2_with fail
      clear hW2 hg2
      refine ((unhide HPR) W2 (unhide BC)).mono ?_; rintro e w5 ⟨rfl, b5⟩
      have B5 := hide (bel_trans (unhide BC) b5)
      have X5 := hide ((unhide XC).below b5)
      clear a0 a1 a2 hl2 b5 XC HPR
      obtain ⟨a0, a1, a2⟩ := (unhide X5).cells
      have hl2 := (unhide X5).lt.2
      go_wp2_with fail
      refine ((unhide HCK) w5 (unhide B5)).mono ?_; rintro e w6 ⟨rfl, b6⟩
      have B6 := hide (bel_trans (unhide B5) b6)
      have X6 := hide ((unhide X5).below b6)
      have M6 := hide ((unhide M2).below (unhide B6))
      clear a0 a1 a2 hl2 b6 X5 B5 HCK
      by_cases hbig : 4096 < q.size
      · have hpa := unhide HPT
        rw [if_pos hbig] at hpa
        have HQ := hide ((unhide HPA) w6 (unhide M6) _ _ _ _ hpa)
        have hbig' : (4096 : Int) < q.size := by omega
        obtain ⟨e1, he1⟩ : ∃ e, mk [] = e := ⟨_, rfl⟩
        rw [he1] at HQ
        clear he1 hpa HPA HPT
        go_wp2_with fail
        refine (unhide HQ).mono ?_; rintro e w7 ⟨v7, rfl, own7, b7⟩
        obtain ⟨vo7, vc7, rfl⟩ := own_forms own7
        have B7 := hide (bel_trans (unhide B2) (bel_trans (unhide B6) b7))
        clear own7 b7
        go_wp2_with fail
        go_ret
        exact ⟨rfl, by first | exact unhide B7 | exact (unhide B7).alloc (unhide B7).size _⟩
      · have hpa := unhide HPT
        rw [if_neg hbig] at hpa
        have HQ := hide ((unhide HPA) w6 (unhide M6) _ _ _ _ hpa)
        have hbig' : ¬ (4096 : Int) < q.size := by omega
        rw [(unhide HXY).1, (unhide HXY).2.1, (unhide HXY).2.2] at HQ
        clear hpa HPA HPT
        go_wp2_with fail
        refine (unhide HQ).mono ?_; rintro e w7 ⟨v7, rfl, own7, b7⟩
        obtain ⟨vo7, vc7, rfl⟩ := own_forms own7
        have bb := (Below.refl w7.heap.size w7).alloc (Nat.le_refl _) (.cells #[.string x, .string y, .slice vo7 n vc7] 24)
        have Y := HX.new (base := w7.heap.size) w7 (Nat.le_refl _) x y vo7 n vc7
        have B7 := hide (bel_trans (bel_trans (unhide B6) b7) bb)
        have X7 := hide (((unhide X6).below b7).below bb)
        have O7 := hide (own_below own7 bb)
        obtain ⟨g7, hg7⟩ : ∃ g, w7.heap.size = g := ⟨_, rfl⟩
        obtain ⟨W7, hW7⟩ : ∃ W, w7.alloc (.cells #[.string x, .string y, .slice vo7 n vc7] 24) = W := ⟨_, rfl⟩
        rw [hW7] at Y B7 X7 O7
        rw [hg7] at Y
        obtain ⟨c0, c1, c2⟩ := Y.cells
        have hl7 := Y.lt.2
        obtain ⟨a0, a1, a2⟩ := (unhide X7).cells
        have hl2 := (unhide X7).lt.2
        have HS := hide ((unhide HSM) W7 (.slice vo7 n vc7) (unhide B7) (by
          have own := unhide O7
          have hn := (unhide HXY).2.2
          rw [← hn] at own ⊢
          exact Flds.own own (by omega)))
        clear bb Y own7 b7 HQ HSM B6 X6 O7
        go_wp2_with fail
        clear hW7 hg7
        refine (unhide HS).mono ?_; rintro e w8 ⟨rfl, b8⟩
        go_wp2_with fail
        go_ret
        exact ⟨rfl, bel_trans (unhide B2) (bel_trans (unhide B7) b8)⟩
    · have hmd : more.data.toList ≠ [] := fun e => hmo (by rw [← len_data, e]; rfl)
      have hme : more.toList.isEmpty = false := by
        rw [Lib.toList_data]
        cases h : more.data.toList with
        | nil => exact absurd h hmd
        | cons _ _ => rfl
      obtain ⟨⟨m', t', fs', z'⟩, hp'⟩ : ∃ q, Mh.parse (s ++ more).data.toList = q := ⟨_, rfl⟩
      have hz' : z' ≠ 0 := (unhide HMORE) hmd (by rw [← cat_data]; exact hp')
      have hzb : (z' == 0) = false := by simpa using hz'
      have HPM := hide (fun W (hW : MH k W) => hparse_any (s ++ more) k W (by rw [ByteArray.size_append]; omega) hW m' t' fs' z' hp')
      obtain ⟨x', hx'⟩ : ∃ x, mk m' = x := ⟨_, rfl⟩
      obtain ⟨y', hy'⟩ : ∃ x, mk t' = x := ⟨_, rfl⟩
      obtain ⟨n', hn'⟩ : ∃ x, fs'.length = x := ⟨_, rfl⟩
      rw [hx', hy', hn'] at HPM
      clear HMORE hmd hp' hx' hy' hn' hz'
      go_wp2_with fail
      clear hW2 hg2
      refine ((unhide HPM) W2 (unhide M2)).mono ?_; rintro e w3 ⟨v3, rfl, own3, b3⟩
      obtain ⟨vo3, vc3, rfl⟩ := own_forms own3
      have bb := (Below.refl w3.heap.size w3).alloc (Nat.le_refl _) (.cells #[.string x', .string y', .slice vo3 n' vc3] 24)
      have BC := hide (bel_trans b3 bb)
      obtain ⟨W3, hW3⟩ : ∃ W, w3.alloc (.cells #[.string x', .string y', .slice vo3 n' vc3] 24) = W := ⟨_, rfl⟩
      rw [hW3] at BC
      clear bb own3 b3 HPM a0 a1 a2 hl2
      have XC := hide ((unhide Y2).below (unhide BC))
      obtain ⟨a0, a1, a2⟩ := (unhide XC).cells
      have hl2 := (unhide XC).lt.2
      go_wp2_with fail
      clear hW3
      refine ((unhide HPR) W3 (unhide BC)).mono ?_; rintro e w5 ⟨rfl, b5⟩
      have B5 := hide (bel_trans (unhide BC) b5)
      have X5 := hide ((unhide XC).below b5)
      clear a0 a1 a2 hl2 b5 XC HPR
      obtain ⟨a0, a1, a2⟩ := (unhide X5).cells
      have hl2 := (unhide X5).lt.2
      go_wp2_with fail
      refine ((unhide HCK) w5 (unhide B5)).mono ?_; rintro e w6 ⟨rfl, b6⟩
      have B6 := hide (bel_trans (unhide B5) b6)
      have X6 := hide ((unhide X5).below b6)
      have M6 := hide ((unhide M2).below (unhide B6))
      clear a0 a1 a2 hl2 b6 X5 B5 HCK
      by_cases hbig : 4096 < q.size
      · have hpa := unhide HPT
        rw [if_pos hbig] at hpa
        have HQ := hide ((unhide HPA) w6 (unhide M6) _ _ _ _ hpa)
        have hbig' : (4096 : Int) < q.size := by omega
        obtain ⟨e1, he1⟩ : ∃ e, mk [] = e := ⟨_, rfl⟩
        rw [he1] at HQ
        clear he1 hpa HPA HPT
        go_wp2_with fail
        refine (unhide HQ).mono ?_; rintro e w7 ⟨v7, rfl, own7, b7⟩
        obtain ⟨vo7, vc7, rfl⟩ := own_forms own7
        have B7 := hide (bel_trans (unhide B2) (bel_trans (unhide B6) b7))
        clear own7 b7
        go_wp2_with fail
        go_ret
        exact ⟨rfl, by first | exact unhide B7 | exact (unhide B7).alloc (unhide B7).size _⟩
      · have hpa := unhide HPT
        rw [if_neg hbig] at hpa
        have HQ := hide ((unhide HPA) w6 (unhide M6) _ _ _ _ hpa)
        have hbig' : ¬ (4096 : Int) < q.size := by omega
        rw [(unhide HXY).1, (unhide HXY).2.1, (unhide HXY).2.2] at HQ
        clear hpa HPA HPT
        go_wp2_with fail
        refine (unhide HQ).mono ?_; rintro e w7 ⟨v7, rfl, own7, b7⟩
        obtain ⟨vo7, vc7, rfl⟩ := own_forms own7
        have bb := (Below.refl w7.heap.size w7).alloc (Nat.le_refl _) (.cells #[.string x, .string y, .slice vo7 n vc7] 24)
        have Y := HX.new (base := w7.heap.size) w7 (Nat.le_refl _) x y vo7 n vc7
        have B7 := hide (bel_trans (bel_trans (unhide B6) b7) bb)
        have X7 := hide (((unhide X6).below b7).below bb)
        have O7 := hide (own_below own7 bb)
        obtain ⟨g7, hg7⟩ : ∃ g, w7.heap.size = g := ⟨_, rfl⟩
        obtain ⟨W7, hW7⟩ : ∃ W, w7.alloc (.cells #[.string x, .string y, .slice vo7 n vc7] 24) = W := ⟨_, rfl⟩
        rw [hW7] at Y B7 X7 O7
        rw [hg7] at Y
        obtain ⟨c0, c1, c2⟩ := Y.cells
        have hl7 := Y.lt.2
        obtain ⟨a0, a1, a2⟩ := (unhide X7).cells
        have hl2 := (unhide X7).lt.2
        have HS := hide ((unhide HSM) W7 (.slice vo7 n vc7) (unhide B7) (by
          have own := unhide O7
          have hn := (unhide HXY).2.2
          rw [← hn] at own ⊢
          exact Flds.own own (by omega)))
        clear bb Y own7 b7 HQ HSM B6 X6 O7
        go_wp2_with fail
        clear hW7 hg7
        refine (unhide HS).mono ?_; rintro e w8 ⟨rfl, b8⟩
        go_wp2_with fail
        go_ret
        exact ⟨rfl, bel_trans (unhide B2) (bel_trans (unhide B7) b8)⟩
theorem walk (s more : ByteArray) (hb : s.size + more.size ≤ 1048576) (w : World) (hsh : w.ShapedOpen Tryd.prog) (hL : laidMetH Tryd.prog Rows.headOnceUptoRow.laid w) :
    Calls Tryd.prog 3 #[.string s, .string more] w fun e w' => e = .returned (.bool true) ∧ Below w.heap.size w w' := by
  obtain ⟨k, hk⟩ := Tryd.laysM145.s1_3 w hsh
  exact walk_m s more k hb w hk
theorem own : ownKnob Tryd.prog.godebug = none := by kernel_rfl

theorem small_of {H : Type} {a0 : ByteArray} {a1 : ByteArray} (hk : Rows.uptoSmall H ([.lit (.string a0.data.toList), .lit (.string a1.data.toList)] ++ []) = true) : a0.size + a1.size ≤ 1048576 := by
  have h := of_decide_eq_true hk
  simp only [Rows.uptoBulkAll, Rows.uptoBulk, List.append_nil, Array.length_toList, ByteArray.size_data] at h
  omega

theorem contract (H : Type) (enc : TypeId × Value → H) (W : World) (base : Nat) (args : Array Value) (ds gs : List (DataW H)) (before : List MemPlace) (hsh : W.ShapedOpen Tryd.prog)
    (hval0 : ∀ (j : Nat) t v, Tryd.f3.params[j]? = some t → args[j]? = some v → Value.okWide Tryd.prog W .any base t v)
    (hW : DataW.Whole enc Tryd.prog Tryd.f3.params.toList Rows.headOnceSpec.vars false W args.toList ds gs before) (hk : Rows.uptoSmall H (ds ++ gs) = true) (hL : laidMetH Tryd.prog Rows.headOnceUptoRow.laid W) :
    Calls Tryd.prog 3 args W fun e W' => ∃ v, e = .returned v ∧ Rows.headOnceSpec.post enc Tryd.prog Tryd.f3 false true false false W args v W' := by
  have hval : ∀ (j : Nat) t v, Tryd.f3.params[j]? = some t → args[j]? = some v → Value.okWide Tryd.prog W .any base t v := hval0
  have hW' := hW
  obtain ⟨p, q, hA0, hV, rfl, hfz, hnd⟩ := hW
  have hA : DataW.TrodAll enc Tryd.prog W 0 (fun _ => true) true Tryd.f3.params.toList args.toList ds p := hA0
  rw [Tryd.params3] at hA hval
  obtain ⟨v0, vs0, d0, ds0, p0, q0, hargs, rfl, rfl, h0, r0⟩ := trodAll_cons hA
  obtain ⟨v1, vs1, d1, ds1, p1, q1, rfl, rfl, rfl, h1, r1⟩ := trodAll_cons r0
  obtain ⟨rfl, rfl, rfl⟩ := trodAll_nil r1
  obtain rfl : args = #[v0, v1] := by cases args; simp_all
  obtain ⟨rfl, rfl⟩ := trodVars_none hV
  obtain ⟨a0, rfl, rfl, rfl, w0⟩ := open_string Tryd.underlying9 (hval 0 9 v0 rfl rfl) h0
  obtain ⟨a1, rfl, rfl, rfl, w1⟩ := open_string Tryd.underlying9 (hval 1 9 v1 rfl rfl) h1
  clear hA0 hval0
  simp only [List.append_nil] at hW'
  refine (walk a0 a1 (small_of hk) W hsh hL).mono fun e W' ⟨he, hb⟩ => ?_
  subst he
  exact ⟨_, rfl, _, _, _, [], [], [], hW', (trodAll_cons_mk (shut_bool Tryd.underlying4 _) trodAll_mk0), (trodAll_cons_mk (shut_string Tryd.underlying9 w0) (trodAll_cons_mk (shut_string Tryd.underlying9 w1) trodAll_mk0)), rfl, hb.frame _, fun h => by cases h⟩

theorem reads (os : Os) {H : Type} (enc : TypeId × Value → H) : ∃ places, DataW.whole enc Tryd.prog ((laidIn (World.holding Tryd.prog os ⟨#[], #[], []⟩)).forCall (fun _ _ => 0) ⟨#[], #[.string ByteArray.empty, .string ByteArray.empty], []⟩).memory Tryd.f3.params.toList Rows.headOnceSpec.vars false (#[.string ByteArray.empty, .string ByteArray.empty] : Array Value).toList 8 = some ([.lit (.string []), .lit (.string [])], [], places) :=
  ⟨[], by kernel_rfl⟩
theorem laid_met (os : Os) : laidMet Tryd.prog Rows.headOnceUptoRow.laid ((laidIn (World.holding Tryd.prog os ⟨#[], #[], []⟩)).forCall (fun _ _ => 0) ⟨#[], #[.string ByteArray.empty, .string ByteArray.empty], []⟩).memory :=
  laidMet_of_run' 8 (by kernel_rfl) (by kernel_rfl)

set_option maxRecDepth 100000 in
theorem lifted (os : Os) (started : os.Started) (H : Type) (enc : TypeId × Value → H) (F : Stop.Interp) :
    ReturnsInHanded {} Tryd.checked os 3 .any ((Rows.OpenSpec.upto Rows.headOnceSpec).preRow enc Tryd.prog Tryd.f3 Rows.headOnceUptoRow.domain false Rows.headOnceUptoRow.laid) (((Rows.OpenSpec.upto Rows.headOnceSpec).at F).post enc Tryd.prog Tryd.f3 false true false false) := by
  obtain ⟨places, hx⟩ := reads os enc
  refine returnsInHanded_of_row (C := Tryd.checked) (s := Rows.OpenSpec.upto Rows.headOnceSpec) own started (by kernel_rfl) Tryd.func3
    (witness_row_at (enc := enc) (C := Tryd.checked) false (laidIn (World.holding Tryd.prog os ⟨#[], #[], []⟩)) #[.string ByteArray.empty, .string ByteArray.empty] rfl (by kernel_rfl) (by kernel_rfl) (by kernel_rfl)
      (OpenSpec.preRow_of_cond 8 hx (by kernel_rfl) (fun k hk => by cases hk; kernel_rfl) (by kernel_rfl) (laid_met os))) ?_
  intro W base args ds gs before hval hW _ hcond _ hL hsh _
  exact contract H enc W base args ds gs before hsh hval hW (hcond _ rfl) hL

theorem row : Rows.HeadOnceUptoSaid :=
  OpenClaim.holds_of_cond 3 Tryd.f3 rfl rfl rfl rfl rfl rfl rfl ⟨rfl, rfl, rfl, rfl, rfl⟩ rfl rfl rfl rfl rfl (by kernel_rfl) Tryd.func3 (by kernel_rfl)
    (of_decide_eq_true (by kernel_rfl)) (by unfold Func.isWrapper; first | (rw [if_pos (by decide +kernel)]; kernel_rfl) | (rw [if_neg (by decide +kernel)]; exact ⟨rfl, rfl⟩))
    (fun os started H enc _ F => by rw [OpenClaim.pre_eq_preRow]; exact lifted os started H enc F)

theorem plain (f : FuncId) (fn : Func) (hf : Tryd.pinned.checked.prog.funcNamed "gatewicket/wickkeep.HeadOnce" = some f) (hfn : Tryd.pinned.checked.prog.funcs[f]? = some fn) :
    false = Tryd.pinned.checked.prog.looks [] ∧ ∀ (j : Nat) t, fn.params[j]? = some t → Tryd.pinned.checked.prog.wantsStandIn t = false := by
  obtain rfl : f = 3 := Option.some.inj ((show Tryd.prog.funcNamed "gatewicket/wickkeep.HeadOnce" = some 3 by kernel_rfl).symm.trans hf) |>.symm
  obtain rfl : fn = Tryd.f3 := (Option.some.inj (Tryd.func3.symm.trans hfn)).symm
  refine ⟨by kernel_rfl, fun j t ht => ?_⟩
  rw [Tryd.params3] at ht
  have hm : t = 9 := by simpa using Array.mem_of_getElem? ht
  subst hm
  exact (show Tryd.prog.wantsStandIn 9 = false by kernel_rfl)

theorem over : Rows.HeadOnceUptoCardSaid :=
  Claim7.holds_tied_plain_at .later [] _ _ _ _ row (fun _ h => by cases h) (by kernel_rfl) (fun _ h => by cases h) headOnceUpto_row_tie rfl ⟨rfl, rfl⟩ (by kernel_rfl) rfl plain (by kernel_rfl)
end Go.Proofs.YtloidooaebhliabDoor.headOnce
namespace Go.Proofs.YtloidooaebhliabDoor
theorem headOnce_holds : Rows.HeadOnceUptoCardSaid := headOnce.over
#print axioms headOnce_holds
end Go.Proofs.YtloidooaebhliabDoor
