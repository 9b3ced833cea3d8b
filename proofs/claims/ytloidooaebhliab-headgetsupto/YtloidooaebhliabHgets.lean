/- What is got of one name is no other name's, and all that is got together are all: whatever is handed in.
   Conditions: what is handed in is of bulk at most 1048576. -/
import Derived.Test.YtloidooaebhliabRows
import Derived.WalkKit
import Derived.ProofKit
import Derived.OpenShut
import Derived.ShutString
import Derived.JoinedCond
import Derived.Test.YtloidooaebhliabMe
import Derived.Test.YtloidooaebhliabWrap
import Derived.Test.YtloidooaebhliabShelf
import Derived.Lib.SlicesS
import Derived.Deep.RegionHeld3
namespace Go.Proofs.Ytloidooaebhliab
open Go.RowKit Kb
open Mh (Fl)
set_option linter.unusedVariables false
set_option maxRecDepth 20000
namespace Mh
/-- how many fields have a name of these -/
def cnt (N : List L8) (fs : List Fl) : Nat := (fs.filter fun f => decide (lower f.1 ∈ N)).length
theorem cnt_nil : ∀ fs : List Fl, cnt [] fs = 0 := fun fs => by unfold cnt; simp
theorem cnt_new (N : List L8) (n : L8) (hn : n ∉ N) : ∀ fs : List Fl, cnt (N ++ [n]) fs = cnt N fs + (gets n fs).length
  | [] => rfl
  | f :: r => by
    have ih := cnt_new N n hn r
    unfold cnt gets at ih ⊢
    rw [List.length_map] at ih ⊢
    by_cases h1 : lower f.1 = n
    · have h2 : lower f.1 ∉ N := by rw [h1]; exact hn
      rw [List.filter_cons_of_pos (by simp [h1]), List.filter_cons_of_neg (by simpa using h2), List.filter_cons_of_pos (by simpa using h1), List.length_cons, List.length_cons, ih]; omega
    · by_cases h2 : lower f.1 ∈ N
      · rw [List.filter_cons_of_pos (by simp [h2]), List.filter_cons_of_pos (by simpa using h2), List.filter_cons_of_neg (by simpa using h1), List.length_cons, List.length_cons, ih]; omega
      · rw [List.filter_cons_of_neg (by simp [h1, h2]), List.filter_cons_of_neg (by simpa using h2), List.filter_cons_of_neg (by simpa using h1), ih]
theorem cnt_all (N : List L8) (fs : List Fl) (h : ∀ f ∈ fs, lower f.1 ∈ N) : cnt N fs = fs.length := by
  unfold cnt
  rw [List.filter_eq_self.2 (fun f hf => by simpa using h f hf)]
theorem gets_mem {fs : List Fl} {f : Fl} (h : f ∈ fs) : f.2 ∈ gets (lower f.1) fs := by
  unfold gets
  exact List.mem_map.2 ⟨f, List.mem_filter.2 ⟨h, by simp⟩, rfl⟩
theorem cnt_le (N : List L8) (fs : List Fl) : cnt N fs ≤ fs.length := List.length_filter_le _ _
end Mh
theorem contains_any (w : World) (B : Nat) (v : Value) (l : List (List UInt8)) (x : ByteArray) (h : w.ownsRow B 9 1 v l.length (cellsS l)) (hl : l.length ≤ 8796093022208) :
    Calls Try.prog 6 #[v, .string x] w fun e w' => e = .returned (.bool (decide (x.data.toList ∈ l))) ∧ w' = w := by
  by_cases hn : l = []
  · subst hn
    obtain ⟨o1, c1, rfl, _⟩ := own_forms h
    refine (Try.slices_Contains_string_empty o1 c1 x w).mono ?_
    rintro e w' ⟨rfl, rfl⟩
    exact ⟨by simp, rfl⟩
  · obtain ⟨g1, c1, rfl, _⟩ := own_form h (List.length_pos_iff.2 hn)
    refine (Try.slices_Contains_string g1 0 l.length c1 (l.map mk) x w (by simp) (by omega) ?_).mono ?_
    · intro j hj
      rw [List.length_map] at hj
      rw [Nat.zero_add, h.cellAt j (by omega), cellsS, List.getElem?_map, List.getElem?_eq_getElem hj, List.getD, List.getElem?_map, List.getElem?_eq_getElem hj]; rfl
    · rintro e w' ⟨rfl, rfl⟩
      refine ⟨?_, rfl⟩
      have : Lib.containsS ((l.map mk).take l.length) x = decide (x.data.toList ∈ l) := by
        rw [Bool.eq_iff_iff, Lib.containsS_iff, decide_eq_true_eq, List.take_of_length_le (by simp), List.mem_map]
        constructor
        · rintro ⟨a, ha, rfl⟩; simpa [mk] using ha
        · intro hx; exact ⟨_, hx, mk_data x⟩
      rw [this]
end Go.Proofs.Ytloidooaebhliab
namespace Go.Proofs.Ytloidooaebhliab.headGets
open Go.ChangeShapes Go.WideShapes Go.ChangeAt Go.RowKit
open Go.ChangeMaps (open_string shut_string)
open Kb
open Mh (Fl)
set_option linter.unusedVariables false

set_option maxHeartbeats 4000000 in
theorem walk (m t : List UInt8) (u : Value) (fs : List Fl) (hb : 0 ≤ 1048576) (w : World) (hu : Flds w u fs) (hz : m.length + t.length ≤ 1048576 ∧ fs.length ≤ 1048576 ∧ ∀ f ∈ fs, f.1.length + f.2.length ≤ 1048576) :
    Calls Try.prog 3 #[headV m t u] w fun e w' => e = .returned (.bool true) ∧ Below w.heap.size w w' := by
  obtain ⟨hmt, hfl, hff⟩ := hz
  have hff' : ∀ f ∈ fs, f.1.length + f.2.length ≤ 68719476736 := fun f hf => by have := hff f hf; omega
  have HFF := hide hff
  have HU := hide hu
  have HG := hide (fun (name : ByteArray) (hn : name.size ≤ 68719476736) W (h : Below w.heap.size w W) => hget_any m t u fs name W (hu.below h) hn hff' _ rfl)
  obtain ⟨i0, hi, hz0, hz1, hz2⟩ := info_parts infoS
  clear hff hff' hmt
  unfold headV at HG ⊢
  obtain ⟨o, c, rfl, hc⟩ := hu.form
  obtain ⟨x, hx⟩ : ∃ x, mk m = x := ⟨_, rfl⟩
  obtain ⟨y, hy⟩ : ∃ y, mk t = y := ⟨_, rfl⟩
  rw [hx, hy] at HG ⊢
  clear hx hy hu
  have B0 := hide ((Below.refl w.heap.size w).alloc (Nat.le_refl _) (.cells #[.string x, .string y, .slice o fs.length c] 24))
  obtain ⟨z0, z1, z2⟩ := three_newF w (.string x) (.string y) (.slice o fs.length c) 24
  have hlt0 : w.heap.size < (w.alloc (.cells #[.string x, .string y, .slice o fs.length c] 24)).heap.size := by simp
  obtain ⟨W0, hW0⟩ : ∃ W0, w.alloc (.cells #[.string x, .string y, .slice o fs.length c] 24) = W0 := ⟨_, rfl⟩
  rw [hW0] at z0 z1 z2 B0 hlt0
  have HS : Hid (∀ W, Below W0.heap.size W0 W → W.cell? ⟨w.heap.size, 0, none⟩ = some (.string x) ∧ W.cell? ⟨w.heap.size, 1, none⟩ = some (.string y) ∧ W.cell? ⟨w.heap.size, 2, none⟩ = some (.slice o fs.length c) ∧ Below W0.heap.size W0 W) :=
    hide (fun W h => ⟨cell_below z0 hlt0 h, cell_below z1 hlt0 h, cell_below z2 hlt0 h, h⟩)
  have HW : Hid (∀ W, Below W0.heap.size W0 W → Below w.heap.size w W) := hide (fun W h => bel_trans (unhide B0) h)
  have bb := (Below.refl W0.heap.size W0).alloc (Nat.le_refl _) (.cells #[.string ⟨#[65]⟩, .string ⟨#[49]⟩, .string ⟨#[98]⟩, .string ⟨#[50]⟩, .string ⟨#[97]⟩, .string ⟨#[51]⟩] 28)
  have F0 : Flds (W0.alloc (.cells #[.string ⟨#[65]⟩, .string ⟨#[49]⟩, .string ⟨#[98]⟩, .string ⟨#[50]⟩, .string ⟨#[97]⟩, .string ⟨#[51]⟩] 28)) (.slice (some ⟨W0.heap.size, 0, none⟩) 3 3) [([65], [49]), ([98], [50]), ([97], [51])] :=
    Flds.own (B := W0.heap.size) (World.ownsRow_lit (e := 28) (size := 2) (base := W0.heap.size) W0 #[.string ⟨#[65]⟩, .string ⟨#[49]⟩, .string ⟨#[98]⟩, .string ⟨#[50]⟩, .string ⟨#[97]⟩, .string ⟨#[51]⟩] 3 (Nat.le_refl _) (by unfold maxLen; omega) rfl) (by decide)
  obtain ⟨W1, hW1⟩ : ∃ W1, W0.alloc (.cells #[.string ⟨#[65]⟩, .string ⟨#[49]⟩, .string ⟨#[98]⟩, .string ⟨#[50]⟩, .string ⟨#[97]⟩, .string ⟨#[51]⟩] 28) = W1 := ⟨_, rfl⟩
  rw [hW1] at bb F0
  have HG0 : Hid (Calls Try.prog 4 #[.agg #[.string ⟨#[]⟩, .string ⟨#[]⟩, .slice (some ⟨W0.heap.size, 0, none⟩) 3 3], .string ⟨#[65]⟩] W1 fun e w' => ∃ v, e = .returned v ∧ w'.ownsRow W1.heap.size 9 1 v 2 (cellsS [[49], [51]]) ∧ Below W1.heap.size W1 w') :=
    hide (hget_any [] [] _ _ ⟨#[65]⟩ W1 F0 (by decide) (by decide) [[49], [51]] (by decide))
  have B1 := hide bb
  clear bb F0
  go_enter Try.func3, Try.ntmps3
  go_wp2_with fail
  clear hW1 hW0
  refine (unhide HG0).mono ?_; rintro e w2 ⟨v, rfl, own2, b2⟩
  have B2 := hide (bel_trans (unhide B1) b2)
  have OB : (w2.alloc (.cells #[.string ⟨#[49]⟩, .string ⟨#[51]⟩] 9)).ownsRow w2.heap.size 9 1 (.slice (some ⟨w2.heap.size, 0, none⟩) 2 2) 2 (cellsS [[49], [51]]) :=
    World.ownsRow_lit (e := 9) (size := 1) (base := w2.heap.size) w2 #[.string ⟨#[49]⟩, .string ⟨#[51]⟩] 2 (Nat.le_refl _) (by unfold maxLen; omega) rfl
  have bb := (Below.refl w2.heap.size w2).alloc (Nat.le_refl _) (.cells #[.string ⟨#[49]⟩, .string ⟨#[51]⟩] 9)
  have HEQ := hide (equal_strs _ _ _ v _ [[49], [51]] (own_below own2 bb) OB (by decide))
  have B3 := hide (bel_trans (unhide B2) bb)
  clear OB bb own2 b2 B1 HG0 B2 z0 z1 z2
  go_wp2_with fail
  refine (unhide HEQ).mono ?_; rintro e w3 ⟨rfl, b3⟩
  have B4 := hide (bel_trans (unhide B3) b3)
  clear b3 B3 HEQ
  obtain ⟨y0, y1, y2, -⟩ := (unhide HS) w3 (unhide B4)
  go_wp2_with fail
  go_loopw [4, 5, 21] (fun v n i wr => ∃ (k : Nat) (N : List (List UInt8)), i = .int .i64 k ∧ k ≤ fs.length ∧ N.length ≤ k ∧ wr.ownsRow w3.heap.size 9 1 v N.length (cellsS N) ∧ n = .int .i64 (Mh.cnt N fs) ∧ (∀ f ∈ fs.take k, lower f.1 ∈ N) ∧ Below w3.heap.size w3 wr) (fun _ _ i _ => fs.length - (intOf i).toNat)
  case atStart => exact ⟨0, [], rfl, Nat.zero_le _, Nat.le_refl _, World.ownsRow_nil _ _ _ _, by rw [Mh.cnt_nil]; rfl, by simp, Below.refl _ _⟩
  case round =>
    obtain ⟨k, N, rfl, hk, hnk, hown, rfl, hall, hbel⟩ := hrel
    have HB := hide hbel
    have hB := hbel.size
    have OWN := hide hown
    have HALL := hide hall
    obtain ⟨x0, x1, x2, -⟩ := (unhide HS) wr (bel_trans (unhide B4) hbel)
    have hcl := Mh.cnt_le N fs
    clear hbel hown hall y0 y1 y2
    by_cases hlt : k < fs.length
    · obtain ⟨f, hf⟩ : ∃ f, fs[k]? = some f := ⟨fs[k], List.getElem?_eq_getElem hlt⟩
      obtain ⟨g, off, c', hv, hg, hcell⟩ := ((unhide HU).below ((unhide HW) wr (bel_trans (unhide B4) (unhide HB)))).at_ (by intro e; rw [e] at hlt; cases hlt)
      cases hv
      obtain ⟨l0, l1⟩ := hcell k f hf
      have hmem := List.mem_of_getElem? hf
      have HIN := hide (Mh.gets_mem hmem)
      have HTK : Hid (∀ p ∈ fs.take (k + 1), p ∈ fs.take k ∨ p = f) := hide (fun p hp => by
        rw [List.take_add_one, hf] at hp
        rcases List.mem_append.1 hp with h | h
        · exact .inl h
        · exact .inr (by simpa using h))
      have hfl2 := (unhide HFF) f hmem
      have HNEW := hide (fun h => Mh.cnt_new N (lower f.1) h fs)
      have hgl : (Mh.gets (lower f.1) fs).length ≤ 1048576 := Nat.le_trans (Mh.gets_len _ _) hfl
      obtain ⟨a, ha⟩ : ∃ a, mk f.1 = a := ⟨_, rfl⟩
      obtain ⟨b, hb⟩ : ∃ b, mk f.2 = b := ⟨_, rfl⟩
      have ha' : f.1 = a.data.toList := by rw [← ha]; simp [mk]
      have hb' : f.2 = b.data.toList := by rw [← hb]; simp [mk]
      rw [ha] at l0
      rw [hb] at l1
      rw [ha', hb'] at hfl2
      rw [ha', hb'] at HIN
      rw [ha'] at HNEW hgl
      rw [len_data, len_data] at hfl2
      have HKN : Hid (∀ N' : List (List UInt8), (∀ p ∈ fs.take k, lower p.1 ∈ N') → lower a.data.toList ∈ N' → ∀ p ∈ fs.take (k + 1), lower p.1 ∈ N') := hide (fun N' h1 h2 p hp => by
        rcases (unhide HTK) p hp with h | h
        · exact h1 p h
        · rw [h, ha']; exact h2)
      have HGA := hide (fun W h => (unhide HG) a (by omega) W h)
      obtain ⟨gs, hgs⟩ : ∃ gs, Mh.gets (lower a.data.toList) fs = gs := ⟨_, rfl⟩
      rw [hgs] at HGA HIN HNEW hgl
      obtain ⟨q, hq⟩ := ex_list (lower a.data.toList)
      have HLA := hide (fun W => lower_any a W (by omega))
      rw [back_list q _ hq] at HLA
      rw [← hq] at HNEW HKN
      clear ha hb ha' hb' hcell hf hmem HTK hgs hq
      have HBB := hide ((unhide HB).alloc hB (.cells #[.string a, .string b] 28))
      obtain ⟨v0, v1⟩ := two_newF wr (.string a) (.string b) 28
      have OW2 := hide ((unhide OWN).alloc (.cells #[.string a, .string b] 28))
      have hltr : wr.heap.size < (wr.alloc (.cells #[.string a, .string b] 28)).heap.size := by simp
      have HBB' := unhide HBB
      obtain ⟨WR, hWR⟩ : ∃ WR, wr.alloc (.cells #[.string a, .string b] 28) = WR := ⟨_, rfl⟩
      rw [hWR] at v0 v1 OW2 hltr HBB'
      have BRR : Below wr.heap.size wr WR := by rw [← hWR]; exact (Below.refl _ _).alloc (Nat.le_refl _) _
      have HBR := hide HBB'
      have HCELL : Hid (∀ W, Below WR.heap.size WR W → W.cell? ⟨w.heap.size, 0, none⟩ = some (.string x) ∧ W.cell? ⟨w.heap.size, 1, none⟩ = some (.string y) ∧ W.cell? ⟨w.heap.size, 2, none⟩ = some (.slice (some ⟨g, off, none⟩) fs.length c) ∧ W.cell? ⟨wr.heap.size, 0, none⟩ = some (.string a) ∧ W.cell? ⟨wr.heap.size, 1, none⟩ = some (.string b)) := hide (fun W h => by
        obtain ⟨e0, e1, e2, -⟩ := (unhide HS) W (bel_trans (unhide B4) (bel_trans (unhide HBR) h))
        exact ⟨e0, e1, e2, cell_below v0 hltr h, cell_below v1 hltr h⟩)
      have HBW : Hid (∀ W, Below WR.heap.size WR W → Below w.heap.size w W) := hide (fun W h => unhide HW W (bel_trans (unhide B4) (bel_trans (unhide HBR) h)))
      have HB3 : Hid (∀ W, Below WR.heap.size WR W → Below w3.heap.size w3 W) := hide (fun W h => bel_trans (unhide HBR) h)
      clear HBB HBB' BRR HG
      go_wp2_with fail
      clear hWR x0 x1 x2 l0 l1
      refine ((unhide HLA) _).mono ?_; rintro e w5 ⟨rfl, b5⟩
      have NEF : some wr.heap.size ≠ u4.ownBlock := fun e => by have := (unhide OWN).lt wr.heap.size e.symm; omega
      have O5 := hide (own_below (unhide OW2) b5)
      obtain ⟨uu0, uu1, uu2, uu3, uu4⟩ := unhide HCELL w5 b5
      have B5 := hide b5
      clear b5 v0 v1
      have HCO := hide (contains_any w5 _ _ N q (unhide O5) (by omega))
      by_cases hin : q.data.toList ∈ N
      · rw [decide_eq_true hin] at HCO
        have HN' := hide (unhide HKN N (unhide HALL) hin)
        clear HKN HNEW hin HLA
        go_wp2_with fail
        refine (unhide HCO).mono ?_; rintro e wx ⟨rfl, hwx⟩; rw [hwx]; clear hwx wx HCO
        have BQ := B5
        clear uu0 uu1 uu2 uu3 uu4

        obtain ⟨q0, q1, q2, r0, r1⟩ := unhide HCELL w5 (unhide BQ)
        have HSS : ∀ W, Below w5.heap.size w5 W → (W.cell? ⟨w.heap.size, 0, none⟩ = some (.string x) ∧ W.cell? ⟨w.heap.size, 1, none⟩ = some (.string y) ∧ W.cell? ⟨w.heap.size, 2, none⟩ = some (.slice (some ⟨g, off, none⟩) fs.length c) ∧ W.cell? ⟨wr.heap.size, 0, none⟩ = some (.string a) ∧ W.cell? ⟨wr.heap.size, 1, none⟩ = some (.string b) ∧ Below w5.heap.size w5 W) := fun W h => by
          obtain ⟨e0, e1, e2, e3, e4⟩ := unhide HCELL W (bel_trans (unhide BQ) h)
          exact ⟨e0, e1, e2, e3, e4, h⟩
        have HGG : ∀ W, Below w5.heap.size w5 W → Calls Try.prog 4 #[.agg #[.string x, .string y, .slice (some ⟨g, off, none⟩) fs.length c], .string a] W fun e W' => ∃ v, e = .returned v ∧ W'.ownsRow W.heap.size 9 1 v gs.length (cellsS gs) ∧ Below w5.heap.size w5 W' := fun W h => ((unhide HGA) W (unhide HBW W (bel_trans (unhide BQ) h))).mono fun e W' ⟨v, k1, k2, k3⟩ => ⟨v, k1, k2, bel_trans h k3⟩
        have HCC : ∀ W B v, Below w5.heap.size w5 W → W.ownsRow B 9 1 v gs.length (cellsS gs) → Calls Try.prog 6 #[v, .string b] W fun e W' => e = .returned (.bool true) ∧ Below w5.heap.size w5 W' := fun W B v h k => (contains_any W B v gs b k (by omega)).mono fun e W' ⟨k1, k2⟩ => ⟨by rw [k1, decide_eq_true (unhide HIN)], by rw [k2]; exact h⟩
        have s2 := HSS w5 (Below.refl _ _)
        obtain ⟨Sb, hSb⟩ : ∃ Q : World → Prop, Below w5.heap.size w5 = Q := ⟨_, rfl⟩
        rw [hSb] at s2
        have FG : Hid (∀ W, Sb W → Calls Try.prog 4 #[.agg #[.string x, .string y, .slice (some ⟨g, off, none⟩) fs.length c], .string a] W fun e W' => ∃ v, e = .returned v ∧ W'.ownsRow W.heap.size 9 1 v gs.length (cellsS gs) ∧ Sb W') := hide (by rw [← hSb]; exact HGG)
        have FCN : Hid (∀ W B v, Sb W → W.ownsRow B 9 1 v gs.length (cellsS gs) → Calls Try.prog 6 #[v, .string b] W fun e W' => e = .returned (.bool true) ∧ Sb W') := hide (by rw [← hSb]; exact HCC)
        have FS : Hid (∀ W, Sb W → (W.cell? ⟨w.heap.size, 0, none⟩ = some (.string x) ∧ W.cell? ⟨w.heap.size, 1, none⟩ = some (.string y) ∧ W.cell? ⟨w.heap.size, 2, none⟩ = some (.slice (some ⟨g, off, none⟩) fs.length c) ∧ W.cell? ⟨wr.heap.size, 0, none⟩ = some (.string a) ∧ W.cell? ⟨wr.heap.size, 1, none⟩ = some (.string b) ∧ Sb W)) := hide (by rw [← hSb]; exact HSS)
        have FC : Hid (∀ W, (W.cell? ⟨w.heap.size, 0, none⟩ = some (.string x) ∧ W.cell? ⟨w.heap.size, 1, none⟩ = some (.string y) ∧ W.cell? ⟨w.heap.size, 2, none⟩ = some (.slice (some ⟨g, off, none⟩) fs.length c) ∧ W.cell? ⟨wr.heap.size, 0, none⟩ = some (.string a) ∧ W.cell? ⟨wr.heap.size, 1, none⟩ = some (.string b) ∧ Sb W) → (W.drew.cell? ⟨w.heap.size, 0, none⟩ = some (.string x) ∧ W.drew.cell? ⟨w.heap.size, 1, none⟩ = some (.string y) ∧ W.drew.cell? ⟨w.heap.size, 2, none⟩ = some (.slice (some ⟨g, off, none⟩) fs.length c) ∧ W.drew.cell? ⟨wr.heap.size, 0, none⟩ = some (.string a) ∧ W.drew.cell? ⟨wr.heap.size, 1, none⟩ = some (.string b) ∧ Sb W.drew)) := hide (fun W h => unhide FS _ (by have := h.2.2.2.2.2; rw [← hSb] at this ⊢; exact this.drew))
        have FX : Hid (∀ W, (W.cell? ⟨w.heap.size, 0, none⟩ = some (.string x) ∧ W.cell? ⟨w.heap.size, 1, none⟩ = some (.string y) ∧ W.cell? ⟨w.heap.size, 2, none⟩ = some (.slice (some ⟨g, off, none⟩) fs.length c) ∧ W.cell? ⟨wr.heap.size, 0, none⟩ = some (.string a) ∧ W.cell? ⟨wr.heap.size, 1, none⟩ = some (.string b) ∧ Sb W) → Sb W) := hide (fun W h => h.2.2.2.2.2)
        have HOUT : Hid (∀ W, Sb W → Below w5.heap.size w5 W) := hide (by rw [← hSb]; exact fun W h => h)
        clear HGG HCC HSS hSb
        go_wp2_with fail
        go_region_held3 (fun W => W.cell? ⟨w.heap.size, 0, none⟩ = some (.string x) ∧ W.cell? ⟨w.heap.size, 1, none⟩ = some (.string y) ∧ W.cell? ⟨w.heap.size, 2, none⟩ = some (.slice (some ⟨g, off, none⟩) fs.length c) ∧ W.cell? ⟨wr.heap.size, 0, none⟩ = some (.string a) ∧ W.cell? ⟨wr.heap.size, 1, none⟩ = some (.string b) ∧ Sb W) (first | assumption | exact unhide FC _ (by assumption) | exact unhide FS _ (by assumption))
          (first
            | (go_at_call 4; refine (unhide FG _ (unhide FX _ (by assumption))).mono ?_; rintro e w' ⟨v1, rfl, own1, hw'⟩)
            | (go_at_call 6; refine (unhide FCN _ _ _ (unhide FX _ (by assumption)) own1).mono ?_; rintro e w' ⟨rfl, hw'⟩))
        clear FS FC FG FCN
        have BE := hide (unhide HOUT _ (unhide FX _ (by assumption)))
        go_wp2_with fail
        exact ⟨⟨k + 1, N, by go_num, by omega, by omega, own_below (unhide O5) (unhide BE), rfl, unhide HN', unhide HB3 _ (bel_trans (unhide BQ) (unhide BE))⟩, by simp [intOf]; omega⟩
      · rw [decide_eq_false hin] at HCO
        have HN' := hide (unhide HKN (N ++ [q.data.toList]) (fun p hp => List.mem_append_left _ (unhide HALL p hp)) (by simp))
        have HCN := hide (unhide HNEW hin)
        clear HKN HNEW hin
        obtain ⟨n, hn⟩ : ∃ n, N.length = n := ⟨_, rfl⟩
        rw [hn] at O5 hnk
        have HNN := hide hn
        clear hn
        have b3 : n + 1 ≤ maxLen := by unfold maxLen; omega
        have b4 : (n + 1) * 16 ≤ 140737488355328 := by omega
        go_wp2_with fail
        refine (unhide HCO).mono ?_; rintro e wx ⟨rfl, hwx⟩; rw [hwx]; clear hwx wx HCO
        go_wp2_with fail
        refine ((unhide HLA) _).mono ?_; rintro e w6 ⟨rfl, b6⟩
        have O6 := hide (own_below (unhide O5) b6)
        have B6 := hide (bel_trans (unhide B5) b6)
        have B63 := hide ((unhide HB3) w6 (unhide B6))
        have hB6 := (unhide B63).size
        have hR6 := (unhide B6).size
        have f0 := (unhide HCELL w6 (unhide B6)).2.2.2
        have hltw6 : wr.heap.size < w6.heap.size := Nat.lt_of_lt_of_le hltr hR6
        have bal := (Below.refl w6.heap.size w6).alloc (Nat.le_refl _) (.cells #[.string q] 9)
        have HAP : Hid (∀ w7, (w6.alloc (.cells #[.string q] 9)).grownBy w7 u4.ownBlock → w7.cell? ⟨w.heap.size, 0, none⟩ = some (.string x) ∧ w7.cell? ⟨w.heap.size, 1, none⟩ = some (.string y) ∧ w7.cell? ⟨w.heap.size, 2, none⟩ = some (.slice (some ⟨g, off, none⟩) fs.length c) ∧ w7.cell? ⟨wr.heap.size, 0, none⟩ = some (.string a) ∧ w7.cell? ⟨wr.heap.size, 1, none⟩ = some (.string b) ∧ wr.heap.size < w7.heap.size ∧ Below w3.heap.size w3 w7) := hide (fun w7 grow7 => by
          have B73 := ((unhide B63).alloc hB6 (.cells #[.string q] 9)).grown grow7 (by simp; omega) (own_lt (unhide O6))
          obtain ⟨p0, p1, p2, -⟩ := unhide HS w7 (bel_trans (unhide B4) B73)
          exact ⟨p0, p1, p2, grow7.cell (cell_below f0.1 hltw6 bal) NEF, grow7.cell (cell_below f0.2 hltw6 bal) NEF, Nat.lt_of_lt_of_le (Nat.lt_of_lt_of_le hltw6 bal.size) grow7.size, B73⟩)
        clear f0 bal
        clear b6 HLA uu0 uu1 uu2 uu3 uu4 O5 B5
        go_wp2_with (at_builtin; refine wpList_append_own _ rfl _ _ 25 rfl w3.heap.size 9 i0 (.string ByteArray.empty) 1 16 Try.underlying25 hi hz0 hz1 hz2 rfl (by decide) _ n (cellsS N) rfl ((unhide O6).alloc _) _ 1 1 _ rfl rfl (cell_one_n _ _ _) (by simp [Value.oneCell']) b3 b4 (by simp; omega) ?_; intro v2 w7 own7 grow7 _; obtain ⟨p0, p1, p2, f70, f71, hlt7, b73⟩ := unhide HAP w7 grow7)
        have B73 := hide b73
        have O7 : Hid (w7.ownsRow w3.heap.size 9 1 v2 (N ++ [q.data.toList]).length (cellsS (N ++ [q.data.toList]))) := hide (by
          rw [cellsS_append, List.length_append, unhide HNN]
          show World.ownsRow _ _ _ _ _ _ (cellsS N ++ [Value.string (mk q.data.toList)])
          rw [mk_data]; exact own7)
        clear HCELL HBW HB3 own7 grow7 b73 B63 B6 O6 NEF HAP
        have HCELL : Hid (∀ W, Below w7.heap.size w7 W → W.cell? ⟨w.heap.size, 0, none⟩ = some (.string x) ∧ W.cell? ⟨w.heap.size, 1, none⟩ = some (.string y) ∧ W.cell? ⟨w.heap.size, 2, none⟩ = some (.slice (some ⟨g, off, none⟩) fs.length c) ∧ W.cell? ⟨wr.heap.size, 0, none⟩ = some (.string a) ∧ W.cell? ⟨wr.heap.size, 1, none⟩ = some (.string b)) := hide (fun W h => by
          obtain ⟨e0, e1, e2, -⟩ := (unhide HS) W (bel_trans (unhide B4) (bel_trans (unhide B73) h))
          exact ⟨e0, e1, e2, cell_below f70 hlt7 h, cell_below f71 hlt7 h⟩)
        have HBW : Hid (∀ W, Below w7.heap.size w7 W → Below w.heap.size w W) := hide (fun W h => unhide HW W (bel_trans (unhide B4) (bel_trans (unhide B73) h)))
        have HB3 : Hid (∀ W, Below w7.heap.size w7 W → Below w3.heap.size w3 W) := hide (fun W h => bel_trans (unhide B73) h)
        go_wp2_with fail
        refine ((unhide HGA) w7 (unhide HBW w7 (Below.refl _ _))).mono ?_; rintro e w8 ⟨v8, rfl, own8, b8⟩
        obtain ⟨o8, c8, rfl, -⟩ := own_forms own8
        have BQ := hide b8
        have O8 := hide (own_below (unhide O7) b8)
        clear own8 b8 p0 p1 p2 f70 f71 O7
        go_wp2_with fail
        obtain ⟨q0, q1, q2, r0, r1⟩ := unhide HCELL w8 (unhide BQ)
        have HSS : ∀ W, Below w8.heap.size w8 W → (W.cell? ⟨w.heap.size, 0, none⟩ = some (.string x) ∧ W.cell? ⟨w.heap.size, 1, none⟩ = some (.string y) ∧ W.cell? ⟨w.heap.size, 2, none⟩ = some (.slice (some ⟨g, off, none⟩) fs.length c) ∧ W.cell? ⟨wr.heap.size, 0, none⟩ = some (.string a) ∧ W.cell? ⟨wr.heap.size, 1, none⟩ = some (.string b) ∧ Below w8.heap.size w8 W) := fun W h => by
          obtain ⟨e0, e1, e2, e3, e4⟩ := unhide HCELL W (bel_trans (unhide BQ) h)
          exact ⟨e0, e1, e2, e3, e4, h⟩
        have HGG : ∀ W, Below w8.heap.size w8 W → Calls Try.prog 4 #[.agg #[.string x, .string y, .slice (some ⟨g, off, none⟩) fs.length c], .string a] W fun e W' => ∃ v, e = .returned v ∧ W'.ownsRow W.heap.size 9 1 v gs.length (cellsS gs) ∧ Below w8.heap.size w8 W' := fun W h => ((unhide HGA) W (unhide HBW W (bel_trans (unhide BQ) h))).mono fun e W' ⟨v, k1, k2, k3⟩ => ⟨v, k1, k2, bel_trans h k3⟩
        have HCC : ∀ W B v, Below w8.heap.size w8 W → W.ownsRow B 9 1 v gs.length (cellsS gs) → Calls Try.prog 6 #[v, .string b] W fun e W' => e = .returned (.bool true) ∧ Below w8.heap.size w8 W' := fun W B v h k => (contains_any W B v gs b k (by omega)).mono fun e W' ⟨k1, k2⟩ => ⟨by rw [k1, decide_eq_true (unhide HIN)], by rw [k2]; exact h⟩
        have s2 := HSS w8 (Below.refl _ _)
        obtain ⟨Sb, hSb⟩ : ∃ Q : World → Prop, Below w8.heap.size w8 = Q := ⟨_, rfl⟩
        rw [hSb] at s2
        have FG : Hid (∀ W, Sb W → Calls Try.prog 4 #[.agg #[.string x, .string y, .slice (some ⟨g, off, none⟩) fs.length c], .string a] W fun e W' => ∃ v, e = .returned v ∧ W'.ownsRow W.heap.size 9 1 v gs.length (cellsS gs) ∧ Sb W') := hide (by rw [← hSb]; exact HGG)
        have FCN : Hid (∀ W B v, Sb W → W.ownsRow B 9 1 v gs.length (cellsS gs) → Calls Try.prog 6 #[v, .string b] W fun e W' => e = .returned (.bool true) ∧ Sb W') := hide (by rw [← hSb]; exact HCC)
        have FS : Hid (∀ W, Sb W → (W.cell? ⟨w.heap.size, 0, none⟩ = some (.string x) ∧ W.cell? ⟨w.heap.size, 1, none⟩ = some (.string y) ∧ W.cell? ⟨w.heap.size, 2, none⟩ = some (.slice (some ⟨g, off, none⟩) fs.length c) ∧ W.cell? ⟨wr.heap.size, 0, none⟩ = some (.string a) ∧ W.cell? ⟨wr.heap.size, 1, none⟩ = some (.string b) ∧ Sb W)) := hide (by rw [← hSb]; exact HSS)
        have FC : Hid (∀ W, (W.cell? ⟨w.heap.size, 0, none⟩ = some (.string x) ∧ W.cell? ⟨w.heap.size, 1, none⟩ = some (.string y) ∧ W.cell? ⟨w.heap.size, 2, none⟩ = some (.slice (some ⟨g, off, none⟩) fs.length c) ∧ W.cell? ⟨wr.heap.size, 0, none⟩ = some (.string a) ∧ W.cell? ⟨wr.heap.size, 1, none⟩ = some (.string b) ∧ Sb W) → (W.drew.cell? ⟨w.heap.size, 0, none⟩ = some (.string x) ∧ W.drew.cell? ⟨w.heap.size, 1, none⟩ = some (.string y) ∧ W.drew.cell? ⟨w.heap.size, 2, none⟩ = some (.slice (some ⟨g, off, none⟩) fs.length c) ∧ W.drew.cell? ⟨wr.heap.size, 0, none⟩ = some (.string a) ∧ W.drew.cell? ⟨wr.heap.size, 1, none⟩ = some (.string b) ∧ Sb W.drew)) := hide (fun W h => unhide FS _ (by have := h.2.2.2.2.2; rw [← hSb] at this ⊢; exact this.drew))
        have FX : Hid (∀ W, (W.cell? ⟨w.heap.size, 0, none⟩ = some (.string x) ∧ W.cell? ⟨w.heap.size, 1, none⟩ = some (.string y) ∧ W.cell? ⟨w.heap.size, 2, none⟩ = some (.slice (some ⟨g, off, none⟩) fs.length c) ∧ W.cell? ⟨wr.heap.size, 0, none⟩ = some (.string a) ∧ W.cell? ⟨wr.heap.size, 1, none⟩ = some (.string b) ∧ Sb W) → Sb W) := hide (fun W h => h.2.2.2.2.2)
        have HOUT : Hid (∀ W, Sb W → Below w8.heap.size w8 W) := hide (by rw [← hSb]; exact fun W h => h)
        clear HGG HCC HSS hSb
        go_wp2_with fail
        go_region_held3 (fun W => W.cell? ⟨w.heap.size, 0, none⟩ = some (.string x) ∧ W.cell? ⟨w.heap.size, 1, none⟩ = some (.string y) ∧ W.cell? ⟨w.heap.size, 2, none⟩ = some (.slice (some ⟨g, off, none⟩) fs.length c) ∧ W.cell? ⟨wr.heap.size, 0, none⟩ = some (.string a) ∧ W.cell? ⟨wr.heap.size, 1, none⟩ = some (.string b) ∧ Sb W) (first | assumption | exact unhide FC _ (by assumption) | exact unhide FS _ (by assumption))
          (first
            | (go_at_call 4; refine (unhide FG _ (unhide FX _ (by assumption))).mono ?_; rintro e w' ⟨v1, rfl, own1, hw'⟩)
            | (go_at_call 6; refine (unhide FCN _ _ _ (unhide FX _ (by assumption)) own1).mono ?_; rintro e w' ⟨rfl, hw'⟩))
        clear FS FC FG FCN
        have BE := hide (unhide HOUT _ (unhide FX _ (by assumption)))
        go_wp2_with fail
        exact ⟨⟨k + 1, N ++ [q.data.toList], by go_num, by omega, by rw [List.length_append, unhide HNN]; simp; omega, own_below (unhide O8) (unhide BE), by rw [unhide HCN]; push_cast; rfl, unhide HN', unhide HB3 _ (bel_trans (unhide BQ) (unhide BE))⟩, by simp [intOf]; omega⟩
    · obtain rfl : k = fs.length := by omega
      have HX := hide (Mh.cnt_all N fs (fun f hf => unhide HALL f (by rw [List.take_length]; exact hf)))
      obtain ⟨nn, hnn⟩ : ∃ nn, Mh.cnt N fs = nn := ⟨_, rfl⟩
      rw [hnn] at HX
      have hxx := unhide HX
      have heq : ((nn : Int) == (fs.length : Int)) = true := by rw [hxx]; simp
      rw [hnn]
      clear hnn HX hxx
      go_wp2_with fail
      go_ret
      exact ⟨rfl, unhide HW _ (bel_trans (unhide B4) (unhide HB))⟩
theorem own : ownKnob Try.prog.godebug = none := by kernel_rfl

theorem small_of {H : Type} {a0 : DataW H} (hk : Rows.uptoSmall H ([a0] ++ []) = true) : Rows.uptoBulk a0 ≤ 1048576 := by
  have h := of_decide_eq_true hk
  simp only [Rows.uptoBulkAll, List.append_nil] at h
  omega

set_option maxRecDepth 100000 in
theorem contract (H : Type) (enc : TypeId × Value → H) (W : World) (base : Nat) (args : Array Value) (ds gs : List (DataW H)) (before : List MemPlace) (hsh : W.ShapedOpen Try.prog)
    (hval0 : ∀ (j : Nat) t v, Try.f3.params[j]? = some t → args[j]? = some v → Value.okWide Try.prog W .any base t v)
    (hW : DataW.Whole enc Try.prog Try.f3.params.toList Rows.headGetsSpec.vars false W args.toList ds gs before) (hk : Rows.uptoSmall H (ds ++ gs) = true) :
    Calls Try.prog 3 args W fun e W' => ∃ v, e = .returned v ∧ Rows.headGetsSpec.post enc Try.prog Try.f3 false true false false W args v W' := by
  have hval : ∀ (j : Nat) t v, Try.f3.params[j]? = some t → args[j]? = some v → Value.okWide Try.prog W .any base t v := hval0
  have hW' := hW
  obtain ⟨p, q, hA0, hV, rfl, hfz, hnd⟩ := hW
  have hA : DataW.TrodAll enc Try.prog W 0 (fun _ => true) true Try.f3.params.toList args.toList ds p := hA0
  rw [Try.params3] at hA hval
  obtain ⟨v0, vs0, d0, ds0, p0, q0, hargs, rfl, rfl, h0, r0⟩ := trodAll_cons hA
  obtain ⟨rfl, rfl, rfl⟩ := trodAll_nil r0
  obtain rfl : args = #[v0] := by cases args; simp_all
  obtain ⟨rfl, rfl⟩ := trodVars_none hV
  have hsm := small_of hk
  obtain ⟨m0, t0, u0, f0, rfl, hI0, hz0, hlt0⟩ := open_head_in (hval 0 24 v0 rfl rfl) h0 (by omega)
  clear hA0 hval0
  refine (walk m0 t0 u0 f0 (by omega) W hI0 hz0).mono fun e W' ⟨he, hb⟩ => ?_
  subst he
  exact ⟨_, rfl, _, _, _, [], (p0 ++ []), [], hW', (trodAll_cons_mk (shut_bool Try.underlying4 _) trodAll_mk0), (trodAll_cons_mk (Below.trod laidOutAll (by kernel_rfl) (of_decide_eq_true (by kernel_rfl)) h0 hb hlt0) trodAll_mk0), rfl, hb.frame _, fun h => by cases h⟩

set_option maxRecDepth 100000 in
theorem lifted (os : Os) (started : os.Started) (H : Type) (enc : TypeId × Value → H) (F : Stop.Interp) :
    ReturnsInHanded {} Try.checked os 3 .any ((Rows.OpenSpec.upto Rows.headGetsSpec).pre6 enc Try.prog Try.f3 Rows.headGetsUptoRow.domain false) (((Rows.OpenSpec.upto Rows.headGetsSpec).at F).post enc Try.prog Try.f3 false true false false) := by
  refine cond_shaped (C := Try.checked) (s := Rows.OpenSpec.upto Rows.headGetsSpec) (k := Rows.uptoSmall) rfl own started (by kernel_rfl) Try.func3
    (OpenSpec.witness (enc := enc) (C := Try.checked) (s := Rows.OpenSpec.upto Rows.headGetsSpec) (k := Rows.uptoSmall) rfl false ⟨#[], #[.agg #[.string ByteArray.empty, .string ByteArray.empty, .slice none 0 0]], []⟩ 8 (by kernel_rfl) (by kernel_rfl) (by kernel_rfl)
      (x := ([.agg [.lit (.string []), .lit (.string []), .nil]], [], [])) (by kernel_rfl) rfl (by kernel_rfl)) ?_
  intro W base args ds gs before hsh hval hW hk
  exact contract H enc W base args ds gs before hsh hval hW hk

theorem over : Rows.HeadGetsUptoSaid :=
  OpenClaim.holds_of_cond 3 Try.f3 rfl rfl rfl rfl rfl rfl rfl ⟨rfl, rfl, rfl, rfl, rfl⟩ rfl rfl rfl rfl rfl (by kernel_rfl) Try.func3 (by kernel_rfl)
    (of_decide_eq_true (by kernel_rfl)) (by unfold Func.isWrapper; first | (rw [if_pos (by decide +kernel)]; kernel_rfl) | (rw [if_neg (by decide +kernel)]; exact ⟨rfl, rfl⟩))
    (fun os started H enc _ F => lifted os started H enc F)
end Go.Proofs.Ytloidooaebhliab.headGets
namespace Go.Proofs.Ytloidooaebhliab
theorem headGets_holds : Rows.HeadGetsUptoSaid := headGets.over
#print axioms headGets_holds
end Go.Proofs.Ytloidooaebhliab
