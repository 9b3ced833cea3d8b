/- Walks: the values of fields of one name, the program's and the document's. -/
import Derived.Test.YtmgealcolofomaaDoorMb
import Derived.Test.YtmgealcolofomaaDoorKd
import Derived.Test.YtmgealcolofomaaDoorRc
import Derived.Laws.OwnMore
namespace Go.Proofs.YtmgealcolofomaaDoor
open Go.RowKit Kb
set_option linter.unusedVariables false
set_option maxRecDepth 20000
open Mh (Fl)

namespace Mh
/-- the values of the fields that have a name (in small letters) -/
def gets (n : L8) (fs : List Fl) : List L8 := (fs.filter fun f => decide (lower f.1 = n)).map (·.2)
theorem gets_snoc (n : L8) (fs : List Fl) (k : Nat) (f : Fl) (h : fs[k]? = some f) : gets n (fs.take (k + 1)) = gets n (fs.take k) ++ (if lower f.1 = n then [f.2] else []) := by
  unfold gets
  rw [List.take_add_one, h]
  simp only [Option.toList, List.filter_append, List.map_append]
  congr 1
  by_cases e : lower f.1 = n
  · rw [if_pos e, List.filter_cons_of_pos (by simpa using e)]; rfl
  · rw [if_neg e, List.filter_cons_of_neg (by simpa using e)]; rfl
theorem gets_len (n : L8) (fs : List Fl) : (gets n fs).length ≤ fs.length := by
  unfold gets; rw [List.length_map]; exact List.length_filter_le _ _
end Mh
theorem eq_t {a b : ByteArray} (h : a = b) : (a.toList == b.toList) = true := by rw [h]; simp
theorem own_mono2 {w : World} {B B' e size n : Nat} {v : Value} {xs : List Value} (h : w.ownsRow B e size v n xs) (hB : B' ≤ B) : w.ownsRow B' e size v n xs := by
  obtain ⟨h1, h2⟩ := h
  refine ⟨h1, ?_⟩
  rcases h2 with h2 | ⟨b, cap, cur, h3, h4, h5⟩
  · exact .inl h2
  · exact .inr ⟨b, cap, cur, h3, Nat.le_trans hB h4, h5⟩
theorem cell_one_n (w : World) (a : Value) (t : TypeId) : ∀ j u, [a][j]? = some u → (w.alloc (.cells #[a] t)).cell? ((⟨w.heap.size, 0, none⟩ : Addr).add j) = some u := by
  intro j u hj
  rw [Addr.add_lit, Nat.zero_add, World.cell?_alloc_new w _ _ j]
  simpa using hj
theorem cell_one_b (w : World) (a : Value) (t : TypeId) (b : Nat) (hb : w.heap.size = b) : ∀ j u, [a][j]? = some u → (w.alloc (.cells #[a] t)).cell? ((⟨b, 0, none⟩ : Addr).add j) = some u := by
  subst hb; exact cell_one_n w a t
theorem two_newF (w : World) (a b : Value) (t : TypeId) : (w.alloc (.cells #[a, b] t)).cell? ⟨w.heap.size, 0, none⟩ = some a ∧ (w.alloc (.cells #[a, b] t)).cell? ⟨w.heap.size, 1, none⟩ = some b :=
  ⟨by rw [World.cell?_alloc_new]; rfl, by rw [World.cell?_alloc_new]; rfl⟩
theorem three_newF (w : World) (a b c : Value) (t : TypeId) : (w.alloc (.cells #[a, b, c] t)).cell? ⟨w.heap.size, 0, none⟩ = some a ∧ (w.alloc (.cells #[a, b, c] t)).cell? ⟨w.heap.size, 1, none⟩ = some b ∧ (w.alloc (.cells #[a, b, c] t)).cell? ⟨w.heap.size, 2, none⟩ = some c :=
  ⟨by rw [World.cell?_alloc_new]; rfl, by rw [World.cell?_alloc_new]; rfl, by rw [World.cell?_alloc_new]; rfl⟩
set_option maxHeartbeats 4000000 in
theorem hget_any (m t : List UInt8) (u : Value) (fs : List Fl) (name : ByteArray) (w : World) (hu : Flds w u fs) (hn : name.size ≤ 68719476736) (hfs : ∀ f ∈ fs, f.1.length + f.2.length ≤ 68719476736) (gs : List (List UInt8)) (hgs : Mh.gets (lower name.data.toList) fs = gs) :
    Calls Tryd.prog 46 #[headV m t u, .string name] w fun e w' => ∃ v, e = .returned v ∧ w'.ownsRow w.heap.size 9 1 v gs.length (cellsS gs) ∧ Below w.heap.size w w' := by
  unfold headV
  obtain ⟨o, c, rfl, hc⟩ := hu.form
  have HU := hide hu
  have hroom := hu.room
  have HFS := hide hfs
  have HGS := hide hgs
  clear hu hfs hgs
  obtain ⟨i0, hi, hz0, hz1, hz2⟩ := info_parts infoS
  obtain ⟨q, hq⟩ := ex_list (lower name.data.toList)
  have HL := hide (fun W => lower_any name W (by omega))
  rw [back_list q _ hq] at HL
  rw [← hq] at HGS
  obtain ⟨x, hx⟩ : ∃ x, mk m = x := ⟨_, rfl⟩
  obtain ⟨y, hy⟩ : ∃ y, mk t = y := ⟨_, rfl⟩
  rw [hx, hy]
  clear hx hy hq
  have B0 := hide ((Below.refl w.heap.size w).alloc (Nat.le_refl _) (.cells #[.string x, .string y, .slice o fs.length c] 24))
  obtain ⟨z0, z1, z2⟩ := three_newF w (.string x) (.string y) (.slice o fs.length c) 24
  have hlt0 : w.heap.size < (w.alloc (.cells #[.string x, .string y, .slice o fs.length c] 24)).heap.size := by simp
  obtain ⟨W0, hW0⟩ : ∃ W0, w.alloc (.cells #[.string x, .string y, .slice o fs.length c] 24) = W0 := ⟨_, rfl⟩
  rw [hW0] at z0 z1 z2 B0 hlt0
  go_enter Tryd.func46, Tryd.ntmps46
  go_wp2_with fail
  clear hW0
  refine ((unhide HL) W0).mono ?_; rintro e w1 ⟨rfl, b1⟩
  have B1 := hide (bel_trans (unhide B0) b1)
  have y2 := cell_below z2 hlt0 b1
  clear b1 B0 z0 z1 z2 HL
  go_wp2_with fail
  go_loopw [5, 13] (fun v i wr => ∃ k : Nat, i = .int .i64 k ∧ k ≤ fs.length ∧ wr.ownsRow w1.heap.size 9 1 v (Mh.gets q.data.toList (fs.take k)).length (cellsS (Mh.gets q.data.toList (fs.take k))) ∧ Below w1.heap.size w1 wr) (fun _ i _ => fs.length - (intOf i).toNat)
  case atStart => exact ⟨0, rfl, Nat.zero_le _, World.ownsRow_nil _ _ _ _, Below.refl _ _⟩
  case round =>
    obtain ⟨k, rfl, hk, hown, hbel⟩ := hrel
    have HB := hide hbel
    have hB := hbel.size
    have OWN := hide hown
    clear hbel hown y2
    by_cases hlt : k < fs.length
    · obtain ⟨f, hf⟩ : ∃ f, fs[k]? = some f := ⟨fs[k], List.getElem?_eq_getElem hlt⟩
      obtain ⟨g, off, c', hv, hg, hcell⟩ := (((unhide HU).below (unhide B1)).below (unhide HB)).at_ (by intro e; rw [e] at hlt; cases hlt)
      cases hv
      obtain ⟨l0, l1⟩ := hcell k f hf
      have hsn := Mh.gets_snoc q.data.toList fs k f hf
      have hfl := (unhide HFS) f (List.mem_of_getElem? hf)
      have hgl : (Mh.gets q.data.toList (fs.take k)).length ≤ k := Nat.le_trans (Mh.gets_len _ _) (by rw [List.length_take]; omega)
      obtain ⟨G, hG⟩ : ∃ G, Mh.gets q.data.toList (fs.take k) = G := ⟨_, rfl⟩
      rw [hG] at hsn OWN hgl
      obtain ⟨n, hnn⟩ : ∃ n, G.length = n := ⟨_, rfl⟩
      rw [hnn] at OWN hgl
      have HN := hide hnn
      clear hG hnn
      obtain ⟨a, ha⟩ : ∃ a, mk f.1 = a := ⟨_, rfl⟩
      obtain ⟨b, hb⟩ : ∃ b, mk f.2 = b := ⟨_, rfl⟩
      have ha' : f.1 = a.data.toList := by rw [← ha]; simp [mk]
      have hb' : f.2 = b.data.toList := by rw [← hb]; simp [mk]
      rw [ha] at l0
      rw [hb] at l1
      rw [ha', hb'] at hsn hfl
      rw [len_data, len_data] at hfl
      clear ha hb ha' hb' hcell hf
      obtain ⟨p, hp⟩ := ex_list (lower a.data.toList)
      have HLA := hide (fun W => lower_any a W (by omega))
      rw [back_list p _ hp] at HLA
      rw [← hp] at hsn
      have HSN := hide hsn
      have HCL := hide (fun W => clone_any b W (by omega))
      clear hp hsn
      have BB := (unhide HB).alloc hB (.cells #[.string a, .string b] 57)
      obtain ⟨y0, y1⟩ := two_newF wr (.string a) (.string b) 57
      have OW2 := hide ((unhide OWN).alloc (.cells #[.string a, .string b] 57))
      have hltr : wr.heap.size < (wr.alloc (.cells #[.string a, .string b] 57)).heap.size := by simp
      have HBB := hide BB
      clear BB
      by_cases hpq : p = q
      · have hbq := eq_t hpq
        have HX : Hid (Mh.gets q.data.toList (fs.take (k + 1)) = G ++ [b.data.toList]) := hide (by rw [unhide HSN, hpq, if_pos rfl])
        have b3 : n + 1 ≤ maxLen := by unfold maxLen; omega
        have b4 : (n + 1) * 16 ≤ 140737488355328 := by omega
        clear HSN hpq
        go_wp2_with fail
        refine ((unhide HLA) _).mono ?_; rintro e w2 ⟨rfl, b2⟩
        have B2 := hide ((unhide HBB).trans (b2.mono (unhide HBB).size))
        have O2 := hide (own_below (unhide OW2) b2)
        have x1 := cell_below y1 hltr b2
        clear b2 HLA
        go_wp2_with fail
        refine ((unhide HCL) _).mono ?_; rintro e w3 ⟨rfl, b3'⟩
        have B3 := hide ((unhide B2).trans (b3'.mono (unhide B2).size))
        have O3 := hide (own_below (unhide O2) b3')
        have hB3 := (unhide B3).size
        clear b3' HCL x1
        go_wp2_with (at_builtin; refine wpList_append_own _ rfl _ _ 72 rfl w1.heap.size 9 i0 (.string ByteArray.empty) 1 16 Tryd.underlying72 hi hz0 hz1 hz2 rfl (by decide) _ n (cellsS G) rfl ((unhide O3).alloc _) _ 1 1 _ rfl rfl (cell_one_n _ _ _) (by simp [Value.oneCell']) b3 b4 (by simp; omega) ?_; intro v1 w4 own1 grow1 _)
        refine ⟨⟨k + 1, by go_num, by omega, ?_, ((unhide B3).alloc hB3 _).grown grow1 (by simp; omega) (own_lt (unhide O3))⟩, by simp [intOf]; omega⟩
        rw [unhide HX, cellsS_append, List.length_append, unhide HN]
        show World.ownsRow _ _ _ _ _ _ (cellsS G ++ [Value.string (mk b.data.toList)])
        rw [mk_data]; exact own1
      · have hbq := str_f hpq
        have HX : Hid (Mh.gets q.data.toList (fs.take (k + 1)) = G) := hide (by rw [unhide HSN, if_neg (fun e => hpq (eq_of_lists e)), List.append_nil])
        clear HSN hpq
        go_wp2_with fail
        refine ((unhide HLA) _).mono ?_; rintro e w2 ⟨rfl, b2⟩
        have B2 := hide ((unhide HBB).trans (b2.mono (unhide HBB).size))
        have O2 := hide (own_below (unhide OW2) b2)
        clear b2 HLA HCL
        go_wp2_with fail
        exact ⟨⟨k + 1, by go_num, by omega, by rw [unhide HX, unhide HN]; exact unhide O2, unhide B2⟩, by simp [intOf]; omega⟩
    · obtain rfl : k = fs.length := by omega
      rw [List.take_length, unhide HGS] at OWN
      go_wp2_with fail
      go_ret
      exact ⟨_, rfl, own_mono2 (unhide OWN) (unhide B1).size, (unhide B1).trans ((unhide HB).mono (unhide B1).size)⟩
set_option maxHeartbeats 4000000 in
theorem rget_any (m t : List UInt8) (u : Value) (fs : List Fl) (name : ByteArray) (w : World) (hu : Flds w u fs) (hn : name.size ≤ 68719476736) (hfs : ∀ f ∈ fs, f.1.length + f.2.length ≤ 68719476736) (gs : List (List UInt8)) (hgs : Mh.gets (lower name.data.toList) fs = gs) :
    Calls Tryd.prog 31 #[headV m t u, .string name] w fun e w' => ∃ v, e = .returned v ∧ w'.ownsRow w.heap.size 9 1 v gs.length (cellsS gs) ∧ Below w.heap.size w w' := by
  unfold headV
  obtain ⟨o, c, rfl, hc⟩ := hu.form
  have HU := hide hu
  have hroom := hu.room
  have HFS := hide hfs
  have HGS := hide hgs
  clear hu hfs hgs
  obtain ⟨i0, hi, hz0, hz1, hz2⟩ := info_parts infoS
  obtain ⟨q, hq⟩ := ex_list (lower name.data.toList)
  have HL := hide (fun W => rlow_any name W (by omega))
  rw [back_list q _ hq] at HL
  rw [← hq] at HGS
  obtain ⟨x, hx⟩ : ∃ x, mk m = x := ⟨_, rfl⟩
  obtain ⟨y, hy⟩ : ∃ y, mk t = y := ⟨_, rfl⟩
  rw [hx, hy]
  clear hx hy hq
  have B0 := hide ((Below.refl w.heap.size w).alloc (Nat.le_refl _) (.cells #[.string x, .string y, .slice o fs.length c] 24))
  obtain ⟨z0, z1, z2⟩ := three_newF w (.string x) (.string y) (.slice o fs.length c) 24
  have hlt0 : w.heap.size < (w.alloc (.cells #[.string x, .string y, .slice o fs.length c] 24)).heap.size := by simp
  obtain ⟨W0, hW0⟩ : ∃ W0, w.alloc (.cells #[.string x, .string y, .slice o fs.length c] 24) = W0 := ⟨_, rfl⟩
  rw [hW0] at z0 z1 z2 B0 hlt0
  go_enter Tryd.func31, Tryd.ntmps31
  go_wp2_with fail
  clear hW0
  go_loopw [5, 6] (fun v i wr => ∃ k : Nat, i = .int .i64 k ∧ k ≤ fs.length ∧ wr.ownsRow W0.heap.size 9 1 v (Mh.gets q.data.toList (fs.take k)).length (cellsS (Mh.gets q.data.toList (fs.take k))) ∧ Below W0.heap.size W0 wr) (fun _ i _ => fs.length - (intOf i).toNat)
  case atStart => exact ⟨0, rfl, Nat.zero_le _, World.ownsRow_nil _ _ _ _, Below.refl _ _⟩
  case round =>
    obtain ⟨k, rfl, hk, hown, hbel⟩ := hrel
    have HB := hide hbel
    have hB := hbel.size
    have OWN := hide hown
    have y2 := cell_below z2 hlt0 hbel
    have hltr : w.heap.size < wr.heap.size := Nat.lt_of_lt_of_le hlt0 hB
    clear hbel hown
    by_cases hlt : k < fs.length
    · obtain ⟨f, hf⟩ : ∃ f, fs[k]? = some f := ⟨fs[k], List.getElem?_eq_getElem hlt⟩
      obtain ⟨g, off, c', hv, hg, hcell⟩ := (((unhide HU).below (unhide B0)).below (unhide HB)).at_ (by intro e; rw [e] at hlt; cases hlt)
      cases hv
      obtain ⟨l0, l1⟩ := hcell k f hf
      have hsn := Mh.gets_snoc q.data.toList fs k f hf
      have hfl := (unhide HFS) f (List.mem_of_getElem? hf)
      have hgl : (Mh.gets q.data.toList (fs.take k)).length ≤ k := Nat.le_trans (Mh.gets_len _ _) (by rw [List.length_take]; omega)
      obtain ⟨G, hG⟩ : ∃ G, Mh.gets q.data.toList (fs.take k) = G := ⟨_, rfl⟩
      rw [hG] at hsn OWN hgl
      obtain ⟨n, hnn⟩ : ∃ n, G.length = n := ⟨_, rfl⟩
      rw [hnn] at OWN hgl
      have HN := hide hnn
      clear hG hnn
      obtain ⟨a, ha⟩ : ∃ a, mk f.1 = a := ⟨_, rfl⟩
      obtain ⟨b, hb⟩ : ∃ b, mk f.2 = b := ⟨_, rfl⟩
      have ha' : f.1 = a.data.toList := by rw [← ha]; simp [mk]
      have hb' : f.2 = b.data.toList := by rw [← hb]; simp [mk]
      rw [ha] at l0
      rw [hb] at l1
      rw [ha', hb'] at hsn hfl
      rw [len_data, len_data] at hfl
      clear ha hb ha' hb' hcell hf
      obtain ⟨p, hp⟩ := ex_list (lower a.data.toList)
      have HLA := hide (fun W => rlow_any a W (by omega))
      rw [back_list p _ hp] at HLA
      rw [← hp] at hsn
      have HSN := hide hsn
      clear hp hsn
      by_cases hpq : p = q
      · have hbq := eq_t hpq
        have HX : Hid (Mh.gets q.data.toList (fs.take (k + 1)) = G ++ [b.data.toList]) := hide (by rw [unhide HSN, hpq, if_pos rfl])
        have b3 : n + 1 ≤ maxLen := by unfold maxLen; omega
        have b4 : (n + 1) * 16 ≤ 140737488355328 := by omega
        clear HSN hpq
        go_wp2_with fail
        refine ((unhide HLA) _).mono ?_; rintro e w2 ⟨rfl, b2⟩
        have B2 := hide (bel_trans (unhide HB) b2)
        have O2 := hide (own_below (unhide OWN) b2)
        have x2 := cell_below y2 hltr b2
        have x1 := cell_below l1 hg b2
        have hlt2 : w.heap.size < w2.heap.size := Nat.lt_of_lt_of_le hltr b2.size
        have hg2 : g < w2.heap.size := Nat.lt_of_lt_of_le hg b2.size
        clear b2 HLA y2 l0 l1
        go_wp2_with fail
        refine ((unhide HL) _).mono ?_; rintro e w3 ⟨rfl, b3'⟩
        have B3 := hide (bel_trans (unhide B2) b3')
        have O3 := hide (own_below (unhide O2) b3')
        have hB3 := (unhide B3).size
        have y2 := cell_below x2 hlt2 b3'
        have y1 := cell_below x1 hg2 b3'
        clear b3' x1 x2
        go_wp2_with (at_builtin; refine wpList_append_own _ rfl _ _ 72 rfl W0.heap.size 9 i0 (.string ByteArray.empty) 1 16 Tryd.underlying72 hi hz0 hz1 hz2 rfl (by decide) _ n (cellsS G) rfl ((unhide O3).alloc _) _ 1 1 _ rfl rfl (cell_one_n _ _ _) (by simp [Value.oneCell']) b3 b4 (by simp; omega) ?_; intro v1 w4 own1 grow1 _)
        refine ⟨⟨k + 1, by go_num, by omega, ?_, ((unhide B3).alloc hB3 _).grown grow1 (by simp; omega) (own_lt (unhide O3))⟩, by simp [intOf]; omega⟩
        rw [unhide HX, cellsS_append, List.length_append, unhide HN]
        show World.ownsRow _ _ _ _ _ _ (cellsS G ++ [Value.string (mk b.data.toList)])
        rw [mk_data]; exact own1
      · have hbq := str_f hpq
        have HX : Hid (Mh.gets q.data.toList (fs.take (k + 1)) = G) := hide (by rw [unhide HSN, if_neg (fun e => hpq (eq_of_lists e)), List.append_nil])
        clear HSN hpq
        go_wp2_with fail
        refine ((unhide HLA) _).mono ?_; rintro e w2 ⟨rfl, b2⟩
        have B2 := hide (bel_trans (unhide HB) b2)
        have O2 := hide (own_below (unhide OWN) b2)
        clear b2 HLA
        go_wp2_with fail
        refine ((unhide HL) _).mono ?_; rintro e w3 ⟨rfl, b3'⟩
        have B3 := hide (bel_trans (unhide B2) b3')
        have O3 := hide (own_below (unhide O2) b3')
        clear b3'
        go_wp2_with fail
        exact ⟨⟨k + 1, by go_num, by omega, by rw [unhide HX, unhide HN]; exact unhide O3, unhide B3⟩, by simp [intOf]; omega⟩
    · obtain rfl : k = fs.length := by omega
      rw [List.take_length, unhide HGS] at OWN
      go_wp2_with fail
      go_ret
      exact ⟨_, rfl, own_mono2 (unhide OWN) (unhide B0).size, (unhide B0).trans ((unhide HB).mono (unhide B0).size)⟩
end Go.Proofs.YtmgealcolofomaaDoor
