/- Walks: a head's text, the program's and the document's. -/
import Derived.Test.YtmgealcolofomaaDoorMd
import Derived.Test.YtmgealcolofomaaDoorMe
import Derived.Test.YtmgealcolofomaaDoorShelf
namespace Go.Proofs.YtmgealcolofomaaDoor
open Go.RowKit Kb
set_option linter.unusedVariables false
set_option maxRecDepth 20000
open Mh (Fl)

namespace Mh
theorem joinTail_back (c : L8) : ∀ L : List L8, Lib.joinTail c L ++ c = c ++ (L.map fun l => l ++ c).flatten
  | [] => by simp [Lib.joinTail]
  | l :: r => by
    have ih := joinTail_back c r
    unfold Lib.joinTail at ih ⊢
    rw [List.map_cons, List.flatten_cons, List.append_assoc, ih]
    simp [List.append_assoc]
/-- the text as the document makes it, but for its last line -/
def docT (m t : L8) (fs : List Fl) : L8 := line0 m t ++ crlf ++ (fs.map fun f => lineOf f ++ crlf).flatten
theorem text_doc (m t : L8) (fs : List Fl) : docT m t fs ++ crlf = text m t fs := by
  have h := joinTail_back crlf (fs.map lineOf)
  rw [List.map_map] at h
  have h2 : ((fun l => l ++ crlf) ∘ lineOf) = (fun f => lineOf f ++ crlf) := rfl
  rw [h2] at h
  unfold docT text lines
  rw [Lib.join_cons, ← List.append_assoc, List.append_assoc (line0 m t) (Lib.joinTail crlf (fs.map lineOf)) crlf, h]
  simp only [List.append_assoc]
theorem docT_snoc (m t : L8) (fs : List Fl) (k : Nat) (f : Fl) (h : fs[k]? = some f) : docT m t (fs.take (k + 1)) = docT m t (fs.take k) ++ (lineOf f ++ crlf) := by
  unfold docT
  rw [List.take_add_one, h]
  simp [List.append_assoc]
theorem lines_snoc (m t : L8) (fs : List Fl) (k : Nat) (f : Fl) (h : fs[k]? = some f) : lines m t (fs.take (k + 1)) = lines m t (fs.take k) ++ [lineOf f] := by
  unfold lines
  rw [List.take_add_one, h]
  simp
theorem line0_len (m t : L8) : (line0 m t).length = m.length + t.length + 10 := by unfold line0 http; simp; omega
theorem lineOf_len (f : Fl) : (lineOf f).length = f.1.length + f.2.length + 2 := by unfold lineOf; simp; omega
theorem docT_len (m t : L8) : ∀ (fs : List Fl), (∀ f ∈ fs, fieldE f = 0) → (docT m t fs).length ≤ m.length + t.length + 12 + fs.length * 1004 := by
  intro fs
  unfold docT
  rw [List.length_append, List.length_append, line0_len]
  have : ∀ fs : List Fl, (∀ f ∈ fs, fieldE f = 0) → ((fs.map fun f => lineOf f ++ crlf).flatten).length ≤ fs.length * 1004 := by
    intro fs
    induction fs with
    | nil => simp
    | cons f r ih =>
      intro h
      have h1 := (fieldE_ok (h f (by simp))).2.2
      have h2 := ih (fun x hx => h x (List.mem_cons_of_mem _ hx))
      rw [List.map_cons, List.flatten_cons, List.length_append, List.length_append, lineOf_len, List.length_cons]
      have : crlf.length = 2 := rfl
      omega
  intro h
  have := this fs h
  have h2 : crlf.length = 2 := rfl
  omega
theorem text_len {m t : L8} {fs : List Fl} (h : check m t fs = 0) : (text m t fs).length ≤ 40000 := by
  obtain ⟨h1, _, h3, h4, h5⟩ := check_ok h
  rw [← text_doc, List.length_append]
  have h6 := docT_len m t fs h5
  have h7 := (method_mem h1).1
  have h2 : crlf.length = 2 := rfl
  omega
theorem lines_len {m t : L8} {fs : List Fl} (h : check m t fs = 0) : (Lib.join (lines m t fs) crlf).length ≤ 40000 := by
  have := text_len h
  unfold text at this
  rw [List.length_append] at this; omega
end Mh
/-- the library's Join of a row of one's own -/
theorem join_row_s (sep : ByteArray) (L : List (List UInt8)) (v : Value) (B : Nat) (w : World) (hown : w.ownsRow B 9 1 v L.length (cellsS L)) (hne : L ≠ []) (hl : L.length ≤ 1099511627776) (hj : (Lib.join L sep.data.toList).length ≤ 1099511627776) :
    Calls Tryd.prog 51 #[v, .string sep] w fun e w' => e = .returned (.string (mk (Lib.join L sep.data.toList))) ∧ Below w.heap.size w w' := by
  have hpos : 0 < L.length := List.length_pos_iff.2 hne
  obtain ⟨g, c, rfl, hc⟩ := own_form hown hpos
  have hlt := (hown.lt g rfl).2
  have e : (L.map mk).map (·.data.toList) = L := by
    rw [List.map_map]
    refine (List.map_congr_left (g := id) fun x _ => ?_).trans (List.map_id _)
    simp [mk]
  have h := Tryd.strings_Join g 0 c (L.map mk) sep w (by
    intro j x hx
    rw [List.getElem?_map] at hx
    obtain ⟨p, hp, rfl⟩ := Option.map_eq_some_iff.1 hx
    have hj2 : j < L.length := (List.getElem?_eq_some_iff.1 hp).1
    rw [Nat.zero_add, hown.cellAt j (by omega), cellsS, List.getElem?_map, hp]; rfl) hlt (by rw [List.length_map]; omega) (by rw [List.length_map]; omega) (by rw [e]; exact Nat.le_trans hj (by omega))
  rw [e, List.length_map] at h
  exact h
theorem ret_si {a b : ByteArray} {c d : Int} (h : a = b) (g : c = d) : Ending.returned (.tuple #[.string a, .int .i64 c]) = .returned (.tuple #[.string b, .int .i64 d]) := by rw [h, g]
theorem head_load (W : World) (g : Nat) (x y v : Value) (fr : Nat × Nat) (h : W.heap[g]? = some (.cells #[x, y, v] 24 fr)) : (loadVar 24 ⟨g, 0, none⟩).run Tryd.prog W = .ok (.agg #[x, y, v]) W :=
  run_loadVar_row W g 24 24 #[x, y, v] fr _ h Tryd.underlying24 rfl (by kernel_rfl)
set_option maxHeartbeats 2000000 in
theorem hprint_bad (m t : List UInt8) (u : Value) (fs : List Fl) (z : Int) (w : World) (hu : Flds w u fs) (hm : m.length + t.length ≤ 68719476736) (hfs : ∀ f ∈ fs, f.1.length + f.2.length ≤ 68719476736) (hz : Mh.check m t fs = z) (h0 : z ≠ 0) :
    Calls Tryd.prog 23 #[headV m t u] w fun e w' => e = .returned (.tuple #[.string ⟨#[]⟩, .int .i64 z]) ∧ Below w.heap.size w w' := by
  have HC := hide (fun W (h : Below w.heap.size w W) => hcheck_any m t u fs W (hu.below h) hm hfs)
  unfold headV at HC ⊢
  rw [hz] at HC
  obtain ⟨o, c, rfl, hc⟩ := hu.form
  clear hu hm hfs hz
  have hzn : (z != 0) = true := by simpa using h0
  obtain ⟨x, hx⟩ : ∃ x, mk m = x := ⟨_, rfl⟩
  obtain ⟨y, hy⟩ : ∃ y, mk t = y := ⟨_, rfl⟩
  rw [hx, hy] at HC ⊢
  clear hx hy
  have B0 := hide ((Below.refl w.heap.size w).alloc (Nat.le_refl _) (.cells #[.string x, .string y, .slice o fs.length c] 24))
  obtain ⟨z0, z1, z2⟩ := three_newF w (.string x) (.string y) (.slice o fs.length c) 24
  go_enter Tryd.func23, Tryd.ntmps23
  go_wp2_with fail
  refine ((unhide HC) _ (unhide B0)).mono ?_; rintro e w1 ⟨rfl, b1⟩
  go_wp2_with fail
  go_ret2
  exact ⟨rfl, (unhide B0).trans (b1.mono (unhide B0).size)⟩
set_option maxHeartbeats 8000000 in
theorem hprint_ok (m t : List UInt8) (u : Value) (fs : List Fl) (w : World) (hu : Flds w u fs) (hz : Mh.check m t fs = 0) :
    Calls Tryd.prog 23 #[headV m t u] w fun e w' => e = .returned (.tuple #[.string (mk (Mh.text m t fs)), .int .i64 0]) ∧ Below w.heap.size w w' := by
  obtain ⟨hM, _, ht, hF, hE⟩ := Mh.check_ok hz
  have hm := (Mh.method_mem hM).1
  have HC := hide (fun W (h : Below w.heap.size w W) => hcheck_any m t u fs W (hu.below h) (by omega) (fun f hf => by have := (Mh.fieldE_ok (hE f hf)).2.2; omega))
  unfold headV at HC ⊢
  rw [hz] at HC
  obtain ⟨o, c, rfl, hc⟩ := hu.form
  have HU := hide hu
  have HE := hide hE
  have HTX := hide (Mh.lines_len hz)
  clear hu hz hM hE
  obtain ⟨i0, hi, hz0, hz1, hz2⟩ := info_parts infoS
  obtain ⟨x, hx⟩ : ∃ x, mk m = x := ⟨_, rfl⟩
  obtain ⟨y, hy⟩ : ∃ y, mk t = y := ⟨_, rfl⟩
  have hxs : x.size ≤ 20 := by rw [← hx, mk_size]; exact hm
  have hys : y.size ≤ 1000 := by rw [← hy, mk_size]; exact ht
  have HL0 : Hid (x ++ ⟨#[32]⟩ ++ y ++ ⟨#[32]⟩ ++ ⟨#[72, 84, 84, 80, 47, 49, 46, 49]⟩ = mk (Mh.line0 m t)) := hide (by
    rw [← hx, ← hy]; apply eq_of_lists; unfold Mh.line0; rw [cat_data, cat_data, cat_data, cat_data]; simp [mk, Mh.http])
  rw [hx, hy] at HC ⊢
  clear hx hy hm ht
  have B0 := hide ((Below.refl w.heap.size w).alloc (Nat.le_refl _) (.cells #[.string x, .string y, .slice o fs.length c] 24))
  obtain ⟨z0, z1, z2⟩ := three_newF w (.string x) (.string y) (.slice o fs.length c) 24
  have hlt0 : w.heap.size < (w.alloc (.cells #[.string x, .string y, .slice o fs.length c] 24)).heap.size := by simp
  obtain ⟨W0, hW0⟩ : ∃ W0, w.alloc (.cells #[.string x, .string y, .slice o fs.length c] 24) = W0 := ⟨_, rfl⟩
  rw [hW0] at z0 z1 z2 B0 hlt0
  go_enter Tryd.func23, Tryd.ntmps23
  go_wp2_with fail
  clear hW0
  refine ((unhide HC) W0 (unhide B0)).mono ?_; rintro e w1 ⟨rfl, b1⟩
  have B1 := hide (bel_trans (unhide B0) b1)
  have y0 := cell_below z0 hlt0 b1
  have y1 := cell_below z1 hlt0 b1
  have y2 := cell_below z2 hlt0 b1
  have hlt1 : w.heap.size < w1.heap.size := Nat.lt_of_lt_of_le hlt0 b1.size
  clear b1 B0 z0 z1 z2 HC hlt0
  go_wp2_with fail
  rw [unhide HL0]
  have hB1 := (unhide B1).size
  have O1 : Hid ((w1.alloc (.cells #[.string (mk (Mh.line0 m t))] 9)).ownsRow w1.heap.size 9 1 (.slice (some ⟨w1.heap.size, 0, none⟩) 1 1) 1 (cellsS [Mh.line0 m t])) :=
    hide (World.ownsRow_lit (e := 9) (size := 1) (base := w1.heap.size) w1 #[.string (mk (Mh.line0 m t))] 1 (Nat.le_refl _) (by unfold maxLen; omega) rfl)
  have BB := hide ((Below.refl w1.heap.size w1).alloc (Nat.le_refl _) (.cells #[.string (mk (Mh.line0 m t))] 9))
  have FU : Hid (Flds w1 (.slice o fs.length c) fs) := hide ((unhide HU).below (unhide B1))
  go_loopw [5, 25] (fun v i wr => ∃ k : Nat, i = .int .i64 k ∧ k ≤ fs.length ∧ wr.ownsRow w1.heap.size 9 1 v (k + 1) (cellsS (Mh.lines m t (fs.take k))) ∧ Below w1.heap.size w1 wr) (fun _ i _ => fs.length - (intOf i).toNat)
  case atStart => exact ⟨0, rfl, Nat.zero_le _, unhide O1, unhide BB⟩
  case round =>
    clear O1 BB y0 y1 y2 HL0
    obtain ⟨k, rfl, hk, hown, hbel⟩ := hrel
    have HB := hide hbel
    have hB := hbel.size
    have OWN := hide hown
    clear hbel hown
    by_cases hlt : k < fs.length
    · obtain ⟨f, hf⟩ : ∃ f, fs[k]? = some f := ⟨fs[k], List.getElem?_eq_getElem hlt⟩
      obtain ⟨g, off, c', hv, hg, hcell⟩ := ((unhide FU).below (unhide HB)).at_ (by intro e; rw [e] at hlt; cases hlt)
      cases hv
      obtain ⟨l0, l1⟩ := hcell k f hf
      have HSN := hide (Mh.lines_snoc m t fs k f hf)
      have hfl := (Mh.fieldE_ok ((unhide HE) f (List.mem_of_getElem? hf))).2.2
      obtain ⟨a, ha⟩ : ∃ a, mk f.1 = a := ⟨_, rfl⟩
      obtain ⟨b, hb⟩ : ∃ b, mk f.2 = b := ⟨_, rfl⟩
      have has : a.size ≤ 1000 := by rw [← ha, mk_size]; omega
      have hbs : b.size ≤ 1000 := by rw [← hb, mk_size]; omega
      have HLF : Hid (a ++ ⟨#[58]⟩ ++ ⟨#[32]⟩ ++ b = mk (Mh.lineOf f)) := hide (by
        rw [← ha, ← hb]; apply eq_of_lists; unfold Mh.lineOf; rw [cat_data, cat_data, cat_data]; simp [mk])
      rw [ha] at l0
      rw [hb] at l1
      clear ha hb hcell hf hfl
      have HBB := hide ((unhide HB).alloc hB (.cells #[.string a, .string b] 57))
      obtain ⟨y0, y1⟩ := two_newF wr (.string a) (.string b) 57
      obtain ⟨n, hnn⟩ : ∃ n, k + 1 = n := ⟨_, rfl⟩
      rw [hnn] at OWN
      have OW2 := hide ((unhide OWN).alloc (.cells #[.string a, .string b] 57))
      have b3 : n + 1 ≤ maxLen := by unfold maxLen; omega
      have b4 : (n + 1) * 16 ≤ 140737488355328 := by omega
      have HNN := hide hnn
      clear hnn
      obtain ⟨L, hL⟩ : ∃ L, Mh.lines m t (fs.take k) = L := ⟨_, rfl⟩
      rw [hL] at OW2 HSN
      clear hL OWN
      have hB2 := (unhide HBB).size
      go_wp2_with (at_builtin; refine wpList_append_own _ rfl _ _ 72 rfl w1.heap.size 9 i0 (.string ByteArray.empty) 1 16 Tryd.underlying72 hi hz0 hz1 hz2 rfl (by decide) _ n (cellsS L) rfl ((unhide OW2).alloc _) _ 1 1 _ rfl rfl (cell_one_b _ _ _ _ (by simp)) (by simp [Value.oneCell']) b3 b4 (by simp; omega) ?_; intro v1 w4 own1 grow1 _)
      refine ⟨⟨k + 1, by go_num, by omega, ?_, ((unhide HBB).alloc hB2 _).grown grow1 (by simp; omega) (own_lt (unhide OW2))⟩, by simp [intOf]; omega⟩
      rw [unhide HSN, cellsS_append, unhide HNN]
      show World.ownsRow _ _ _ _ _ _ (cellsS L ++ [Value.string (mk (Mh.lineOf f))])
      rw [← unhide HLF]; exact own1
    · obtain rfl : k = fs.length := by omega
      rw [List.take_length] at OWN
      have hll : (Mh.lines m t fs).length = fs.length + 1 := by simp [Mh.lines]
      have HJ := hide (join_row_s ⟨#[13, 10]⟩ (Mh.lines m t fs) _ _ wr (by rw [hll]; exact unhide OWN) (by simp [Mh.lines]) (by rw [hll]; omega) (by show (Lib.join (Mh.lines m t fs) Mh.crlf).length ≤ _; have := unhide HTX; omega))
      rw [show (⟨#[13, 10]⟩ : ByteArray).data.toList = Mh.crlf from rfl] at HJ
      obtain ⟨q, hq⟩ : ∃ q, mk (Lib.join (Mh.lines m t fs) Mh.crlf) = q := ⟨_, rfl⟩
      have hqs : q.size ≤ 40000 := by rw [← hq, mk_size]; exact unhide HTX
      have HQ : Hid (q ++ ⟨#[13, 10, 13, 10]⟩ = mk (Mh.text m t fs)) := hide (by
        rw [← hq]; apply eq_of_lists; unfold Mh.text; rw [cat_data]; simp [mk, Mh.crlf])
      rw [hq] at HJ
      clear hq hll
      go_wp2_with fail
      refine (unhide HJ).mono ?_; rintro e w2 ⟨rfl, b2⟩
      go_wp2_with fail
      go_ret2
      refine ⟨ret_si (unhide HQ) rfl, ?_⟩
      exact (unhide B1).trans ((bel_trans (unhide HB) b2).mono (unhide B1).size)
set_option maxHeartbeats 4000000 in
theorem rtext_any (m t : List UInt8) (u : Value) (fs : List Fl) (w : World) (hu : Flds w u fs) (hz : Mh.check m t fs = 0) :
    Calls Tryd.prog 26 #[headV m t u] w fun e w' => e = .returned (.string (mk (Mh.text m t fs))) ∧ Below w.heap.size w w' := by
  obtain ⟨hM, _, ht, hF, hE⟩ := Mh.check_ok hz
  have hm := (Mh.method_mem hM).1
  unfold headV
  obtain ⟨o, c, rfl, hc⟩ := hu.form
  have HU := hide hu
  have HE := hide hE
  have HTD := hide (Mh.text_doc m t fs)
  have HDL : Hid (∀ k, (Mh.docT m t (fs.take k)).length ≤ 40000) := hide (fun k => by
    have := Mh.docT_len m t (fs.take k) (fun f hf => hE f (List.mem_of_mem_take hf))
    rw [List.length_take] at this; omega)
  clear hu hz hM hE
  obtain ⟨x, hx⟩ : ∃ x, mk m = x := ⟨_, rfl⟩
  obtain ⟨y, hy⟩ : ∃ y, mk t = y := ⟨_, rfl⟩
  have hxs : x.size ≤ 20 := by rw [← hx, mk_size]; exact hm
  have hys : y.size ≤ 1000 := by rw [← hy, mk_size]; exact ht
  have HL0 : Hid (x ++ ⟨#[32]⟩ ++ y ++ ⟨#[32, 72, 84, 84, 80, 47, 49, 46, 49]⟩ ++ ⟨#[13, 10]⟩ = mk (Mh.docT m t (fs.take 0))) := hide (by
    rw [← hx, ← hy]; apply eq_of_lists; unfold Mh.docT Mh.line0; rw [cat_data, cat_data, cat_data, cat_data]; simp [mk, Mh.http, Mh.crlf])
  rw [hx, hy]
  clear hx hy hm ht
  have B0 := hide ((Below.refl w.heap.size w).alloc (Nat.le_refl _) (.cells #[.string x, .string y, .slice o fs.length c] 24))
  obtain ⟨z0, z1, z2⟩ := three_newF w (.string x) (.string y) (.slice o fs.length c) 24
  have hlt0 : w.heap.size < (w.alloc (.cells #[.string x, .string y, .slice o fs.length c] 24)).heap.size := by simp
  obtain ⟨W0, hW0⟩ : ∃ W0, w.alloc (.cells #[.string x, .string y, .slice o fs.length c] 24) = W0 := ⟨_, rfl⟩
  rw [hW0] at z0 z1 z2 B0 hlt0
  go_enter Tryd.func26, Tryd.ntmps26
  go_wp2_with fail
  clear hW0
  rw [unhide HL0]
  go_loopw [3, 4] (fun v i wr => ∃ k : Nat, i = .int .i64 k ∧ k ≤ fs.length ∧ v = .string (mk (Mh.docT m t (fs.take k))) ∧ Below W0.heap.size W0 wr) (fun _ i _ => fs.length - (intOf i).toNat)
  case atStart => exact ⟨0, rfl, Nat.zero_le _, rfl, Below.refl _ _⟩
  case round =>
    clear HL0
    obtain ⟨k, rfl, hk, rfl, hbel⟩ := hrel
    have HB := hide hbel
    have hB := hbel.size
    have y2 := cell_below z2 hlt0 hbel
    clear hbel
    have hd := (unhide HDL) k
    obtain ⟨d, hdd⟩ : ∃ d, mk (Mh.docT m t (fs.take k)) = d := ⟨_, rfl⟩
    have hds : d.size ≤ 40000 := by rw [← hdd, mk_size]; exact hd
    rw [hdd]
    by_cases hlt : k < fs.length
    · obtain ⟨f, hf⟩ : ∃ f, fs[k]? = some f := ⟨fs[k], List.getElem?_eq_getElem hlt⟩
      obtain ⟨g, off, c', hv, hg, hcell⟩ := (((unhide HU).below (unhide B0)).below (unhide HB)).at_ (by intro e; rw [e] at hlt; cases hlt)
      cases hv
      obtain ⟨l0, l1⟩ := hcell k f hf
      have hsn := Mh.docT_snoc m t fs k f hf
      have hfl := (Mh.fieldE_ok ((unhide HE) f (List.mem_of_getElem? hf))).2.2
      obtain ⟨a, ha⟩ : ∃ a, mk f.1 = a := ⟨_, rfl⟩
      obtain ⟨b, hb⟩ : ∃ b, mk f.2 = b := ⟨_, rfl⟩
      have has : a.size ≤ 1000 := by rw [← ha, mk_size]; omega
      have hbs : b.size ≤ 1000 := by rw [← hb, mk_size]; omega
      have HLF : Hid (d ++ (a ++ ⟨#[58, 32]⟩ ++ b ++ ⟨#[13, 10]⟩) = mk (Mh.docT m t (fs.take (k + 1)))) := hide (by
        rw [hsn, ← ha, ← hb, ← hdd]; apply eq_of_lists; unfold Mh.lineOf; rw [cat_data, cat_data, cat_data, cat_data]; simp [mk, Mh.crlf])
      rw [ha] at l0
      rw [hb] at l1
      clear ha hb hcell hf hfl hsn hdd hd
      go_wp2_with fail
      go_quiet (fail)
      go_wp2_with fail
      rw [unhide HLF]
      exact ⟨⟨k + 1, by go_num, by omega, rfl, Go.below_drewN (unhide HB) _⟩, by simp [intOf]; omega⟩
    · obtain rfl : k = fs.length := by omega
      have HQ : Hid (d ++ ⟨#[13, 10]⟩ = mk (Mh.text m t fs)) := hide (by
        rw [← hdd, ← unhide HTD, List.take_length]; apply eq_of_lists; rw [cat_data]; simp [mk, Mh.crlf])
      clear hdd hd
      go_wp2_with fail
      go_ret
      exact ⟨ret_str (unhide HQ), (unhide B0).trans ((unhide HB).mono (unhide B0).size)⟩
end Go.Proofs.YtmgealcolofomaaDoor
