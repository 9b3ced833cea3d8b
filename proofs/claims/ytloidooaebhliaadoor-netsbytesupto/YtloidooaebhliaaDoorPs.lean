/- The library's Count, Split, Join and the document's Split, Pieces, Joined at one sign. -/
import Derived.Test.YtloidooaebhliaaDoorKc
import Derived.Test.YtloidooaebhliaaDoorCs
import Derived.Test.YtloidooaebhliaaDoorRi
import Derived.Test.YtloidooaebhliaaDoorShelf
import Derived.OwnWalk
namespace Go.Proofs.YtloidooaebhliaaDoor
open Go.RowKit Kb
set_option linter.unusedVariables false
set_option maxRecDepth 20000

theorem count_c (ch : UInt8) (s : ByteArray) (w : World) :
    Calls Tryd.prog 87 #[.string s, .string ⟨#[ch]⟩] w fun e w' => e = .returned (.int .i64 ((Cs.cut ch s.data.toList).length - 1 : Int)) ∧ w' = w := by
  have h := Tryd.strings_Count_one s ch w
  have h2 := Cs.count_len ch s.data.toList
  have h3 : (Lib.countByte s.data.toList ch : Int) = ((Cs.cut ch s.data.toList).length - 1 : Int) := by
    rw [← h2]; unfold Lib.countByte; omega
  rwa [h3] at h

theorem split_at_c (ch : UInt8) (s : ByteArray) (m : Int) (w : World) (hs : s.size ≤ 4294960000) (hm : w.cell? ⟨2, 0, none⟩ = some (.int .i64 m)) :
    Calls Tryd.prog 57 #[.string s, .string ⟨#[ch]⟩] w fun e w' =>
      e = .returned (.slice (some ⟨w.heap.size, 0, none⟩) (Cs.cut ch s.data.toList).length (Cs.cut ch s.data.toList).length) ∧ w' = w.alloc (.cells (cellsS (Cs.cut ch s.data.toList)).toArray 9) := by
  have h := Tryd.strings_Split s ⟨#[ch]⟩ m w (by omega) hm (by show 1 ≤ 1; decide)
  have hc : Lib.countB s ⟨#[ch]⟩ = Lib.count s.data.toList [ch] := rfl
  have hd := Lib.splitB_data ⟨#[ch]⟩ 0 (Lib.countB s ⟨#[ch]⟩) s
  rw [hc, show (⟨#[ch]⟩ : ByteArray).data.toList = [ch] from rfl, Cs.split_cut ch _ _ (Nat.le_refl _)] at hd
  have hl := Lib.splitB_all ⟨#[ch]⟩ (by show 1 ≤ 1; decide) 0 _ s rfl
  rw [hc] at hl h
  have h1 : Lib.count s.data.toList [ch] + 1 = (Cs.cut ch s.data.toList).length := by rw [← hl, ← hd, List.length_map]
  have h2 : (Lib.splitB ⟨#[ch]⟩ 0 (Lib.count s.data.toList [ch]) s).map Value.string = cellsS (Cs.cut ch s.data.toList) := by
    rw [← hd, cellsS, List.map_map]
    refine List.map_congr_left fun x _ => ?_
    show Value.string x = Value.string (mk x.data.toList)
    rw [mk_data]
  rw [h1, h2] at h
  exact h
theorem join_row_c (ch : UInt8) (L : List (List UInt8)) (v : Value) (B : Nat) (w : World) (hown : w.ownsRow B 9 1 v L.length (cellsS L)) (hL : Cp.wt L ≤ 1099511627776) :
    Calls Tryd.prog 33 #[v, .string ⟨#[ch]⟩] w fun e w' => e = .returned (.string (mk (Lib.join L [ch]))) ∧ Below w.heap.size w w' := by
  have hl := Cp.len_wt L
  have hj := Cs.join_len ch L
  by_cases hn : L = []
  · subst hn
    obtain ⟨o, c, rfl⟩ := own_forms hown
    refine (Tryd.strings_Join_none o c ⟨#[ch]⟩ w).mono ?_
    rintro e w' ⟨rfl, rfl⟩
    exact ⟨rfl, Below.refl _ _⟩
  · have hpos : 0 < L.length := List.length_pos_iff.2 hn
    obtain ⟨g, c, rfl, hc⟩ := own_form hown hpos
    have hlt := (hown.lt g rfl).2
    have e : (L.map mk).map (·.data.toList) = L := by
      rw [List.map_map]
      refine (List.map_congr_left (g := id) fun x _ => ?_).trans (List.map_id _)
      simp [mk]
    have h := Tryd.strings_Join g 0 c (L.map mk) ⟨#[ch]⟩ w (by
      intro j x hx
      rw [List.getElem?_map] at hx
      obtain ⟨p, hp, rfl⟩ := Option.map_eq_some_iff.1 hx
      have hj2 : j < L.length := (List.getElem?_eq_some_iff.1 hp).1
      rw [Nat.zero_add, hown.cellAt j (by omega), cellsS, List.getElem?_map, hp]; rfl) hlt (by rw [List.length_map]; omega) (by rw [List.length_map]; omega) (by rw [e]; exact Nat.le_trans hj (by omega))
    rw [e, List.length_map] at h
    exact h
set_option maxHeartbeats 2000000 in
theorem rsplit_miss_c (ch : UInt8) (s : ByteArray) (hf : Fnd.find s.data.toList [ch] 0 = -1) (hs : s.size ≤ 68719476736) (w : World) :
    Calls Tryd.prog 28 #[.string s, .string ⟨#[ch]⟩] w fun e w' => e = .returned (.tuple #[.string s, .string ⟨#[]⟩, .bool false]) ∧ w' = w := by
  have HF := hide (rfind_any s ⟨#[ch]⟩ 0 w (by omega) (by show 1 ≤ _; decide) (by omega) (by omega))
  rw [show (⟨#[ch]⟩ : ByteArray).data.toList = [ch] from rfl, hf] at HF
  go_enter Tryd.func28, Tryd.ntmps28
  go_wp2_with fail
  refine (unhide HF).mono ?_; rintro e w1 ⟨rfl, hwx⟩; rw [hwx]; clear hwx w1
  go_wp2
  go_ret3
  exact ⟨rfl, rfl⟩
set_option maxHeartbeats 2000000 in
theorem rsplit_hit_c (ch : UInt8) (s : ByteArray) (i : Nat) (hf : Fnd.find s.data.toList [ch] 0 = i) (hi : i + 1 ≤ s.size) (hs : s.size ≤ 68719476736) (w : World) :
    Calls Tryd.prog 28 #[.string s, .string ⟨#[ch]⟩] w fun e w' => e = .returned (.tuple #[.string (s.extract 0 i), .string (s.extract (i + 1) s.size), .bool true]) ∧ Below w.heap.size w w' := by
  have HF := hide (rfind_any s ⟨#[ch]⟩ 0 w (by omega) (by show 1 ≤ _; decide) (by omega) (by omega))
  rw [show (⟨#[ch]⟩ : ByteArray).data.toList = [ch] from rfl, hf] at HF
  have h1 : (i : Int) + 1 ≤ (s.size : Int) := by omega
  have HB : Hid (Below w.heap.size w w) := hide (Below.refl _ _)
  clear hf
  go_enter Tryd.func28, Tryd.ntmps28
  go_wp2_with fail
  refine (unhide HF).mono ?_; rintro e w1 ⟨rfl, hwx⟩; rw [hwx]; clear hwx w1
  go_wp2
  go_quiet (fail)
  go_wp2
  go_ret3
  exact ⟨rfl, Go.below_drewN (unhide HB) _⟩


set_option maxHeartbeats 4000000 in
theorem rpieces_any_c (ch : UInt8) (s : ByteArray) (w : World) (hs : s.size ≤ 4294960000) :
    Calls Tryd.prog 27 #[.string s, .string ⟨#[ch]⟩] w fun e w' =>
      ∃ v, e = .returned v ∧ w'.ownsRow w.heap.size 9 1 v (Cs.cut ch s.data.toList).length (cellsS (Cs.cut ch s.data.toList)) ∧ Below w.heap.size w w' := by
  obtain ⟨i0, hi, hz0, hz1, hz2⟩ := info_parts infoS
  have hcl := Cp.len_wt (Cs.cut ch s.data.toList)
  rw [Cs.wt_cut, len_data] at hcl
  obtain ⟨cs, hcs⟩ : ∃ cs, Cs.cut ch s.data.toList = cs := ⟨_, rfl⟩
  rw [hcs] at hcl
  have HCS := hide hcs
  rw [hcs]
  clear hcs
  go_enter Tryd.func27, Tryd.ntmps27
  go_wp2
  go_loopw [0, 5] (fun x v wr => ∃ (y : ByteArray) (done : List (List UInt8)), x = .string y ∧ y.size ≤ s.size ∧ done ++ Cs.cut ch y.data.toList = cs ∧ wr.ownsRow w.heap.size 9 1 v done.length (cellsS done) ∧ Below w.heap.size w wr) (fun x _ _ => strSize x)
  case atStart => exact ⟨s, [], rfl, Nat.le_refl _, unhide HCS, World.ownsRow_nil _ _ _ _, Below.refl _ _⟩
  case round =>
    obtain ⟨y, done, rfl, hys, hdone, hown, hbel⟩ := hrel
    have hB := hbel.size
    have OWN := hide hown
    have HB := hide hbel
    have hlen : done.length + 1 ≤ cs.length := by
      have := congrArg List.length hdone
      have h2 := List.length_pos_iff.2 (Cs.cut_ne ch y.data.toList)
      rw [List.length_append] at this; omega
    have HD := hide hdone
    obtain ⟨n, hn⟩ : ∃ n, done.length = n := ⟨_, rfl⟩
    rw [hn] at OWN hlen
    have HN := hide hn
    clear hown hbel hdone hn
    have b3 : n + 1 ≤ maxLen := by unfold maxLen; omega
    have b4 : (n + 1) * 16 ≤ 140737488355328 := by omega
    rcases Cs.find_cut ch y.data.toList with ⟨hno, hf⟩ | ⟨i, hf, hi1, hcut⟩
    · have H1 := hide (rsplit_miss_c ch y hf (by omega) wr)
      have HC := hide (Cs.cut_no hno)
      clear hno hf
      go_wp2_with fail
      refine (unhide H1).mono ?_; rintro e w1 ⟨rfl, hwx⟩; rw [hwx]; clear hwx w1
      go_wp2_with (at_builtin; refine wpList_append_own _ rfl _ _ 37 rfl w.heap.size 9 i0 (.string ByteArray.empty) 1 16 Tryd.underlying37 hi hz0 hz1 hz2 rfl (by decide) _ n (cellsS done) rfl ((unhide OWN).alloc _) _ 1 1 _ rfl rfl (cell_one_new _ _ _) (by simp [Value.oneCell']) b3 b4 (by simp; omega) ?_; intro v1 w1 own1 grow1 _)
      go_ret
      refine ⟨_, rfl, ?_, ((unhide HB).alloc hB _).grown grow1 (by simp; omega) (own_lt (unhide OWN))⟩
      rw [← unhide HD, unhide HC, cellsS_append, List.length_append, unhide HN]
      show World.ownsRow _ _ _ _ _ _ (cellsS done ++ [Value.string (mk y.data.toList)])
      rw [mk_data]; exact own1
    · rw [len_data] at hi1
      have H1 := hide (rsplit_hit_c ch y i hf hi1 (by omega) wr)
      obtain ⟨a, ha⟩ : ∃ a, y.extract 0 i = a := ⟨_, rfl⟩
      obtain ⟨b, hb⟩ : ∃ b, y.extract (i + 1) y.size = b := ⟨_, rfl⟩
      have HA : Hid (y.data.toList.take i = a.data.toList) := hide (by rw [← ha, Lib.extract_from_zero])
      have HBD : Hid (y.data.toList.drop (i + 1) = b.data.toList) := hide (by rw [← hb, Lib.extract_to_end])
      have hbs : b.size < y.size := by rw [← len_data b, ← unhide HBD, List.length_drop, len_data]; omega
      rw [ha, hb] at H1
      have HC : Hid (Cs.cut ch y.data.toList = a.data.toList :: Cs.cut ch b.data.toList) := hide (by rw [hcut, unhide HA, unhide HBD])
      clear ha hb hcut hf HA HBD hi1
      go_wp2_with fail
      refine (unhide H1).mono ?_; rintro e w1 ⟨rfl, b1⟩
      have OW1 := hide (own_below (unhide OWN) b1)
      have HB1 := hide (bel_trans (unhide HB) b1)
      have hB1 := (unhide HB1).size
      clear b1 OWN HB hB H1
      go_wp2_with (at_builtin; refine wpList_append_own _ rfl _ _ 37 rfl w.heap.size 9 i0 (.string ByteArray.empty) 1 16 Tryd.underlying37 hi hz0 hz1 hz2 rfl (by decide) _ n (cellsS done) rfl ((unhide OW1).alloc _) _ 1 1 _ rfl rfl (cell_one_new _ _ _) (by simp [Value.oneCell']) b3 b4 (by simp; omega) ?_; intro v1 w2 own1 grow1 _)
      refine ⟨⟨b, done ++ [a.data.toList], rfl, by omega, ?_, ?_, ((unhide HB1).alloc hB1 _).grown grow1 (by simp; omega) (own_lt (unhide OW1))⟩, by simpa [strSize] using hbs⟩
      · rw [← unhide HD, unhide HC]; simp
      · rw [cellsS_append, List.length_append, unhide HN]
        show World.ownsRow _ _ _ _ _ _ (cellsS done ++ [Value.string (mk a.data.toList)])
        rw [mk_data]; exact own1


end Go.Proofs.YtloidooaebhliaaDoor
