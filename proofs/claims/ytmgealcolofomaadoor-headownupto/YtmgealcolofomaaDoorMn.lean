/- Walks of the document's Split, Pieces, Has at any text; its reader of heads. -/
import Derived.Test.YtmgealcolofomaaDoorMm
import Derived.Test.YtmgealcolofomaaDoorMg
namespace Go.Proofs.YtmgealcolofomaaDoor
open Go.RowKit Kb
set_option linter.unusedVariables false
set_option maxRecDepth 20000
open Mh (Fl)

theorem find_zero (s t : List UInt8) : Fnd.find s t 0 = Lib.index s t := by
  unfold Fnd.find
  have := Lib.index_ge s t
  rw [show (max 0 0 : Int) = 0 from rfl, if_neg (by omega)]
  simp only [Int.toNat_zero, List.drop_zero, Int.zero_add]
  split <;> omega
theorem ret_ssb {a b c d : ByteArray} {p q : Bool} (h : a = b) (g : c = d) (k : p = q) : Ending.returned (.tuple #[.string a, .string c, .bool p]) = .returned (.tuple #[.string b, .string d, .bool q]) := by rw [h, g, k]
set_option maxHeartbeats 2000000 in
theorem rcut_s (t s : ByteArray) (w : World) (hs : s.size ≤ 68719476736) (ht : 1 ≤ t.size ∧ t.size ≤ 16) (k : List UInt8 × List UInt8 × Bool) (hk : Lib.cut s.data.toList t.data.toList = k) :
    Calls Tryd.prog 58 #[.string s, .string t] w fun e w' => e = .returned (.tuple #[.string (mk k.1), .string (mk k.2.1), .bool k.2.2]) ∧ Below w.heap.size w w' := by
  have HF := hide (rfind_any s t 0 w (by omega) (by unfold maxLen; omega) (by omega) (by omega))
  rw [find_zero] at HF
  unfold Lib.cut at hk
  rcases Lib.index_spec s.data.toList t.data.toList with ⟨h1, _⟩ | ⟨i, h1, h2, h3, _⟩
  · rw [h1] at HF hk
    rw [if_neg (by omega)] at hk
    subst hk
    have HE : Hid (mk s.data.toList = s ∧ mk [] = ⟨#[]⟩) := hide ⟨mk_data s, rfl⟩
    clear h1
    go_enter Tryd.func58, Tryd.ntmps58
    go_wp2_with fail
    refine (unhide HF).mono ?_; rintro e w1 ⟨rfl, hwx⟩; rw [hwx]; clear hwx w1
    go_wp2
    go_ret3
    exact ⟨ret_ssb (unhide HE).1.symm (unhide HE).2.symm rfl, Below.refl _ _⟩
  · have hr := Lib.index_room s.data.toList t.data.toList (by omega)
    rw [h1] at HF hk hr
    rw [if_pos (by omega), Int.toNat_natCast] at hk
    subst hk
    rw [len_data, len_data] at hr
    have h5 : (i : Int) + (t.size : Int) ≤ (s.size : Int) := by omega
    have hw1 : IntKind.i64.wrap ((i : Int) + (t.size : Int)) = (i : Int) + (t.size : Int) := Kb.wr64 _ (by omega) (by omega)
    have htn : ((i : Int) + (t.size : Int)).toNat = i + t.size := by omega
    have HE : Hid (mk (s.data.toList.take i) = s.extract 0 i ∧ mk (s.data.toList.drop (i + t.data.toList.length)) = s.extract (i + t.size) s.size) := hide (by
      refine ⟨eq_of_lists (by rw [Lib.extract_from_zero]; simp [mk]), eq_of_lists (by rw [Lib.extract_to_end, len_data]; simp [mk])⟩)
    have HB : Hid (Below w.heap.size w w) := hide (Below.refl _ _)
    clear h1 h2 h3
    go_enter Tryd.func58, Tryd.ntmps58
    go_wp2_with fail
    refine (unhide HF).mono ?_; rintro e w1 ⟨rfl, hwx⟩; rw [hwx]; clear hwx w1
    go_wp2
    go_quiet (fail)
    go_wp2
    go_ret3
    exact ⟨ret_ssb (unhide HE).1.symm (unhide HE).2.symm rfl, Go.below_drewN (unhide HB) _⟩
theorem cut_pc {t l : List UInt8} (ht : t ≠ []) : ((Lib.cut l t).2.2 = false ∧ Mh.pc t l = [(Lib.cut l t).1] ∧ (Lib.cut l t).1 = l) ∨ ((Lib.cut l t).2.2 = true ∧ Mh.pc t l = (Lib.cut l t).1 :: Mh.pc t (Lib.cut l t).2.1 ∧ (Lib.cut l t).2.1.length < l.length) := by
  rcases Lib.index_spec l t with ⟨h1, _⟩ | ⟨i, h1, h2, h3, _⟩
  · left
    unfold Lib.cut
    rw [h1, if_neg (by omega)]
    exact ⟨rfl, Mh.pc_miss h1, rfl⟩
  · right
    have hr := Lib.index_room l t (by omega)
    have hp := List.length_pos_iff.2 ht
    unfold Lib.cut
    rw [h1, if_pos (by omega), Int.toNat_natCast]
    refine ⟨rfl, Mh.pc_hit ht h1, ?_⟩
    rw [h1] at hr
    dsimp only
    rw [List.length_drop]; omega
set_option maxHeartbeats 4000000 in
theorem rpieces_s (t s : ByteArray) (w : World) (hs : s.size ≤ 4294960000) (ht : 1 ≤ t.size ∧ t.size ≤ 16) :
    Calls Tryd.prog 32 #[.string s, .string t] w fun e w' =>
      ∃ v, e = .returned v ∧ w'.ownsRow w.heap.size 9 1 v (Mh.pc t.data.toList s.data.toList).length (cellsS (Mh.pc t.data.toList s.data.toList)) ∧ Below w.heap.size w w' := by
  obtain ⟨i0, hi, hz0, hz1, hz2⟩ := info_parts infoS
  have htn : t.data.toList ≠ [] := fun e => by have := len_data t; rw [e] at this; simp at this; omega
  have hcl := Mh.pc_len htn s.data.toList
  rw [len_data] at hcl
  obtain ⟨cs, hcs⟩ : ∃ cs, Mh.pc t.data.toList s.data.toList = cs := ⟨_, rfl⟩
  rw [hcs] at hcl
  have HCS := hide hcs
  rw [hcs]
  clear hcs
  go_enter Tryd.func32, Tryd.ntmps32
  go_wp2
  go_loopw [0, 5] (fun x v wr => ∃ (y : ByteArray) (done : List (List UInt8)), x = .string y ∧ y.size ≤ s.size ∧ done ++ Mh.pc t.data.toList y.data.toList = cs ∧ wr.ownsRow w.heap.size 9 1 v done.length (cellsS done) ∧ Below w.heap.size w wr) (fun x _ _ => strSize x)
  case atStart => exact ⟨s, [], rfl, Nat.le_refl _, unhide HCS, World.ownsRow_nil _ _ _ _, Below.refl _ _⟩
  case round =>
    obtain ⟨y, done, rfl, hys, hdone, hown, hbel⟩ := hrel
    have hB := hbel.size
    have OWN := hide hown
    have HB := hide hbel
    have hlen : done.length + 1 ≤ cs.length := by
      have := congrArg List.length hdone
      have h2 := List.length_pos_iff.2 (Mh.pc_ne t.data.toList y.data.toList htn)
      rw [List.length_append] at this; omega
    have HD := hide hdone
    obtain ⟨n, hn⟩ : ∃ n, done.length = n := ⟨_, rfl⟩
    rw [hn] at OWN hlen
    have HN := hide hn
    have HCP := hide (cut_pc (l := y.data.toList) htn)
    have HCT := hide (rcut_s t y wr (by omega) ht _ rfl)
    obtain ⟨⟨a, b, k⟩, hq⟩ : ∃ q, Lib.cut y.data.toList t.data.toList = q := ⟨_, rfl⟩
    rw [hq] at HCP HCT
    dsimp only at HCT
    clear hown hbel hdone hn hq
    have b3 : n + 1 ≤ maxLen := by unfold maxLen; omega
    have b4 : (n + 1) * 16 ≤ 140737488355328 := by omega
    obtain ⟨x1, hx1⟩ : ∃ x, mk a = x := ⟨_, rfl⟩
    obtain ⟨x2, hx2⟩ : ∃ x, mk b = x := ⟨_, rfl⟩
    rw [hx1, hx2] at HCT
    have H1 := hide hx1
    have H2 := hide hx2
    clear hx1 hx2
    cases k
    · have HC : Hid (Mh.pc t.data.toList y.data.toList = [a]) := hide (by
        rcases unhide HCP with h | h
        · exact h.2.1
        · cases h.1)
      clear HCP
      go_wp2_with fail
      refine (unhide HCT).mono ?_; rintro e w1 ⟨rfl, b1⟩
      have B1 := hide (bel_trans (unhide HB) b1)
      have O1 := hide (own_below (unhide OWN) b1)
      have hB1 := (unhide B1).size
      clear b1 HCT
      go_wp2_with (at_builtin; refine wpList_append_own _ rfl _ _ 72 rfl w.heap.size 9 i0 (.string ByteArray.empty) 1 16 Tryd.underlying72 hi hz0 hz1 hz2 rfl (by decide) _ n (cellsS done) rfl ((unhide O1).alloc _) _ 1 1 _ rfl rfl (cell_one_n _ _ _) (by simp [Value.oneCell']) b3 b4 (by simp; omega) ?_; intro v1 w2 own1 grow1 _)
      go_ret
      refine ⟨_, rfl, ?_, ((unhide B1).alloc hB1 _).grown grow1 (by simp; omega) (own_lt (unhide O1))⟩
      rw [← unhide HD, unhide HC, cellsS_append, List.length_append, unhide HN]
      show World.ownsRow _ _ _ _ _ _ (cellsS done ++ [Value.string (mk a)])
      rw [unhide H1]; exact own1
    · have HC : Hid (Mh.pc t.data.toList y.data.toList = a :: Mh.pc t.data.toList b ∧ b.length < y.size) := hide (by
        rcases unhide HCP with h | h
        · cases h.1
        · have := h.2.2; rw [len_data] at this; exact ⟨h.2.1, this⟩)
      have hx2s : x2.size < y.size := by rw [← unhide H2, mk_size]; exact (unhide HC).2
      clear HCP
      go_wp2_with fail
      refine (unhide HCT).mono ?_; rintro e w1 ⟨rfl, b1⟩
      have B1 := hide (bel_trans (unhide HB) b1)
      have O1 := hide (own_below (unhide OWN) b1)
      have hB1 := (unhide B1).size
      clear b1 HCT
      go_wp2_with (at_builtin; refine wpList_append_own _ rfl _ _ 72 rfl w.heap.size 9 i0 (.string ByteArray.empty) 1 16 Tryd.underlying72 hi hz0 hz1 hz2 rfl (by decide) _ n (cellsS done) rfl ((unhide O1).alloc _) _ 1 1 _ rfl rfl (cell_one_n _ _ _) (by simp [Value.oneCell']) b3 b4 (by simp; omega) ?_; intro v1 w2 own1 grow1 _)
      refine ⟨⟨x2, done ++ [a], rfl, by omega, ?_, ?_, ((unhide B1).alloc hB1 _).grown grow1 (by simp; omega) (own_lt (unhide O1))⟩, by simp [strSize]; omega⟩
      · rw [← unhide HD, (unhide HC).1, ← unhide H2, mk_toList]; simp
      · rw [cellsS_append, List.length_append, unhide HN]
        show World.ownsRow _ _ _ _ _ _ (cellsS done ++ [Value.string (mk a)])
        rw [unhide H1]; exact own1
end Go.Proofs.YtmgealcolofomaaDoor
