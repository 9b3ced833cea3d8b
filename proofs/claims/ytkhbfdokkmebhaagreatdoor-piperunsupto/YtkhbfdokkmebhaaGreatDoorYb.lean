/- Walks of the document's Split, Pieces, Joined, Path (at the sign /). -/
import Derived.Test.YtkhbfdokkmebhaaGreatDoorRi
import Derived.Test.YtkhbfdokkmebhaaGreatDoorXb
import Derived.OwnWalk
namespace Go.Proofs.YtkhbfdokkmebhaaGreatDoor
open Go.RowKit Kb
set_option linter.unusedVariables false
set_option maxRecDepth 20000

theorem find_miss {s : List UInt8} (h : (47 : UInt8) ∉ s) : Fnd.find s [47] 0 = -1 :=
  Cp.find_no fun a b e => h (by rw [e]; simp)
theorem find_cut (s : List UInt8) : ((47 : UInt8) ∉ s ∧ Fnd.find s [47] 0 = -1) ∨ ∃ i : Nat, Fnd.find s [47] 0 = i ∧ i + 1 ≤ s.length ∧ Cp.cut s = s.take i :: Cp.cut (s.drop (i + 1)) := by
  by_cases h : (47 : UInt8) ∈ s
  · refine .inr ?_
    rcases Fnd.find_spec s [47] 0 with h1 | ⟨k, h1, h2, h3, h4, h5⟩
    · obtain ⟨u, v, huv⟩ := List.append_of_mem h
      have := (Fnd.find_mid u [47] v).1
      rw [show u ++ [47] ++ v = s by rw [huv]; simp, h1.1] at this
      omega
    · refine ⟨k, h1, ?_, ?_⟩
      · rcases Lib.occAt_room h4 with h' | h'
        · exact h'
        · cases h'
      · have hs := Cp.occ_split h4
        have e2 : s = s.take k ++ 47 :: s.drop (k + 1) := by
          rw [List.append_assoc] at hs; exact hs
        have := Cp.cut_hit (a := s.take k) (s.drop (k + 1)) (Cq.occ_one_take fun j hj => h5 j (by omega) hj)
        rwa [← e2] at this
  · exact .inl ⟨h, find_miss h⟩

set_option maxHeartbeats 2000000 in
theorem rsplit_miss (s : ByteArray) (hf : Fnd.find s.data.toList [47] 0 = -1) (hs : s.size ≤ 68719476736) (w : World) :
    Calls Tryz.prog 60 #[.string s, .string ⟨#[47]⟩] w fun e w' => e = .returned (.tuple #[.string s, .string ⟨#[]⟩, .bool false]) ∧ w' = w := by
  have HF := hide (rfind_any s ⟨#[47]⟩ 0 w (by omega) (by decide) (by omega) (by omega))
  rw [show (⟨#[47]⟩ : ByteArray).data.toList = [47] from rfl, hf] at HF
  go_enter Tryz.func60, Tryz.ntmps60
  go_wp2_with fail
  refine (unhide HF).mono ?_; rintro e w1 ⟨rfl, hwx⟩; rw [hwx]; clear hwx w1
  go_wp2
  go_ret3
  exact ⟨rfl, rfl⟩
set_option maxHeartbeats 2000000 in
theorem rsplit_hit (s : ByteArray) (i : Nat) (hf : Fnd.find s.data.toList [47] 0 = i) (hi : i + 1 ≤ s.size) (hs : s.size ≤ 68719476736) (w : World) :
    Calls Tryz.prog 60 #[.string s, .string ⟨#[47]⟩] w fun e w' => e = .returned (.tuple #[.string (s.extract 0 i), .string (s.extract (i + 1) s.size), .bool true]) ∧ Below w.heap.size w w' := by
  have HF := hide (rfind_any s ⟨#[47]⟩ 0 w (by omega) (by decide) (by omega) (by omega))
  rw [show (⟨#[47]⟩ : ByteArray).data.toList = [47] from rfl, hf] at HF
  have h1 : (i : Int) + 1 ≤ (s.size : Int) := by omega
  have HB : Hid (Below w.heap.size w w) := hide (Below.refl _ _)
  clear hf
  go_enter Tryz.func60, Tryz.ntmps60
  go_wp2_with fail
  refine (unhide HF).mono ?_; rintro e w1 ⟨rfl, hwx⟩; rw [hwx]; clear hwx w1
  go_wp2
  go_quiet (fail)
  go_wp2
  go_ret3
  exact ⟨rfl, Go.below_drewN (unhide HB) _⟩


set_option maxHeartbeats 4000000 in
theorem rpieces_any (s : ByteArray) (w : World) (hs : s.size ≤ 4294960000) :
    Calls Tryz.prog 41 #[.string s, .string ⟨#[47]⟩] w fun e w' =>
      ∃ v, e = .returned v ∧ w'.ownsRow w.heap.size 9 1 v (Cp.cut s.data.toList).length (cellsS (Cp.cut s.data.toList)) ∧ Below w.heap.size w w' := by
  obtain ⟨i0, hi, hz0, hz1, hz2⟩ := info_parts infoS
  have hcl := Cp.len_wt (Cp.cut s.data.toList)
  rw [Cp.wt_cut, len_data] at hcl
  obtain ⟨cs, hcs⟩ : ∃ cs, Cp.cut s.data.toList = cs := ⟨_, rfl⟩
  rw [hcs] at hcl
  have HCS := hide hcs
  rw [hcs]
  clear hcs
  go_enter Tryz.func41, Tryz.ntmps41
  go_wp2
  go_loopw [0, 5] (fun x v wr => ∃ (y : ByteArray) (done : List (List UInt8)), x = .string y ∧ y.size ≤ s.size ∧ done ++ Cp.cut y.data.toList = cs ∧ wr.ownsRow w.heap.size 9 1 v done.length (cellsS done) ∧ Below w.heap.size w wr) (fun x _ _ => strSize x)
  case atStart => exact ⟨s, [], rfl, Nat.le_refl _, unhide HCS, World.ownsRow_nil _ _ _ _, Below.refl _ _⟩
  case round =>
    obtain ⟨y, done, rfl, hys, hdone, hown, hbel⟩ := hrel
    have hB := hbel.size
    have OWN := hide hown
    have HB := hide hbel
    have hlen : done.length + 1 ≤ cs.length := by
      have := congrArg List.length hdone
      have h2 := List.length_pos_iff.2 (Cp.cut_ne y.data.toList)
      rw [List.length_append] at this; omega
    have HD := hide hdone
    obtain ⟨n, hn⟩ : ∃ n, done.length = n := ⟨_, rfl⟩
    rw [hn] at OWN hlen
    have HN := hide hn
    clear hown hbel hdone hn
    have b3 : n + 1 ≤ maxLen := by unfold maxLen; omega
    have b4 : (n + 1) * 16 ≤ 140737488355328 := by omega
    rcases find_cut y.data.toList with ⟨hno, hf⟩ | ⟨i, hf, hi1, hcut⟩
    · have H1 := hide (rsplit_miss y hf (by omega) wr)
      have HC := hide (Cp.cut_no hno)
      clear hno hf
      go_wp2_with fail
      refine (unhide H1).mono ?_; rintro e w1 ⟨rfl, hwx⟩; rw [hwx]; clear hwx w1
      go_wp2_with (at_builtin; refine wpList_append_own _ rfl _ _ 41 rfl w.heap.size 9 i0 (.string ByteArray.empty) 1 16 Tryz.underlying41 hi hz0 hz1 hz2 rfl (by decide) _ n (cellsS done) rfl ((unhide OWN).alloc _) _ 1 1 _ rfl rfl (cell_one_new _ _ _) (by simp [Value.oneCell']) b3 b4 (by simp; omega) ?_; intro v1 w1 own1 grow1 _)
      go_ret
      refine ⟨_, rfl, ?_, ((unhide HB).alloc hB _).grown grow1 (by simp; omega) (own_lt (unhide OWN))⟩
      rw [← unhide HD, unhide HC, cellsS_append, List.length_append, unhide HN]
      show World.ownsRow _ _ _ _ _ _ (cellsS done ++ [Value.string (mk y.data.toList)])
      rw [mk_data]; exact own1
    · rw [len_data] at hi1
      have H1 := hide (rsplit_hit y i hf hi1 (by omega) wr)
      obtain ⟨a, ha⟩ : ∃ a, y.extract 0 i = a := ⟨_, rfl⟩
      obtain ⟨b, hb⟩ : ∃ b, y.extract (i + 1) y.size = b := ⟨_, rfl⟩
      have HA : Hid (y.data.toList.take i = a.data.toList) := hide (by rw [← ha, Lib.extract_from_zero])
      have HBD : Hid (y.data.toList.drop (i + 1) = b.data.toList) := hide (by rw [← hb, Lib.extract_to_end])
      have hbs : b.size < y.size := by rw [← len_data b, ← unhide HBD, List.length_drop, len_data]; omega
      rw [ha, hb] at H1
      have HC : Hid (Cp.cut y.data.toList = a.data.toList :: Cp.cut b.data.toList) := hide (by rw [hcut, unhide HA, unhide HBD])
      clear ha hb hcut hf HA HBD hi1
      go_wp2_with fail
      refine (unhide H1).mono ?_; rintro e w1 ⟨rfl, b1⟩
      have OW1 := hide (own_below (unhide OWN) b1)
      have HB1 := hide (bel_trans (unhide HB) b1)
      have hB1 := (unhide HB1).size
      clear b1 OWN HB hB H1
      go_wp2_with (at_builtin; refine wpList_append_own _ rfl _ _ 41 rfl w.heap.size 9 i0 (.string ByteArray.empty) 1 16 Tryz.underlying41 hi hz0 hz1 hz2 rfl (by decide) _ n (cellsS done) rfl ((unhide OW1).alloc _) _ 1 1 _ rfl rfl (cell_one_new _ _ _) (by simp [Value.oneCell']) b3 b4 (by simp; omega) ?_; intro v1 w2 own1 grow1 _)
      refine ⟨⟨b, done ++ [a.data.toList], rfl, by omega, ?_, ?_, ((unhide HB1).alloc hB1 _).grown grow1 (by simp; omega) (own_lt (unhide OW1))⟩, by simpa [strSize] using hbs⟩
      · rw [← unhide HD, unhide HC]; simp
      · rw [cellsS_append, List.length_append, unhide HN]
        show World.ownsRow _ _ _ _ _ _ (cellsS done ++ [Value.string (mk a.data.toList)])
        rw [mk_data]; exact own1

theorem join_snoc (L : List (List UInt8)) (hL : L ≠ []) (x : List UInt8) : Lib.join (L ++ [x]) [47] = Lib.join L [47] ++ [47] ++ x := by
  cases L with
  | nil => exact absurd rfl hL
  | cons a r => rw [List.cons_append, Lib.join_cons, Lib.join_cons]; simp [Lib.joinTail]
def Jn (L : List (List UInt8)) (k : Nat) : List UInt8 := Lib.join (L.take k) [47]
theorem Jn_one (L : List (List UInt8)) (x : List UInt8) (h : L[0]? = some x) : Jn L 1 = x := by
  unfold Jn; rw [List.take_add_one, h]; exact Lib.join_one _ _
theorem Jn_succ (L : List (List UInt8)) (k : Nat) (hk : 0 < k) (x : List UInt8) (h : L[k]? = some x) : Jn L (k + 1) = Jn L k ++ [47] ++ x := by
  unfold Jn; rw [List.take_add_one, h]
  refine join_snoc _ ?_ x
  intro e
  have := congrArg List.length e
  have h2 : k < L.length := (List.getElem?_eq_some_iff.1 h).1
  rw [List.length_take, List.length_nil] at this; omega
theorem Jn_len (L : List (List UInt8)) (k : Nat) : (Jn L k).length ≤ Cp.wt L := Nat.le_trans (Cp.join_len _) (Cp.wt_take L k)
theorem wt_mem : ∀ (L : List (List UInt8)) (x : List UInt8), x ∈ L → x.length ≤ Cp.wt L
  | p :: L, x, h => by
    rw [Cp.wt_cons]
    rcases List.mem_cons.1 h with rfl | h
    · omega
    · have := wt_mem L x h; omega

set_option maxHeartbeats 4000000 in
theorem rjoined_none (o : Option Addr) (c : Nat) (w : World) :
    Calls Tryz.prog 42 #[.slice o 0 c, .string ⟨#[47]⟩] w fun e w' => e = .returned (.string (mk [])) ∧ w' = w := by
  go_enter Tryz.func42, Tryz.ntmps42
  go_wp2
  go_loop [5, 6] (fun v i => v = .string ⟨#[]⟩ ∧ i = .int .i64 0) (fun _ _ => 0)
  case atStart => exact ⟨rfl, rfl⟩
  case round =>
    obtain ⟨rfl, rfl⟩ := hrel
    go_wp2
    go_ret
    exact ⟨rfl, rfl⟩
set_option maxHeartbeats 4000000 in
theorem rjoined_some (L : List (List UInt8)) (g c : Nat) (w : World) (hcell : ∀ j p, L[j]? = some p → w.cell? ⟨g, j, none⟩ = some (.string (mk p))) (hL : Cp.wt L ≤ 1099511627776) :
    Calls Tryz.prog 42 #[.slice (some ⟨g, 0, none⟩) L.length c, .string ⟨#[47]⟩] w fun e w' => e = .returned (.string (mk (Lib.join L [47]))) ∧ w' = w := by
  have hl := Cp.len_wt L
  have HC := hide hcell
  clear hcell
  go_enter Tryz.func42, Tryz.ntmps42
  go_wp2
  go_loop [5, 6] (fun v i => ∃ (k : Nat) (u : ByteArray), k ≤ L.length ∧ i = .int .i64 k ∧ v = .string u ∧ u = mk (Jn L k)) (fun _ i => L.length - (intOf i).toNat)
  case atStart => exact ⟨0, _, Nat.zero_le _, rfl, rfl, rfl⟩
  case round =>
    obtain ⟨k, u, hk, rfl, rfl, hu⟩ := hrel
    have hus : u.size ≤ 1099511627776 := by rw [hu]; have := Jn_len L k; unfold mk; rw [mk_sz]; omega
    have HU := hide hu
    clear hu
    by_cases hlt : k < L.length
    · obtain ⟨p, hp⟩ : ∃ p, L[k]? = some p := ⟨L[k], List.getElem?_eq_getElem hlt⟩
      have hload := (unhide HC) k p hp
      have hps : (mk p).size ≤ 1099511627776 := by
        have := wt_mem L p (List.mem_of_getElem? hp); unfold mk; rw [mk_sz]; omega
      obtain ⟨x, hx⟩ : ∃ x, mk p = x := ⟨_, rfl⟩
      rw [hx] at hload hps
      by_cases h0 : k = 0
      · subst h0
        have HE : Hid (u ++ x = mk (Jn L 1)) := hide (by rw [unhide HU, ← hx, cat_mk, Jn_one L p hp]; rfl)
        clear hx hp
        go_wp2
        exact ⟨⟨1, _, by omega, by go_num, rfl, unhide HE⟩, by simp [intOf]; omega⟩
      · have HE : Hid ((u ++ ⟨#[47]⟩) ++ x = mk (Jn L (k + 1))) := hide (by
          rw [unhide HU, ← hx, show (⟨#[47]⟩ : ByteArray) = mk [47] from rfl, cat_mk, cat_mk, Jn_succ L k (by omega) p hp])
        have h0' : 0 < k := by omega
        clear hx hp h0
        have hz : (u ++ ⟨#[47]⟩ : ByteArray).size ≤ 1099511627777 := by rw [ByteArray.size_append]; show u.size + 1 ≤ _; omega
        go_wp2
        exact ⟨⟨k + 1, _, by omega, by go_num, rfl, unhide HE⟩, by simp [intOf]; omega⟩
    · obtain rfl : k = L.length := by omega
      go_wp2
      go_ret
      refine ⟨ret_str ?_, rfl⟩
      rw [unhide HU, Jn, List.take_length]
theorem rjoined_row (L : List (List UInt8)) (v : Value) (B : Nat) (w : World) (hown : w.ownsRow B 9 1 v L.length (cellsS L)) (hL : Cp.wt L ≤ 1099511627776) :
    Calls Tryz.prog 42 #[v, .string ⟨#[47]⟩] w fun e w' => e = .returned (.string (mk (Lib.join L [47]))) ∧ w' = w := by
  by_cases hn : L = []
  · subst hn
    obtain ⟨o, c, rfl⟩ := own_forms hown
    exact rjoined_none o c w
  · obtain ⟨g, c, rfl, hc⟩ := own_form hown (List.length_pos_iff.2 hn)
    refine rjoined_some L g c w ?_ hL
    intro j p hp
    have hj2 : j < L.length := (List.getElem?_eq_some_iff.1 hp).1
    rw [hown.cellAt j (by omega), cellsS, List.getElem?_map, hp]; rfl
end Go.Proofs.YtkhbfdokkmebhaaGreatDoor
