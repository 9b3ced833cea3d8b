/- Walks: chunks written, the document's Chunked. -/
import Derived.Test.YtgmpgacedmjgdaaDoorTf
import Derived.Deep.RegionWith
namespace Go.Proofs.YtgmpgacedmjgdaaDoor
open Go.RowKit Kb
set_option linter.unusedVariables false
set_option maxRecDepth 20000

namespace Cu
/-- what is left to write at the k-th size -/
def leftC (zs : List Int) (o : L8) (k : Nat) (t out : L8) : Prop := (k ≤ zs.length ∧ out ++ chunked (zs.drop k) t = o) ∨ (k = zs.length + 1 ∧ out ++ last = o)
theorem left_zero {zs : List Int} {o : L8} {k : Nat} {t out : L8} (h : leftC zs o k t out) (hk : k ≤ zs.length) (h0 : k < zs.length → part ((zs[k]?).getD 0) t = 0) (h1 : k = zs.length → t = []) : leftC zs o (k + 1) t out := by
  rcases h with ⟨_, h⟩ | ⟨h, _⟩
  · by_cases hlt : k < zs.length
    · have hz : zs[k]? = some zs[k] := List.getElem?_eq_getElem hlt
      have hp := h0 hlt
      rw [hz, Option.getD_some] at hp
      rw [List.drop_eq_getElem_cons hlt, chunked, hp, List.take_zero, List.drop_zero, writ_nil, List.nil_append] at h
      exact .inl ⟨hlt, h⟩
    · obtain rfl : k = zs.length := by omega
      rw [List.drop_length, chunked, h1 rfl, writ_nil] at h
      exact .inr ⟨rfl, by simpa using h⟩
  · omega
theorem left_some {zs : List Int} {o : L8} {k n : Nat} {t out : L8} (h : leftC zs o k t out) (hk : k ≤ zs.length) (h0 : k < zs.length → part ((zs[k]?).getD 0) t = n) (h1 : k = zs.length → n = t.length) : leftC zs o (k + 1) (t.drop n) (out ++ writ (t.take n)) := by
  rcases h with ⟨_, h⟩ | ⟨h, _⟩
  · by_cases hlt : k < zs.length
    · have hz : zs[k]? = some zs[k] := List.getElem?_eq_getElem hlt
      have hp := h0 hlt
      rw [hz, Option.getD_some] at hp
      rw [List.drop_eq_getElem_cons hlt, chunked, hp] at h
      exact .inl ⟨hlt, by rw [List.append_assoc]; exact h⟩
    · obtain rfl : k = zs.length := by omega
      rw [List.drop_length, chunked] at h
      have hn := h1 rfl
      exact .inr ⟨rfl, by rw [hn, List.take_length, List.append_assoc]; exact h⟩
  · omega
theorem left_len {zs : List Int} {o : L8} {k : Nat} {t out : L8} (h : leftC zs o k t out) : out.length ≤ o.length := by
  rcases h with ⟨_, h⟩ | ⟨_, h⟩ <;> (have := congrArg List.length h; rw [List.length_append] at this; omega)
end Cu
theorem ext_all (t : ByteArray) : t.extract 0 t.size = t := eq_of_lists (by rw [take_data', List.take_of_length_le (by rw [len_data]; exact Nat.le_refl _)])
theorem ext_none (t : ByteArray) : t.extract t.size t.size = ByteArray.empty := eq_of_lists (by rw [extract_drop, List.drop_of_length_le (by rw [len_data]; exact Nat.le_refl _)]; rfl)
set_option maxHeartbeats 2000000 in
theorem rchunked_any (s : ByteArray) (v : Value) (zs : List Int) (w : World) (hv : Ints w v zs) (hT : DB w) (hs : s.size ≤ 1048576) (o : List UInt8) (ho : Cu.chunked zs s.data.toList = o) :
    Calls Tryd.prog 11 #[.string s, v] w fun e w' => e = .returned (.string (mk o)) ∧ Below w.heap.size w w' := by
  obtain ⟨vo, c, rfl, hc⟩ := hv.form
  have HU := hide hv
  have hroom := hv.room
  have HT := hide hT
  have hol := Cu.chunked_len zs s.data.toList (by rw [len_data]; omega)
  rw [ho, len_data] at hol
  have HO := hide ho
  clear hv hT ho
  go_enter Tryd.func11, Tryd.ntmps11
  go_wp2_with fail
  go_loopw [0, 5, 6] (fun v x i wr => ∃ (k : Nat) (t out : List UInt8), v = .string (mk t) ∧ x = .string (mk out) ∧ i = .int .i64 k ∧ k ≤ zs.length + 1 ∧ t.length ≤ s.size ∧ Cu.leftC zs o k t out ∧ Below w.heap.size w wr) (fun _ _ i _ => zs.length + 1 - (intOf i).toNat)
  case atStart => exact ⟨0, s.data.toList, [], by rw [mk_data], rfl, rfl, Nat.zero_le _, by rw [len_data]; exact Nat.le_refl _, .inl ⟨Nat.zero_le _, by rw [List.drop_zero]; exact unhide HO⟩, Below.refl _ _⟩
  case round =>
    clear HO
    obtain ⟨k, t', out, rfl, rfl, rfl, hk, htl, hch, hbel⟩ := hrel
    have HB := hide hbel
    clear hbel
    obtain ⟨t, ht⟩ := ex_list t'
    have htb : t.size ≤ 1048576 := by rw [← len_data, ht]; omega
    have htl2 : t.size ≤ s.size := by rw [← len_data, ht]; omega
    rw [← ht] at hch ⊢
    rw [mk_data]
    have htl3 : t.data.toList.length ≤ s.size := by rw [len_data]; exact htl2
    clear ht htl
    obtain ⟨q, hq⟩ : ∃ q, mk out = q := ⟨_, rfl⟩
    have hlen := Cu.left_len hch
    have hqb : q.size ≤ 1099511627776 := by rw [← hq, mk]; simp [ByteArray.size]; omega
    rw [hq]
    have HQ := hide hq
    have HCH := hide hch
    have DW := hide ((unhide HT).below (unhide HB))
    clear hq hch hlen
    by_cases hkl : k ≤ zs.length
    · -- the number of bytes to write
      have hnx : ∃ n : Nat, n ≤ t.size ∧ (k < zs.length → Cu.part ((zs[k]?).getD 0) t.data.toList = n) ∧ (k = zs.length → n = t.size) := by
        by_cases hlt : k < zs.length
        · exact ⟨Cu.part ((zs[k]?).getD 0) t.data.toList, by have := Cu.part_le ((zs[k]?).getD 0) t.data.toList; rwa [len_data] at this, fun _ => rfl, fun h => by omega⟩
        · exact ⟨t.size, Nat.le_refl _, fun h => absurd h hlt, fun _ => rfl⟩
      obtain ⟨n, hnt, hn1, hn2⟩ := hnx
      have HL := hide (Cu.left_some (n := n) (unhide HCH) hkl hn1 (fun h => by rw [len_data]; exact hn2 h))
      obtain ⟨p, hp⟩ := ex_list (Cu.hx n)
      have hps : p.size ≤ 7 := by rw [← len_data, hp]; exact Cu.hx_seven (by omega)
      have HF := hide (fun W (hd : DB W) => hex_at n p hp W (by omega) hd)
      have HW : Hid (0 < n → q ++ (p ++ ⟨#[13, 10]⟩ ++ t.extract 0 n ++ ⟨#[13, 10]⟩) = mk (out ++ Cu.writ (t.data.toList.take n))) := hide (fun h0 => by
        have hne : t.data.toList.take n ≠ [] := fun e => by
          have := congrArg List.length e
          rw [List.length_take, len_data, List.length_nil] at this; omega
        have hl : (t.data.toList.take n).length = n := by rw [List.length_take, len_data]; omega
        rw [Cu.writ_yes hne, hl, ← unhide HQ, ← hp]
        apply eq_of_lists
        rw [cat_data, cat_data, cat_data, cat_data, take_data']
        simp [mk, Cu.crlf, List.append_assoc])
      have HD : Hid (t.extract n t.size = mk (t.data.toList.drop n)) := hide (eq_of_lists (by rw [extract_drop]; simp [mk]))
      have HZ : Hid (n = 0 → Cu.leftC zs o (k + 1) t.data.toList out) := hide (fun h0 => Cu.left_zero (unhide HCH) hkl (fun h => by rw [hn1 h, h0]) (fun h => List.length_eq_zero_iff.1 (by rw [len_data, ← hn2 h, h0])))
      have HTL : Hid ((t.data.toList.drop n).length ≤ s.size) := hide (by rw [List.length_drop, len_data]; omega)
      clear hp HCH
      by_cases hlt : k < zs.length
      · obtain ⟨z, hz⟩ : ∃ z, zs[k]? = some z := ⟨zs[k], List.getElem?_eq_getElem hlt⟩
        obtain ⟨g, off, c', hv, hg, hcell⟩ := (((unhide HU).below (unhide HB)).at_ (by intro e; rw [e] at hlt; cases hlt))
        cases hv
        have hload := hcell k z hz
        have hzf := (unhide HU).fits z (List.mem_of_getElem? hz)
        have hpn := hn1 hlt
        rw [hz, Option.getD_some, Cu.part, len_data] at hpn
        clear hcell hz hn1 hn2
        by_cases hzl : z < (t.size : Int)
        · by_cases hz0 : 0 < z
          · obtain rfl : z = (n : Int) := by omega
            have hn0 : 0 < n := by omega
            clear hpn
            go_wp2_with fail
            go_region_with (go_at_call 30; refine ((unhide HF) _ ?_).mono ?_; (first | exact unhide DW | exact (unhide DW).below (Below.refl _ _).drew); rintro e w3 ⟨rfl, b3⟩)
            all_goals (
              go_wp2_with fail
              rw [unhide HW hn0, unhide HD]
              refine ⟨⟨k + 1, _, _, rfl, rfl, by go_num, by omega, unhide HTL, unhide HL, ?_⟩, by simp [intOf]; omega⟩
              first | exact bel_trans (unhide HB) b3 | exact bel_trans (unhide HB) (bel_trans ((Below.refl _ _).drew) b3))
          · obtain rfl : n = 0 := by omega
            clear hpn HF HW HD HL
            go_wp2_with fail
            exact ⟨⟨k + 1, t.data.toList, out, by rw [mk_data], by rw [unhide HQ], by go_num, by omega, htl3, unhide HZ rfl, unhide HB⟩, by simp [intOf]; omega⟩
        · obtain rfl : n = t.size := by omega
          rw [ext_all] at HW
          rw [ext_none] at HD
          by_cases hn0 : 0 < t.size
          · clear hpn
            go_wp2_with fail
            go_region_with (go_at_call 30; refine ((unhide HF) _ ?_).mono ?_; (first | exact unhide DW | exact (unhide DW).below (Below.refl _ _).drew); rintro e w3 ⟨rfl, b3⟩)
            all_goals (
              go_wp2_with fail
              rw [unhide HW hn0, unhide HD]
              refine ⟨⟨k + 1, _, _, rfl, rfl, by go_num, by omega, unhide HTL, unhide HL, ?_⟩, by simp [intOf]; omega⟩
              first | exact bel_trans (unhide HB) b3 | exact bel_trans (unhide HB) (bel_trans ((Below.refl _ _).drew) b3))
          · have hts : t.size = 0 := by omega
            clear hpn HF HW HD HL
            go_wp2_with fail
            exact ⟨⟨k + 1, t.data.toList, out, by rw [mk_data], by rw [unhide HQ], by go_num, by omega, htl3, unhide HZ hts, unhide HB⟩, by simp [intOf]; omega⟩
      · obtain rfl : k = zs.length := by omega
        obtain rfl : n = t.size := hn2 rfl
        clear hn1 hn2
        rw [ext_all] at HW
        rw [ext_none] at HD
        by_cases hn0 : 0 < t.size
        · go_wp2_with fail
          go_region_with (go_at_call 30; refine ((unhide HF) _ ?_).mono ?_; (first | exact unhide DW | exact (unhide DW).below (Below.refl _ _).drew); rintro e w3 ⟨rfl, b3⟩)
          all_goals (
            go_wp2_with fail
            rw [unhide HW hn0, unhide HD]
            refine ⟨⟨zs.length + 1, _, _, rfl, rfl, by go_num, by omega, unhide HTL, unhide HL, ?_⟩, by simp [intOf]; try omega⟩
            first | exact bel_trans (unhide HB) b3 | exact bel_trans (unhide HB) (bel_trans ((Below.refl _ _).drew) b3))
        · have hts : t.size = 0 := by omega
          clear HF HW HD HL
          go_wp2_with fail
          exact ⟨⟨zs.length + 1, t.data.toList, out, by rw [mk_data], by rw [unhide HQ], by go_num, by omega, htl3, unhide HZ hts, unhide HB⟩, by simp [intOf]; try omega⟩
    · obtain rfl : k = zs.length + 1 := by omega
      have HE : Hid (mk o = q ++ ⟨#[48]⟩ ++ ⟨#[13, 10]⟩ ++ ⟨#[13, 10]⟩) := hide (by
        rcases unhide HCH with ⟨h, _⟩ | ⟨_, h⟩
        · omega
        · rw [← h, ← unhide HQ]
          apply eq_of_lists
          rw [cat_data, cat_data, cat_data]
          simp [mk, Cu.last])
      go_wp2_with fail
      go_ret
      exact ⟨ret_str (unhide HE).symm, unhide HB⟩
end Go.Proofs.YtgmpgacedmjgdaaDoor
