/- The walk of the document's Base64Encode. -/
import Derived.Test.YtkhbfdokkmebhaaGreatDoorRp
import Derived.Test.YtkhbfdokkmebhaaGreatDoorWk
namespace Go.Proofs.YtkhbfdokkmebhaaGreatDoor
open Go.RowKit Kb
set_option linter.unusedVariables false
set_option maxRecDepth 20000

def sliceLen : Value → Nat
  | .slice _ n _ => n
  | _ => 0
def strLen : Value → Nat
  | .string s => s.size
  | _ => 0
theorem own_len {w : World} {B e size n : Nat} {v : Value} {xs : List Value} (h : w.ownsRow B e size v n xs) : sliceLen v = n := by
  rcases h.2 with ⟨rfl, h0⟩ | ⟨g, cap, cur, rfl, _⟩
  · rw [h0]; rfl
  · rfl
theorem repl_succ {α : Type} (l : List α) (z : Nat) (a : α) : l ++ List.replicate (z + 1) a = (l ++ List.replicate z a) ++ [a] := by
  rw [List.replicate_succ']; simp
theorem tab_get64 (x : Nat) (h : x < 64) : (tab64.extract x (x + 1)).data.toList = [C6.sg x] := by
  rw [Kb.one_byte tab64 x h]
  show [tab64[x]] = _
  rw [tab_at64 x h h]
theorem map_take_snoc (L : List Nat) (k : Nat) (h : k < L.length) : (L.take (k + 1)).map C6.sg = (L.take k).map C6.sg ++ [C6.sg L[k]] := by
  rw [take_succ_nat L k h, List.map_append]; rfl

theorem six (n : Nat) (e0 : (8 * n + 0) % 6 ≠ 0) (e2 : (8 * n + 2) % 6 ≠ 0) (e4 : (8 * n + 4) % 6 ≠ 0) : False := by
  obtain ⟨d, r, hr, rfl⟩ : ∃ d r, r < 3 ∧ n = 3 * d + r := ⟨n / 3, n % 3, Nat.mod_lt _ (by decide), by omega⟩
  match r, hr with
  | 0, _ => omega
  | 1, _ => omega
  | 2, _ => omega

set_option maxRecDepth 100000 in
set_option maxHeartbeats 16000000 in
theorem rb64enc_any (s q : ByteArray) (w : World) (hq : q.data.toList = C6.enc64 s.data.toList) (hs : s.size ≤ 68719476736) :
    Calls Tryz.prog 38 #[.string s] w fun e w' => e = .returned (.string q) ∧ Below w.heap.size w w' := by
  obtain ⟨i0, hi, hz0, hz1, hz2⟩ := info_parts infoI64
  have HQ := hide hq
  clear hq
  have HBT := hide (fun W => bits8_any s W (by omega))
  have hbl := C7.b8s_len s.data.toList
  rw [len_data] at hbl
  have H2 := hide (C7.b8s_lt s.data.toList)
  change Hid (∀ W, Calls _ _ _ W fun e w' => ∃ v, e = .returned (.tuple #[v, .bool true]) ∧ (w'.ownsRow W.heap.size 3 1 v (8 * s.size) (cellsI (C7.b8s s.data.toList))) ∧ Below W.heap.size W w') at HBT
  have HEB := hide (C7.enc_bits s.data.toList)
  rw [len_data] at HEB
  generalize C7.b8s s.data.toList = bl at *
  go_enter Tryz.func38, Tryz.ntmps38
  go_wp2_with fail
  refine ((unhide HBT) _).mono ?_; rintro e w1 ⟨v0, rfl, own0, bel0⟩
  have OW0 := hide own0
  have HB0 := hide bel0
  clear own0 bel0 HBT
  go_wp2_with fail
  go_loopw [3] (fun v wr => ∃ (z : Nat), z < 6 ∧ (∀ y, y < z → (8 * s.size + y) % 6 ≠ 0) ∧ wr.ownsRow w.heap.size 3 1 v (8 * s.size + z) (cellsI (bl ++ List.replicate z 0)) ∧ Below w.heap.size w wr) (fun v _ => (6 - sliceLen v % 6) % 6)
  case atStart => exact ⟨0, by omega, fun y hy => by omega, by simpa using unhide OW0, unhide HB0⟩
  case round =>
    obtain ⟨z, hz, hzz, hown, hbel⟩ := hrel
    have hB := hbel.size
    have HB := hide hbel
    have OWN := hide hown
    have hlen := own_len hown
    clear OW0 HB0 hbel
    by_cases h6 : (8 * s.size + z) % 6 = 0
    · have HZL : Hid (8 * s.size + z = (bl ++ List.replicate z 0).length) := hide (by rw [List.length_append, hbl, List.length_replicate])
      have h2b : ∀ b ∈ bl ++ List.replicate z 0, b < 2 := by
        intro b hb
        rcases List.mem_append.1 hb with h | h
        · exact (unhide H2) b h
        · rw [List.mem_replicate] at h; omega
      have HNUM2 := hide (numbers_any _ w.heap.size (8 * s.size + z) (bl ++ List.replicate z 0) 6 wr (by omega) (by omega) (unhide HZL) (by rw [← unhide HZL]; omega) h2b hown)
      have hN : (C7.nm 6 (bl ++ List.replicate z 0)).length = (8 * s.size + z) / 6 := by rw [C7.nm_len6 _ _ (Nat.le_refl _), ← unhide HZL]
      have HLT := hide (C7.nm_lt 6 (by decide) _ (bl ++ List.replicate z 0) (Nat.le_refl _) h2b)
      have HFIN := hide (fun y hy h4 => (unhide HEB) z y hz h6 hy h4)
      have h6' : Int.tmod (8 * (s.size : Int) + (z : Int)) 6 = 0 := by rw [Int.tmod_eq_emod_of_nonneg (by omega)]; omega
      have h6e : (8 * (s.size : Int) + (z : Int)) % 6 = 0 := by omega
      generalize C7.nm 6 (bl ++ List.replicate z 0) = L at *
      have HLL := hide hN
      have hLb : L.length ≤ 137438953472 := by omega
      clear h2b hN HEB h6 hzz HZL hlen
      have hcase := hown.2
      clear hown OWN
      rcases hcase with ⟨rfl, h0⟩ | ⟨g, cap, cur, rfl, hgc⟩
      all_goals
        go_wp2_with fail
        refine (unhide HNUM2).mono ?_; rintro e w2 ⟨v2, rfl, own2, bel2⟩
        have OW2 := hide own2
        have HB2 := hide ((unhide HB).trans (bel2.mono (unhide HB).size))
        have hcase2 := own2.2
        clear own2 bel2 HNUM2 HB
        rcases hcase2 with ⟨rfl, h00⟩ | ⟨g2, cap2, cur2, rfl, hgc2⟩
        all_goals
          go_wp2_with fail
          go_loopw [5, 7] (fun v i wq => ∃ (k : Nat) (o : ByteArray), k ≤ L.length ∧ i = .int .i64 k ∧ v = .string o ∧ o.data.toList = (L.take k).map C6.sg ∧ Below w2.heap.size w2 wq) (fun _ i _ => L.length - (intOf i).toNat)
          case atStart => exact ⟨0, _, Nat.zero_le _, rfl, rfl, rfl, Below.refl _ _⟩
          case round =>
            obtain ⟨k, o, hk, rfl, rfl, ho, hbel⟩ := hrel
            have HB3 := hide hbel
            have HO := hide ho
            have hos : o.size = k := by rw [← len_data, ho, List.length_map, List.length_take]; omega
            have hos' : o.size ≤ 137438953472 := by omega
            clear hbel ho
            by_cases hkl : k < L.length
            · first
                | (exfalso; omega; done)
                | (have hcell := cell_below (nth_cell (unhide OW2) k hkl) (own_small (unhide OW2)) (unhide HB3)
                   have hx64 := (unhide HLT) _ (List.getElem_mem hkl)
                   have HM := hide (map_take_snoc L k hkl)
                   obtain ⟨x, hx⟩ : ∃ x, L[k]'hkl = x := ⟨_, rfl⟩
                   rw [hx] at hcell hx64 HM
                   clear hx hos
                   have HE := hide (app_data (unhide HO) (tab_get64 x hx64))
                   rw [← unhide HM] at HE
                   unfold tab64 at HE
                   have hxi : (x : Int) < 64 := by omega
                   have hkl' : (k : Int) < (L.length : Int) := by omega
                   go_wp2_with fail
                   go_quiet (fail)
                   go_wp2_with fail
                   exact ⟨⟨k + 1, _, by omega, by go_num, rfl, unhide HE, Go.below_drewN (unhide HB3) _⟩, by simp [intOf]; omega⟩)
            · have HO2 : Hid (o.data.toList = L.map C6.sg) := hide (by rw [unhide HO, List.take_of_length_le (by omega)])
              have hoN : o.size = L.length := by omega
              clear hos
              go_wp2_with fail
              go_loopw [5] (fun v wz => ∃ (y : Nat) (o : ByteArray), y < 4 ∧ (∀ u, u < y → (L.length + u) % 4 ≠ 0) ∧ v = .string o ∧ o.data.toList = L.map C6.sg ++ List.replicate y 61 ∧ Below w2.heap.size w2 wz) (fun v _ => (4 - strLen v % 4) % 4)
              case atStart => exact ⟨0, _, by omega, fun u hu => by omega, rfl, by simpa using unhide HO2, unhide HB3⟩
              case round =>
                obtain ⟨y, o, hy, hyy, rfl, ho, hbel⟩ := hrel
                have HB4 := hide hbel
                have HO4 := hide ho
                have hos : o.size = L.length + y := by rw [← len_data, ho, List.length_append, List.length_map, List.length_replicate]
                have hob : o.size ≤ 137438953480 := by omega
                clear hbel ho
                by_cases h4 : (L.length + y) % 4 = 0
                · have HF := hide ((unhide HFIN) y hy (by rw [← unhide HLL]; exact h4))
                  have h4t : Int.tmod (o.size : Int) 4 = 0 := by rw [Int.tmod_eq_emod_of_nonneg (by omega)]; omega
                  have h4e : (o.size : Int) % 4 = 0 := by omega
                  clear h4 hos hyy
                  go_wp2_with fail
                  go_ret
                  exact ⟨Kb.ret_str (eq_of_lists (by rw [unhide HQ, unhide HO4, unhide HF])), (unhide HB2).trans ((unhide HB4).mono (unhide HB2).size)⟩
                · have HE := hide (app_data (unhide HO4) (show (⟨#[61]⟩ : ByteArray).data.toList = [61] from rfl))
                  rw [← repl_succ] at HE
                  have hy3 : y + 1 < 4 := by
                    have e0 := hyy 0; have e1 := hyy 1; have e2 := hyy 2
                    omega
                  have hyy2 : Hid (∀ u, u < y + 1 → (L.length + u) % 4 ≠ 0) := hide (fun u hu => by
                    by_cases e : u = y
                    · subst e; exact h4
                    · exact hyy u (by omega))
                  have h4t : (Int.tmod (o.size : Int) 4 != 0) = true := by rw [bne_iff_ne, Int.tmod_eq_emod_of_nonneg (by omega)]; omega
                  have h4e : ¬ (o.size : Int) % 4 = 0 := by omega
                  have HMS : Hid ((4 - (o.size + 1) % 4) % 4 < (4 - o.size % 4) % 4) := hide (by omega)
                  clear h4 hos hyy
                  go_wp2_with fail
                  exact ⟨⟨y + 1, _, hy3, unhide hyy2, rfl, unhide HE, unhide HB4⟩, by simp [strLen]; exact unhide HMS⟩
    · have hz5 : z + 1 < 6 := by
        rcases Nat.lt_or_ge (z + 1) 6 with h | h
        · exact h
        · exfalso
          have e0 := hzz 0 (by omega); have e2 := hzz 2 (by omega); have e4 := hzz 4 (by omega)
          exact six s.size e0 e2 e4
      have HZ2 : Hid (∀ u, u < z + 1 → (8 * s.size + u) % 6 ≠ 0) := hide (fun u hu => by
        by_cases e : u = z
        · subst e; exact h6
        · exact hzz u (by omega))
      have b3 : 8 * s.size + z + 1 ≤ maxLen := by unfold maxLen; omega
      have b4 : (8 * s.size + z + 1) * 8 ≤ 140737488355328 := by omega
      have h6t : (Int.tmod (8 * (s.size : Int) + (z : Int)) 6 != 0) = true := by rw [bne_iff_ne, Int.tmod_eq_emod_of_nonneg (by omega)]; omega
      have h6e : ¬ (8 * (s.size : Int) + (z : Int)) % 6 = 0 := by omega
      have HMS : Hid ((6 - (8 * s.size + z + 1) % 6) % 6 < (6 - (8 * s.size + z) % 6) % 6) := hide (by omega)
      clear h6 hzz hlen
      have hcase := hown.2
      clear hown
      rcases hcase with ⟨rfl, h0⟩ | ⟨g, cap, cur, rfl, hgc⟩
      · exfalso; omega
      · go_wp2_with (at_builtin; refine wpList_append_own _ rfl _ _ 22 rfl w.heap.size 3 i0 (.int .i64 0) 1 8 Tryz.underlying22 hi hz0 hz1 hz2 rfl (by decide) _ (8 * s.size + z) (cellsI (bl ++ List.replicate z 0)) rfl ((unhide OWN).alloc _) _ 1 1 _ rfl rfl (cell_one_new _ _ _) (by simp [Value.oneCell']) b3 b4 (by simp; omega) ?_; intro v1 w1 own1 grow1 _)
        have hl1 := own_len own1
        refine ⟨⟨z + 1, hz5, unhide HZ2, ?_, ((unhide HB).alloc hB _).grown grow1 (by simp; omega) (own_lt (unhide OWN))⟩, ?_⟩
        · rw [repl_succ, cellsI_append]; exact own1
        · rw [hl1]; exact unhide HMS
end Go.Proofs.YtkhbfdokkmebhaaGreatDoor
