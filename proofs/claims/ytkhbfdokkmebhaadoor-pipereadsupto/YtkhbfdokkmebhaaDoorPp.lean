/- The program's Print. -/
import Derived.Test.YtkhbfdokkmebhaaDoorPk
import Derived.Test.YtkhbfdokkmebhaaDoorPs
namespace Go.Proofs.YtkhbfdokkmebhaaDoor
open Go.RowKit Kb
set_option linter.unusedVariables false

def prV (zs : List Int) : List UInt8 := if Pw.check zs = 0 then Pw.print zs else []
def Wd (zs : List Int) (k : Nat) : List (List UInt8) := (zs.take k).map Pw.word
theorem Wd_succ (zs : List Int) (k : Nat) (z : Int) (h : zs[k]? = some z) : Wd zs (k + 1) = Wd zs k ++ [Pw.word z] := by
  unfold Wd; rw [List.take_add_one, h]; simp
theorem Wd_len (zs : List Int) (k : Nat) (h : k ≤ zs.length) : (Wd zs k).length = k := by unfold Wd; simp; omega
theorem Wd_wt {zs : List Int} (h : Pw.check zs = 0) : Cp.wt (Wd zs zs.length) ≤ 64 := by
  obtain ⟨h1, h2⟩ := Pw.check_ok h
  unfold Wd; rw [List.take_length]
  have : ∀ l : List Int, l.all Pw.inn = true → Cp.wt (l.map Pw.word) ≤ l.length * 8 := by
    intro l
    induction l with
    | nil => intro _; decide
    | cons k l ih =>
      intro h
      rw [List.all_cons, Bool.and_eq_true] at h
      rw [List.map_cons, Cp.wt_cons, List.length_cons]
      have := (Pw.word_plain k h.1).2.1
      have := ih h.2
      omega
  have := this zs h2
  omega

theorem own_eq {w : World} {B e size n m : Nat} {v : Value} {xs : List Value} (h : n = m) (g : w.ownsRow B e size v n xs) : w.ownsRow B e size v m xs := h ▸ g

set_option maxHeartbeats 4000000 in
theorem print_any (v : Value) (zs : List Int) (w : World) (hv : Ints w v zs) (hw : TabS 1 Pw.words w) :
    Calls Tryd.prog 8 #[v] w fun e w' => e = .returned (.tuple #[.string (mk (prV zs)), .int .i64 (Pw.check zs)]) ∧ Below w.heap.size w w' := by
  have H1 := hide (check_any v zs w hv)
  by_cases hck : Pw.check zs = 0
  · have HR : Hid (prV zs = Pw.print zs) := hide (by unfold prV; rw [if_pos hck])
    have HC := hide hck
    obtain ⟨h8, hall⟩ := Pw.check_ok hck
    rw [hck] at H1
    obtain ⟨o, c, rfl, hc⟩ := hv.form
    by_cases h0 : zs = []
    · have hz : ((zs.length : Int) == 0) = true := by rw [h0]; rfl
      have HP : Hid (Pw.print zs = [45]) := hide (by rw [h0]; rfl)
      clear hck hv hw hall h0
      go_enter Tryd.func8, Tryd.ntmps8
      go_wp2_with fail
      refine (unhide H1).mono ?_; rintro e wx ⟨rfl, hwx⟩; rw [hwx]; clear hwx wx
      go_wp2
      go_ret2
      exact ⟨ret_str_int (by rw [unhide HR, unhide HP]; rfl) (unhide HC).symm, Below.refl _ _⟩
    · have hpos : 0 < zs.length := List.length_pos_iff.2 h0
      have hz : ((zs.length : Int) == 0) = false := by rw [beq_eq_false_iff_ne]; omega
      have HP : Hid (Pw.print zs = Lib.join (Wd zs zs.length) [44]) := hide (by unfold Pw.print Wd; rw [if_neg h0, List.take_length])
      have HWT := hide (Wd_wt hck)
      obtain ⟨g, off, c', he, hg, hcell⟩ := hv.at_ h0
      cases he
      have HA := hide hall
      have HCE := hide hcell
      have HW := hide hw
      clear hck hv hw hall h0 hcell
      obtain ⟨i0, hi, hz0, hz1, hz2⟩ := info_parts infoS
      go_enter Tryd.func8, Tryd.ntmps8
      go_wp2_with fail
      refine (unhide H1).mono ?_; rintro e wx ⟨rfl, hwx⟩; rw [hwx]; clear hwx wx
      go_wp2
      go_loopw [5, 18] (fun v i wr => ∃ k : Nat, k ≤ zs.length ∧ i = .int .i64 k ∧ wr.ownsRow w.heap.size 9 1 v k (cellsS (Wd zs k)) ∧ Below w.heap.size w wr) (fun _ i _ => zs.length - (intOf i).toNat)
      case atStart => exact ⟨0, Nat.zero_le _, rfl, World.ownsRow_nil _ _ _ _, Below.refl _ _⟩
      case round =>
        obtain ⟨k, hk, rfl, hown, hbel⟩ := hrel
        have hB := hbel.size
        have OWN := hide hown
        have HB := hide hbel
        clear hown hbel
        by_cases hlt : k < zs.length
        · obtain ⟨z, hzk⟩ : ∃ z, zs[k]? = some z := ⟨zs[k], List.getElem?_eq_getElem hlt⟩
          have hload := cell_below ((unhide HCE) k z hzk) hg (unhide HB)
          have HS := hide (Wd_succ zs k z hzk)
          have hin := List.all_eq_true.1 (unhide HA) z (List.mem_of_getElem? hzk)
          obtain ⟨n, hn, rfl⟩ := (Pw.inn_iff z).1 hin
          have hword := ((unhide HW).below (unhide HB)).cell n _ (Pw.word_of n hn)
          obtain ⟨x, hx⟩ : ∃ x, mk (Pw.word ((n : Int) + 1)) = x := ⟨_, rfl⟩
          rw [hx] at hword
          have HX := hide hx
          clear hx hin hzk
          have b3 : k + 1 ≤ maxLen := by unfold maxLen; omega
          have b4 : (k + 1) * 16 ≤ 140737488355328 := by omega
          go_wp2_with (at_builtin; refine wpList_append_own _ rfl _ _ 35 rfl w.heap.size 9 i0 (.string ByteArray.empty) 1 16 Tryd.underlying35 hi hz0 hz1 hz2 rfl (by decide) _ k (cellsS (Wd zs k)) rfl ((unhide OWN).alloc _) _ 1 1 _ rfl rfl (cell_one_new _ _ _) (by simp [Value.oneCell']) b3 b4 (by simp; omega) ?_; intro v1 w2 own1 grow1 _)
          refine ⟨⟨k + 1, by omega, by go_num, ?_, ((unhide HB).alloc hB _).grown grow1 (by simp; omega) (own_lt (unhide OWN))⟩, by simp [intOf]; omega⟩
          rw [unhide HS, cellsS_append]
          show World.ownsRow _ _ _ _ _ _ (cellsS (Wd zs k) ++ [Value.string (mk (Pw.word ((n : Int) + 1)))])
          rw [unhide HX]; exact own1
        · obtain rfl : k = zs.length := by omega
          have HJ := hide (join_row_c 44 (Wd zs zs.length) _ w.heap.size wr (own_eq (Wd_len zs _ (Nat.le_refl _)).symm (unhide OWN)) (by have := unhide HWT; omega))
          go_wp2_with fail
          refine (unhide HJ).mono ?_; rintro e w1 ⟨rfl, b1⟩
          have B := hide (bel_trans (unhide HB) b1)
          clear b1
          go_wp2
          go_ret2
          exact ⟨ret_str_int (by rw [unhide HR, unhide HP]) (unhide HC).symm, unhide B⟩
  · have HR : Hid (prV zs = []) := hide (by unfold prV; rw [if_neg hck])
    obtain ⟨n, hn⟩ : ∃ n, Pw.check zs = n := ⟨_, rfl⟩
    rw [hn] at H1 hck ⊢
    have hne : (n != 0) = true := by simpa using hck
    clear hn hck hv hw
    go_enter Tryd.func8, Tryd.ntmps8
    go_wp2_with fail
    refine (unhide H1).mono ?_; rintro e wx ⟨rfl, hwx⟩; rw [hwx]; clear hwx wx
    go_wp2
    go_ret2
    exact ⟨ret_str_int (by rw [unhide HR]; rfl) rfl, Below.refl _ _⟩
end Go.Proofs.YtkhbfdokkmebhaaDoor
