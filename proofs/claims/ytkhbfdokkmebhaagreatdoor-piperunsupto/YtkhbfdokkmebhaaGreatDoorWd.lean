/- Walks of UrlDecode and HexDecode. -/
import Derived.Test.YtkhbfdokkmebhaaGreatDoorWc
namespace Go.Proofs.YtkhbfdokkmebhaaGreatDoor
open Go.RowKit Kb
set_option linter.unusedVariables false
set_option maxRecDepth 20000

theorem us_plus (r : List UInt8) : Cd.us (43 :: r) = (32, 1) := by simp [Cd.us]
theorem us_self {a : UInt8} (r : List UInt8) (h1 : ¬ a.toNat = 43) (h2 : ¬ a.toNat = 37) : Cd.us (a :: r) = (a, 1) := by
  have e1 : a ≠ 43 := fun e => h1 (by rw [e]; rfl)
  have e2 : a ≠ 37 := fun e => h2 (by rw [e]; rfl)
  simp [Cd.us, e1, e2]
theorem us_pct (r : List UInt8) : Cd.us (37 :: r) = match hb r with | some c => (c, 3) | none => (37, 1) := by
  match r with
  | [] => rfl
  | [_] => rfl
  | x :: y :: r' =>
    simp only [Cd.us, hb]
    cases Cd.dv x <;> cases Cd.dv y <;> rfl
theorem hb_len {l : List UInt8} {c : UInt8} (h : hb l = some c) : 2 ≤ l.length := by
  match l, h with
  | [], h => simp [hb] at h
  | [_], h => simp [hb] at h
  | _ :: _ :: _, _ => simp
/-- a step of the reading -/
theorem scan_next {st : List UInt8 → UInt8 × Nat} {l out : List UInt8} {k j : Nat} {c : UInt8} (h : Cd.scan st l = out ++ Cd.scan st (l.drop k)) (hne : l.drop k ≠ []) (hs : st (l.drop k) = (c, j)) (hj : 1 ≤ j) : Cd.scan st l = (out ++ [c]) ++ Cd.scan st (l.drop (k + j)) := by
  rw [h, Cd.scan_step hne hs hj, List.drop_drop]; simp
theorem scan_last {st : List UInt8 → UInt8 × Nat} {l out : List UInt8} {k : Nat} (h : Cd.scan st l = out ++ Cd.scan st (l.drop k)) (he : l.drop k = []) : Cd.scan st l = out := by
  rw [h, he, Cd.scan_nil]; simp
theorem beqT {a b : Nat} (h : a = b) : ((a : Int) == (b : Int)) = true := by rw [h]; simp
theorem beqF {a b : Nat} (h : ¬ a = b) : ((a : Int) == (b : Int)) = false := by rw [beq_eq_false_iff_ne]; omega

set_option maxHeartbeats 4000000 in
theorem urlDecode_any (s : ByteArray) (w : World) (hs : s.size ≤ 68719476736) :
    Calls Tryz.prog 23 #[.string s] w fun e w' => e = .returned (.string ⟨(Cd.urlDec s.data.toList).toArray⟩) ∧ Below w.heap.size w w' := by
  obtain ⟨i0, hi, hz0, hz1, hz2⟩ := info_parts Kb.infoU8
  go_enter Tryz.func23, Tryz.ntmps23
  go_wp2
  go_loopw [3, 4] (fun v i wr => ∃ (k : Nat) (out : List UInt8), k ≤ s.size ∧ out.length ≤ k ∧ i = .int .i64 k ∧ wr.ownsRow w.heap.size 5 1 v out.length (cells out) ∧ Below w.heap.size w wr ∧ Cd.scan Cd.us s.data.toList = out ++ Cd.scan Cd.us (s.data.toList.drop k)) (fun _ i _ => s.size - (intOf i).toNat)
  case atStart => exact ⟨0, [], Nat.zero_le _, Nat.zero_le _, rfl, World.ownsRow_nil _ _ _ _, Below.refl _ _, by simp⟩
  case round =>
    obtain ⟨k, out, hk, hok, rfl, hown, hbel, hu⟩ := hrel
    have hB := hbel.size
    have HB := hide hbel
    have HU := hide hu
    have OWN := hide hown
    clear hbel hu hown
    by_cases hlt : k < s.size
    · have b3 : out.length + 1 ≤ maxLen := by unfold maxLen; omega
      have b4 : (out.length + 1) * 1 ≤ 140737488355328 := by omega
      have hd := Kb.drop_cons s k hlt
      have hne : s.data.toList.drop k ≠ [] := by rw [hd]; simp
      have hc := s[k].toNat_lt
      by_cases h43 : s[k].toNat = 43
      · have h43' := beqT h43
        have HR : Hid (Cd.scan Cd.us s.data.toList = (out ++ [32]) ++ Cd.scan Cd.us (s.data.toList.drop (k + 1))) := hide (scan_next (unhide HU) hne (by rw [hd, Kb.u8_of (d := 43) h43]; exact us_plus _) (by omega))
        clear hd hne h43
        go_wp2_with (at_builtin; refine wpList_append_own _ rfl _ _ 36 rfl w.heap.size 5 i0 (.int .u8 0) 1 1 Tryz.underlying36 hi hz0 hz1 hz2 rfl (by decide) _ out.length (cells out) rfl ((unhide OWN).alloc _) _ 1 1 _ rfl rfl (cell_one_new _ _ _) (by simp [Value.oneCell']) b3 b4 (by simp; omega) ?_; intro v1 w1 own1 grow1 _)
        refine ⟨⟨k + 1, out ++ [32], by omega, by simp; omega, by go_num, ?_, ((unhide HB).alloc hB _).grown grow1 (by simp; omega) (own_lt (unhide OWN)), unhide HR⟩, by simp [intOf]; omega⟩
        rw [List.length_append, cells_append]; exact own1
      by_cases h37 : s[k].toNat = 37
      · have h37' := beqT h37
        have h43' := beqF h43
        have hup := us_pct (s.data.toList.drop (k + 1))
        have HX := hide (hexByte_any (s.extract (k + 1) s.size) wr (by unfold maxLen; simp; omega))
        rw [Kb.extract_drop] at HX
        have e37 : s[k] = 37 := Kb.u8_of (d := 37) h37
        rcases hh : hb (s.data.toList.drop (k + 1)) with _ | c
        · have HR : Hid (Cd.scan Cd.us s.data.toList = (out ++ [s[k]]) ++ Cd.scan Cd.us (s.data.toList.drop (k + 1))) := hide (scan_next (unhide HU) hne (by rw [hd, e37, hup, hh]) (by omega))
          rw [show hbV (s.data.toList.drop (k + 1)) = 0 from by unfold hbV; rw [hh], show hbB (s.data.toList.drop (k + 1)) = false from by unfold hbB; rw [hh]; rfl] at HX
          clear hd hne h43 h37 hh hup e37
          go_wp2_with (first | (go_at_call 46; refine (unhide HX).mono ?_; rintro e wx ⟨rfl, rfl⟩) | (at_builtin; refine wpList_append_own _ rfl _ _ 36 rfl w.heap.size 5 i0 (.int .u8 0) 1 1 Tryz.underlying36 hi hz0 hz1 hz2 rfl (by decide) _ out.length (cells out) rfl ((unhide OWN).alloc _) _ 1 1 _ rfl rfl (cell_one_new _ _ _) (by simp [Value.oneCell']) b3 b4 (by simp; omega) ?_; intro v1 w1 own1 grow1 _))
          refine ⟨⟨k + 1, out ++ [s[k]], by omega, by simp; omega, by go_num, ?_, ((unhide HB).alloc hB _).grown grow1 (by simp; omega) (own_lt (unhide OWN)), unhide HR⟩, by simp [intOf]; omega⟩
          rw [List.length_append, cells_append]; exact own1
        · have HR : Hid (Cd.scan Cd.us s.data.toList = (out ++ [c]) ++ Cd.scan Cd.us (s.data.toList.drop (k + 3))) := hide (scan_next (unhide HU) hne (by rw [hd, e37, hup, hh]) (by omega))
          have h3 : k + 3 ≤ s.size := by have := hb_len hh; simp at this; omega
          rw [show hbV (s.data.toList.drop (k + 1)) = c.toNat from by unfold hbV; rw [hh], show hbB (s.data.toList.drop (k + 1)) = true from by unfold hbB; rw [hh]; rfl] at HX
          clear hd hne h43 h37 hh hup e37
          go_wp2_with (first | (go_at_call 46; refine (unhide HX).mono ?_; rintro e wx ⟨rfl, rfl⟩) | (at_builtin; refine wpList_append_own _ rfl _ _ 36 rfl w.heap.size 5 i0 (.int .u8 0) 1 1 Tryz.underlying36 hi hz0 hz1 hz2 rfl (by decide) _ out.length (cells out) rfl ((unhide OWN).alloc _) _ 1 1 _ rfl rfl (cell_one_new _ _ _) (by simp [Value.oneCell']) b3 b4 (by simp; omega) ?_; intro v1 w1 own1 grow1 _))
          refine ⟨⟨k + 3, out ++ [c], by omega, by simp; omega, by go_num, ?_, ((unhide HB).alloc hB _).grown grow1 (by simp; omega) (own_lt (unhide OWN)), unhide HR⟩, by simp [intOf]; omega⟩
          rw [List.length_append, cells_append]; exact own1
      · have h37' := beqF h37
        have h43' := beqF h43
        have HR : Hid (Cd.scan Cd.us s.data.toList = (out ++ [s[k]]) ++ Cd.scan Cd.us (s.data.toList.drop (k + 1))) := hide (scan_next (unhide HU) hne (by rw [hd]; exact us_self _ h43 h37) (by omega))
        clear hd hne h43 h37
        go_wp2_with (at_builtin; refine wpList_append_own _ rfl _ _ 36 rfl w.heap.size 5 i0 (.int .u8 0) 1 1 Tryz.underlying36 hi hz0 hz1 hz2 rfl (by decide) _ out.length (cells out) rfl ((unhide OWN).alloc _) _ 1 1 _ rfl rfl (cell_one_new _ _ _) (by simp [Value.oneCell']) b3 b4 (by simp; omega) ?_; intro v1 w1 own1 grow1 _)
        refine ⟨⟨k + 1, out ++ [s[k]], by omega, by simp; omega, by go_num, ?_, ((unhide HB).alloc hB _).grown grow1 (by simp; omega) (own_lt (unhide OWN)), unhide HR⟩, by simp [intOf]; omega⟩
        rw [List.length_append, cells_append]; exact own1
    · have hcv := own_string (unhide OWN)
      have HR := hide (scan_last (unhide HU) (Kb.drop_end s k (by omega)))
      go_wp2
      go_ret
      exact ⟨Kb.ret_str (by unfold Cd.urlDec; rw [unhide HR]), unhide HB⟩

def hdV (l : List UInt8) : List UInt8 := (Cd.hexDec l).getD []
def hdE (l : List UInt8) : Int := if (Cd.hexDec l).isSome then 0 else 4
theorem hexDec_no {l : List UInt8} (hne : l ≠ []) (h : hb l = none) : Cd.hexDec l = none := by
  match l, hne, h with
  | [_], _, _ => rfl
  | x :: y :: r, _, h =>
    rw [Cd.hexDec]; unfold hb at h
    cases hx : Cd.dv x <;> cases hy : Cd.dv y <;> simp [hx, hy] at h ⊢
theorem hexDec_yes {l : List UInt8} {c : UInt8} (h : hb l = some c) : Cd.hexDec l = (Cd.hexDec (l.drop 2)).map (c :: ·) := by
  match l, h with
  | x :: y :: r, h =>
    rw [Cd.hexDec]; unfold hb at h
    cases hx : Cd.dv x <;> cases hy : Cd.dv y <;> simp [hx, hy] at h ⊢
    subst h; rfl
theorem hd_no {l out : List UInt8} {k : Nat} (h : Cd.hexDec l = (Cd.hexDec (l.drop k)).map (out ++ ·)) (hn : Cd.hexDec (l.drop k) = none) : hdV l = [] ∧ hdE l = 4 := by
  have : Cd.hexDec l = none := by rw [h, hn]; rfl
  simp [hdV, hdE, this]
theorem hd_end {l out : List UInt8} {k : Nat} (h : Cd.hexDec l = (Cd.hexDec (l.drop k)).map (out ++ ·)) (hn : l.drop k = []) : hdV l = out ∧ hdE l = 0 := by
  have : Cd.hexDec l = some out := by rw [h, hn]; simp [Cd.hexDec]
  simp [hdV, hdE, this]
theorem hd_step {l out : List UInt8} {k : Nat} {c : UInt8} (h : Cd.hexDec l = (Cd.hexDec (l.drop k)).map (out ++ ·)) (hh : hb (l.drop k) = some c) : Cd.hexDec l = (Cd.hexDec (l.drop (k + 2))).map ((out ++ [c]) ++ ·) := by
  rw [h, hexDec_yes hh, List.drop_drop, Option.map_map]
  congr 1; funext x; simp

set_option maxHeartbeats 4000000 in
theorem hexDecode_any (s : ByteArray) (w : World) (hs : s.size ≤ 68719476736) :
    Calls Tryz.prog 25 #[.string s] w fun e w' => e = .returned (.tuple #[.string ⟨(hdV s.data.toList).toArray⟩, .int .i64 (hdE s.data.toList)]) ∧ Below w.heap.size w w' := by
  obtain ⟨i0, hi, hz0, hz1, hz2⟩ := info_parts Kb.infoU8
  go_enter Tryz.func25, Tryz.ntmps25
  go_wp2
  go_loopw [4, 5] (fun v i wr => ∃ (k : Nat) (out : List UInt8), k ≤ s.size ∧ out.length ≤ k ∧ i = .int .i64 k ∧ wr.ownsRow w.heap.size 5 1 v out.length (cells out) ∧ Below w.heap.size w wr ∧ Cd.hexDec s.data.toList = (Cd.hexDec (s.data.toList.drop k)).map (out ++ ·)) (fun _ i _ => s.size - (intOf i).toNat)
  case atStart => exact ⟨0, [], Nat.zero_le _, Nat.zero_le _, rfl, World.ownsRow_nil _ _ _ _, Below.refl _ _, by simp⟩
  case round =>
    obtain ⟨k, out, hk, hok, rfl, hown, hbel, hu⟩ := hrel
    have hB := hbel.size
    have HB := hide hbel
    have HU := hide hu
    have OWN := hide hown
    clear hbel hu hown
    by_cases hlt : k < s.size
    · have b3 : out.length + 1 ≤ maxLen := by unfold maxLen; omega
      have b4 : (out.length + 1) * 1 ≤ 140737488355328 := by omega
      have hne : s.data.toList.drop k ≠ [] := by rw [Kb.drop_cons s k hlt]; simp
      have HX := hide (hexByte_any (s.extract k s.size) wr (by unfold maxLen; simp; omega))
      rw [Kb.extract_drop] at HX
      rcases hh : hb (s.data.toList.drop k) with _ | c
      · have HR := hide (hd_no (unhide HU) (hexDec_no hne hh))
        rw [show hbV (s.data.toList.drop k) = 0 from by unfold hbV; rw [hh], show hbB (s.data.toList.drop k) = false from by unfold hbB; rw [hh]; rfl] at HX
        clear hne hh
        go_wp2_with (go_at_call 46; refine (unhide HX).mono ?_; rintro e wx ⟨rfl, rfl⟩)
        go_ret2
        exact ⟨Kb.ret_str_int (by rw [(unhide HR).1]) (by rw [(unhide HR).2]), unhide HB⟩
      · have HR := hide (hd_step (unhide HU) hh)
        have h3 : k + 2 ≤ s.size := by have := hb_len hh; simp at this; omega
        rw [show hbV (s.data.toList.drop k) = c.toNat from by unfold hbV; rw [hh], show hbB (s.data.toList.drop k) = true from by unfold hbB; rw [hh]; rfl] at HX
        clear hne hh
        go_wp2_with (first | (go_at_call 46; refine (unhide HX).mono ?_; rintro e wx ⟨rfl, rfl⟩) | (at_builtin; refine wpList_append_own _ rfl _ _ 36 rfl w.heap.size 5 i0 (.int .u8 0) 1 1 Tryz.underlying36 hi hz0 hz1 hz2 rfl (by decide) _ out.length (cells out) rfl ((unhide OWN).alloc _) _ 1 1 _ rfl rfl (cell_one_new _ _ _) (by simp [Value.oneCell']) b3 b4 (by simp; omega) ?_; intro v1 w1 own1 grow1 _))
        refine ⟨⟨k + 2, out ++ [c], by omega, by simp; omega, by go_num, ?_, ((unhide HB).alloc hB _).grown grow1 (by simp; omega) (own_lt (unhide OWN)), unhide HR⟩, by simp [intOf]; omega⟩
        rw [List.length_append, cells_append]; exact own1
    · have HR := hide (hd_end (unhide HU) (Kb.drop_end s k (by omega)))
      have hcv := own_string (unhide OWN)
      go_wp2
      go_ret2
      exact ⟨Kb.ret_str_int (by rw [(unhide HR).1]) (by rw [(unhide HR).2]), unhide HB⟩
end Go.Proofs.YtkhbfdokkmebhaaGreatDoor
