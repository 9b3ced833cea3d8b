/- The program's Check, Hits and Some of a tree: the calls. -/
import Derived.Test.YtmmjcbfffcnfiaaFc
namespace Go.Proofs.Ytmmjcbfffcnfiaa
open Go.RowKit Kb Go.Maps Ph
set_option linter.unusedVariables false
set_option maxRecDepth 20000

def rdy (T : List Nd) (words : Int) (n : Nat) : Int := if chk T words = 0 ∧ 8192 < n then 2 else chk T words
theorem rdy_ok {T : List Nd} {words : Int} {n : Nat} (h : rdy T words n = 0) : chk T words = 0 ∧ n ≤ 8192 := by
  unfold rdy at h
  by_cases g : chk T words = 0 ∧ 8192 < n
  · rw [if_pos g] at h; cases h
  · rw [if_neg g] at h; exact ⟨h, by rw [h] at g; omega⟩

set_option maxHeartbeats 2000000 in
theorem check_t (w : World) (v : Value) (T : List Nd) (words : Int) (hT : Tree w v T) (hwd : I64 words) :
    Calls Try.prog 14 #[v, .int .i64 words] w fun e w' => e = .returned (.int .i64 (chk T words)) ∧ Below w.heap.size w w' := by
  have HC := hide (checked_any w v T words hT hwd)
  obtain ⟨o, cp, rfl, hcp⟩ := hT.form
  clear hT
  go_enter Try.func14, Try.ntmps14
  go_wp2_with fail
  refine (unhide HC).mono ?_
  rintro e w1 ⟨m, rfl, hb, _⟩
  have HB := hide hb
  clear hb
  go_wp2
  go_ret
  exact ⟨rfl, unhide HB⟩

set_option maxHeartbeats 2000000 in
theorem ready_any (w : World) (v : Value) (T : List Nd) (words : Int) (s : ByteArray) (hT : Tree w v T) (hwd : I64 words) (hs : s.size ≤ 2097152) :
    Calls Try.prog 31 #[v, .int .i64 words, .string s] w fun e w' =>
      ∃ m, e = .returned (.tuple #[m, .int .i64 (rdy T words s.size)]) ∧ Below w.heap.size w w' ∧ (rdy T words s.size = 0 → ∃ B, m = .map (some B) ∧ Kids w' B T.length (Kid T)) := by
  have HC := hide (checked_any w v T words hT hwd)
  obtain ⟨o, cp, rfl, hcp⟩ := hT.form
  clear hT
  obtain ⟨z, hz⟩ : ∃ z, chk T words = z := ⟨_, rfl⟩
  rw [hz] at HC
  have HZ := hide hz
  by_cases h0 : z = 0
  · subst h0
    by_cases h1 : 8192 < s.size
    · have HR : Hid (rdy T words s.size = 2) := hide (by unfold rdy; rw [if_pos ⟨unhide HZ, h1⟩])
      clear hz
      go_enter Try.func31, Try.ntmps31
      go_wp2_with fail
      refine (unhide HC).mono ?_
      rintro e w1 ⟨m, rfl, hb, hk⟩
      obtain ⟨B, rfl, hkk⟩ := hk trivial
      have HB := hide hb
      clear hb hk
      go_wp2
      go_ret2
      exact ⟨_, ret_me rfl (unhide HR).symm, unhide HB, fun h => by rw [unhide HR] at h; cases h⟩
    · have HR : Hid (rdy T words s.size = 0) := hide (by unfold rdy; rw [if_neg (fun h => h1 h.2)]; exact unhide HZ)
      clear hz
      go_enter Try.func31, Try.ntmps31
      go_wp2_with fail
      refine (unhide HC).mono ?_
      rintro e w1 ⟨m, rfl, hb, hk⟩
      obtain ⟨B, rfl, hkk⟩ := hk trivial
      have HB := hide hb
      have HK := hide hkk
      clear hb hk hkk
      go_wp2
      go_ret2
      exact ⟨_, ret_me rfl (unhide HR).symm, unhide HB, fun _ => ⟨B, rfl, unhide HK⟩⟩
  · have HR : Hid (rdy T words s.size = z) := hide (by unfold rdy; rw [if_neg (fun h => h0 (by rw [← hz]; exact h.1))]; exact hz)
    have HN := hide h0
    have hb0 : (z == 0) = false := by simp; exact h0
    clear hz h0
    go_enter Try.func31, Try.ntmps31
    go_wp2_with fail
    refine (unhide HC).mono ?_
    rintro e w1 ⟨m, rfl, hb, hk⟩
    have HB := hide hb
    clear hb hk
    go_wp2
    go_ret2
    exact ⟨_, ret_me rfl (unhide HR).symm, unhide HB, fun h => absurd (by rw [← unhide HR]; exact h) (unhide HN)⟩

def cellsH (l : List Ht) : List Value := l.flatMap fun h => [.int .i64 h.1, .int .i64 h.2]
theorem cellsH_append (a b : List Ht) : cellsH (a ++ b) = cellsH a ++ cellsH b := by simp [cellsH]
theorem infoH : (Try.prog.info? 38).map (fun i => (i.zero, i.size, i.bytes)) = some (some (.agg #[.int .i64 0, .int .i64 0]), 2, 16) := by kernel_rfl
/-- hits within byte k + 1 -/
def part (T : List Nd) (l : List UInt8) (k j : Nat) : List Ht := hits T l k ++ ((endsOf T (stt T l (k + 1))).take j).map fun e => (e, ((k + 1 : Nat) : Int))
theorem part_zero (T : List Nd) (l : List UInt8) (k : Nat) : part T l k 0 = hits T l k := by simp [part]
theorem part_all (T : List Nd) (l : List UInt8) (k : Nat) : part T l k (endsOf T (stt T l (k + 1))).length = hits T l (k + 1) := by simp [part, hits]
theorem part_succ {T : List Nd} {l : List UInt8} {k j : Nat} {z : Int} (h : (endsOf T (stt T l (k + 1)))[j]? = some z) : part T l k (j + 1) = part T l k j ++ [(z, ((k + 1 : Nat) : Int))] := by
  simp [part, List.take_add_one, h]
theorem part_len {T : List Nd} {l : List UInt8} (M : Nat) (h : ∀ i, i < T.length → (nd T i).ends.length ≤ M) (h0 : 0 < T.length) (k j : Nat) (hj : j ≤ (endsOf T (stt T l (k + 1))).length) : (part T l k j).length ≤ (k + 1) * M := by
  have h1 := hits_len T l M h h0 (k + 1)
  have h2 : (part T l k j).length ≤ (hits T l (k + 1)).length := by
    simp only [part, hits, List.length_append, List.length_map, List.length_take]; omega
  omega

set_option maxHeartbeats 8000000 in
theorem hits_t (w : World) (v : Value) (T : List Nd) (words : Int) (s : ByteArray) (hT : Tree w v T) (hwd : I64 words) (hs : s.size ≤ 2097152) (hM : ∀ i, i < T.length → (nd T i).ends.length ≤ 1048576) :
    Calls Try.prog 12 #[v, .int .i64 words, .string s] w fun e w' =>
      ∃ x, e = .returned (.tuple #[x, .int .i64 (rdy T words s.size)]) ∧ Below w.heap.size w w' ∧
        (rdy T words s.size = 0 → w'.ownsRow w.heap.size 38 2 x (hits T s.data.toList s.size).length (cellsH (hits T s.data.toList s.size))) ∧ (rdy T words s.size ≠ 0 → x = .slice none 0 0) := by
  have HC := hide (ready_any w v T words s hT hwd hs)
  obtain ⟨o, cp, rfl, hcp⟩ := hT.form
  have HT := hide hT
  have HM := hide hM
  clear hT hM
  obtain ⟨z, hz⟩ : ∃ z, rdy T words s.size = z := ⟨_, rfl⟩
  rw [hz] at HC
  have HZ := hide hz
  by_cases h0 : z = 0
  · subst h0
    obtain ⟨hchk, hlen⟩ := rdy_ok hz
    have RT := hide (right_of hchk).1
    have hpos := (unhide RT).ne
    have hfew := (unhide RT).few
    clear hz hchk
    obtain ⟨i0, hi, hz0, hz1, hz2⟩ := info_parts infoH
    go_enter Try.func12, Try.ntmps12
    go_wp2_with fail
    refine (unhide HC).mono ?_
    rintro e w1 ⟨m, rfl, hb, hk⟩
    obtain ⟨B, rfl, hkk⟩ := hk trivial
    have HB := hide hb
    have HK := hide hkk
    have HT1 := hide ((unhide HT).below hb)
    have hw1 : w.heap.size ≤ w1.heap.size := hb.size
    clear hb hk hkk
    have HEA := hide (fun (w' : World) (i : Nat) (hb : Below w1.heap.size w1 w') (hi : i < T.length) => endsAt_any w1 w' _ T i (unhide HT1) hb hi)
    have HNX := hide (fun (w' : World) (i : Nat) (c : Int) (hb : Below w1.heap.size w1 w') (hi : i < T.length) (hc : U8 c) =>
      next_any w' _ T B T.length i c (Kid T) (fl T) ((unhide HT1).below hb) ((unhide HK).below hb) hi hc (fun j hj hj0 => (unhide RT).fail_lt (by omega) hj0))
    obtain ⟨l, hl⟩ : ∃ l, s.data.toList = l := ⟨_, rfl⟩
    have HL := hide hl
    clear hl
    go_wp2
    go_loopw [27, 11, 10] (fun x y z wr => ∃ k : Nat, x = .int .i64 k ∧ k ≤ s.size ∧ y = .int .i64 (stt T l k) ∧ Below w1.heap.size w1 wr ∧ wr.ownsRow w1.heap.size 38 2 z (hits T l k).length (cellsH (hits T l k))) (fun x _ _ _ => s.size - (intOf x).toNat)
    case atStart => exact ⟨0, rfl, Nat.zero_le _, rfl, Below.refl _ _, World.ownsRow_nil _ _ _ _⟩
    case round =>
      obtain ⟨k, rfl, hk, rfl, hbel, hown⟩ := hrel
      have BEL := hide hbel
      have OWN := hide hown
      clear hbel hown
      by_cases hlt : k < s.size
      · have HX : Hid (nxg (Kid T) (fl T) (s[k].toNat : Int) (stt T l k) = stt T l (k + 1)) := hide (by
          rw [stt]; unfold nx; congr 1
          have := at_list s l (unhide HL) k hlt
          simp [List.getD, ← this])
        have hst := stt_lt T l hpos k
        have hst1 := stt_lt T l hpos (k + 1)
        have hu8 : U8 (s[k].toNat : Int) := by have := s[k].toNat_lt; unfold U8; omega
        have HU := hide hu8
        clear hu8
        go_wp2_with fail
        refine ((unhide HNX) _ _ _ (unhide BEL) hst (unhide HU)).mono ?_
        rintro e w2 ⟨rfl, hw2⟩
        rw [hw2, unhide HX]; clear hw2
        obtain ⟨q, hq⟩ : ∃ q, stt T l (k + 1) = q := ⟨_, rfl⟩
        have HQ := hide hq
        rw [hq] at hst1
        rw [hq]
        clear hq HX
        go_wp2_with fail
        refine ((unhide HEA) _ _ (unhide BEL) hst1).mono ?_
        rintro e w2 ⟨x, rfl, hints, hw2⟩
        rw [hw2]; clear hw2
        obtain ⟨ed, hed⟩ : ∃ ed, endsOf T q = ed := ⟨_, rfl⟩
        rw [hed] at hints
        have HED : Hid (endsOf T (stt T l (k + 1)) = ed) := hide (by rw [unhide HQ]; exact hed)
        clear hed
        obtain ⟨oe, ce, rfl, hce⟩ := hints.form
        have hroom := hints.room
        have HI := hide hints
        clear hints
        go_wp2
        go_loopw [41, 10] (fun x y wr' => ∃ j : Nat, x = .int .i64 j ∧ j ≤ ed.length ∧ Below w1.heap.size w1 wr' ∧ wr'.ownsRow w1.heap.size 38 2 y (part T l k j).length (cellsH (part T l k j)) ) (fun x _ _ => ed.length - (intOf x).toNat)
        case atStart => exact ⟨0, rfl, Nat.zero_le _, unhide BEL, by rw [part_zero]; exact unhide OWN⟩
        case round =>
          obtain ⟨j, rfl, hj, hbel, hown⟩ := hrel
          have BEL2 := hide hbel
          have OWN2 := hide hown
          have HI2 := hide ((unhide HI).below hbel)
          have hB2 : w1.heap.size ≤ _ := hbel.size
          clear hbel hown
          by_cases hjl : j < ed.length
          · obtain ⟨z, hz⟩ : ∃ z, ed[j]? = some z := ⟨ed[j], List.getElem?_eq_getElem hjl⟩
            obtain ⟨g, off, c', he, hg, hcell⟩ := (unhide HI2).at_ (by intro e; rw [e] at hjl; cases hjl)
            have hload := hcell j z hz
            have HS : Hid (part T l k (j + 1) = part T l k j ++ [(z, ((k + 1 : Nat) : Int))]) := hide (part_succ (by rw [unhide HED]; exact hz))
            have hpl := part_len (T := T) (l := l) 1048576 (unhide HM) hpos k j (by rw [unhide HED]; omega)
            cases he
            clear hcell hz
            obtain ⟨pl, hpl0⟩ : ∃ pl, (part T l k j).length = pl := ⟨_, rfl⟩
            have hkm : (k + 1) * 1048576 ≤ 8192 * 1048576 := Nat.mul_le_mul_right _ (by omega)
            rw [hpl0] at hpl OWN2
            have HPL := hide hpl0
            have b3 : pl + 1 ≤ maxLen := by unfold maxLen; omega
            have b4 : (pl + 1) * 16 ≤ 140737488355328 := by omega
            clear hpl0 hpl hkm
            go_wp2_with (at_builtin; refine wpList_append_own _ rfl _ _ 31 rfl w1.heap.size 38 i0 (.agg #[.int .i64 0, .int .i64 0]) 2 16 Try.underlying31 hi hz0 hz1 hz2 rfl (by decide) _ pl (cellsH (part T l k j)) rfl ((unhide OWN2).alloc _) _ 1 1 _ rfl rfl (cell_two_new _ _ _ _) (by simp [Value.oneCell']) b3 b4 (by simp; omega) ?_; intro v1 w3 own1 grow1 _)
            refine ⟨⟨j + 1, by go_num, by omega, ((unhide BEL2).alloc hB2 _).grown grow1 (by simp; omega) (own_lt (unhide OWN2)), ?_⟩, by simp [intOf]; omega⟩
            · rw [unhide HS, List.length_append, unhide HPL, cellsH_append]; exact own1
          · obtain rfl : j = ed.length := by omega
            have HP : Hid (part T l k ed.length = hits T l (k + 1)) := hide (by rw [← unhide HED]; exact part_all T l k)
            go_wp2
            exact ⟨⟨k + 1, by go_num, by omega, by rw [unhide HQ], unhide BEL2, by rw [← unhide HP]; exact unhide OWN2⟩, by simp [intOf]; omega⟩
      · obtain rfl : k = s.size := by omega
        go_wp2
        go_ret2
        exact ⟨_, ret_me rfl (unhide HZ).symm, bel_trans (unhide HB) (unhide BEL), fun _ => by rw [unhide HL]; exact own_base (unhide OWN) hw1, fun h => absurd (unhide HZ) h⟩
  · have HN := hide h0
    have hb0 : (z != 0) = true := by simp; exact h0
    clear hz h0
    go_enter Try.func12, Try.ntmps12
    go_wp2_with fail
    refine (unhide HC).mono ?_
    rintro e w1 ⟨m, rfl, hb, hk⟩
    have HB := hide hb
    clear hb hk
    go_wp2
    go_ret2
    exact ⟨_, ret_me rfl (unhide HZ).symm, unhide HB, fun h => absurd (by rw [← unhide HZ]; exact h) (unhide HN), fun _ => rfl⟩
end Go.Proofs.Ytmmjcbfffcnfiaa
