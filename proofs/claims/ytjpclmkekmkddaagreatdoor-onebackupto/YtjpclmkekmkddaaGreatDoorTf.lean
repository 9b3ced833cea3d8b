/- Walks: chunks written, the program's: writeChunk, Chunked. -/
import Derived.Test.YtjpclmkekmkddaaGreatDoorTd
import Derived.Test.YtjpclmkekmkddaaGreatDoorTbd
import Derived.Test.YtjpclmkekmkddaaGreatDoorFi
namespace Go.Proofs.YtjpclmkekmkddaaGreatDoor
open Go.RowKit Kb
set_option linter.unusedVariables false
set_option maxRecDepth 20000

theorem crlf_len : (⟨#[13, 10]⟩ : ByteArray).size = 2 := rfl
theorem nil_list {s : ByteArray} (h : s.data.toList = []) : s = ByteArray.empty := eq_of_lists (by rw [h]; rfl)
theorem take_data' (s : ByteArray) (k : Nat) : (s.extract 0 k).data.toList = s.data.toList.take k := by
  rw [Lib.extract_data]; simp
theorem cell_above_of {w w' : World} {g j B : Nat} {v : Value} (h : w.cell? ⟨g, j, none⟩ = some v) (hg : g < B) (b : Below B w w') : w'.cell? ⟨g, j, none⟩ = some v := by
  rw [b.cell (p := ⟨g, j, none⟩) hg]; exact h
/-- the library's table for powers of two -/
def DB (w : World) : Prop := w.cell? ⟨3, 15, none⟩ = some (.int .u8 4)
theorem DB.below {w w' : World} (h : DB w) (b : Below w.heap.size w w') : DB w' := cell_below h (World.block_lt_of_cell? _ _ h) b
theorem DB.above {w w' : World} {B : Nat} (h : DB w) (hB : 3 < B) (b : Below B w w') : DB w' := by
  unfold DB at *
  rw [b.cell (p := ⟨3, 15, none⟩) hB]; exact h
theorem hex_at (x : Nat) (q : ByteArray) (hq : q.data.toList = Cu.hx x) (w : World) (h1 : x < 268435456) (h : DB w) :
    Calls Tryz.prog 67 #[.int .i64 x, .int .i64 16] w fun e w' => e = .returned (.string q) ∧ Below w.heap.size w w' := by
  refine (Hx.format_16 x w (by omega) (by omega) h).mono ?_
  rintro e w' ⟨l, rfl, hl, hb⟩
  rw [Int.toNat_natCast] at hl
  rw [hl, ← hq, back_list q _ rfl]
  exact ⟨rfl, hb⟩
set_option maxHeartbeats 1000000 in
theorem writeChunk_any (B b : Nat) (l : List UInt8) (p : ByteArray) (w : World) (h : Bd B b l w) (hT : DB w) (hB : 3 < B) (hp : p.size ≤ 1048576) (hl : l.length ≤ 1099511627776) :
    Calls Tryz.prog 52 #[.pointer (some ⟨b, 0, none⟩), .string p] w fun e w' => e = .returned (.tuple #[]) ∧ Bd B b (l ++ Cu.writ p.data.toList) w' ∧ Below B w w' := by
  by_cases h0 : p.data.toList = []
  · obtain rfl := nil_list h0
    have e : l ++ Cu.writ (ByteArray.empty).data.toList = l := by show l ++ [] = l; simp
    rw [e]
    have BD := hide h
    clear h hT e
    go_enter Tryz.func52, Tryz.ntmps52
    go_wp2_with fail
    first | go_end0 | ((try simp only [Exit.inBlock, Exit.then]); refine bodyPost_ret (results_none rfl _ _ _) rfl ?_)
    exact ⟨rfl, unhide BD, Below.refl _ _⟩
  · obtain ⟨q, hq⟩ := ex_list (Cu.hx p.size)
    have hsz := Cu.hx_seven (show p.size < 268435456 by omega)
    have hqs : q.size ≤ 7 := by rw [← len_data, hq]; exact hsz
    have HF := hide (fun W (hd : DB W) => hex_at p.size q hq W (by omega) hd)
    have hps : p.data.toList.length = p.size := len_data p
    have HW : Hid (Cu.writ p.data.toList = q.data.toList ++ [13, 10] ++ p.data.toList ++ [13, 10]) := hide (by rw [Cu.writ_yes h0, hq, hps]; rfl)
    have e2 := str_fl (show p ≠ ⟨[].toArray⟩ from fun e => h0 (by rw [e]))
    clear hsz hq hps h0
    have BD := hide h
    have HT := hide hT
    have hlt := h.lt
    clear h hT
    go_enter Tryz.func52, Tryz.ntmps52
    go_wp2_with fail
    refine ((unhide HF) w (unhide HT)).mono ?_; rintro e w1 ⟨rfl, b1⟩
    have D1 := (unhide BD).below b1
    have H1 := hide (wstr_any B b l q w1 D1 (by omega))
    have c1 : Below B w w1 := b1.mono (by omega)
    clear b1 D1
    go_wp2_with fail
    refine (unhide H1).mono ?_; rintro e w2 ⟨rfl, d2, b2⟩
    have H2 := hide (wstr_any B b _ ⟨#[13, 10]⟩ w2 d2 (by rw [List.length_append, len_data]; have : (⟨#[13, 10]⟩ : ByteArray).size = 2 := rfl; omega))
    have c2 := c1.trans b2
    clear d2 b2 c1 H1
    go_wp2_with fail
    refine (unhide H2).mono ?_; rintro e w3 ⟨rfl, d3, b3⟩
    have H3 := hide (wstr_any B b _ p w3 d3 (by simp only [List.length_append, len_data, List.length_cons, List.length_nil]; omega))
    have c3 := c2.trans b3
    clear d3 b3 c2 H2
    go_wp2_with fail
    refine (unhide H3).mono ?_; rintro e w4 ⟨rfl, d4, b4⟩
    have H4 := hide (wstr_any B b _ ⟨#[13, 10]⟩ w4 d4 (by rw [crlf_len]; simp only [List.length_append, len_data, List.length_cons, List.length_nil]; omega))
    have c4 := c3.trans b4
    clear d4 b4 c3 H3
    go_wp2_with fail
    refine (unhide H4).mono ?_; rintro e w5 ⟨rfl, d5, b5⟩
    go_wp2_with fail
    first | go_end0 | ((try simp only [Exit.inBlock, Exit.then]); refine bodyPost_ret (results_none rfl _ _ _) rfl ?_)
    refine ⟨rfl, ?_, c4.trans b5⟩
    rw [unhide HW]
    simpa [List.append_assoc] using d5
set_option maxHeartbeats 4000000 in
theorem chunked_any (s : ByteArray) (v : Value) (zs : List Int) (w : World) (hv : Ints w v zs) (hT : DB w) (hs : s.size ≤ 1048576) (o : List UInt8) (ho : Cu.chunked zs s.data.toList = o) :
    Calls Tryz.prog 29 #[.string s, v] w fun e w' => e = .returned (.string (mk o)) ∧ Below w.heap.size w w' := by
  obtain ⟨vo, c, rfl, hc⟩ := hv.form
  have HU := hide hv
  have hroom := hv.room
  have HT := hide hT
  have hB : 3 < w.heap.size := World.block_lt_of_cell? _ _ hT
  have hol := Cu.chunked_len zs s.data.toList (by rw [len_data]; omega)
  rw [ho, len_data] at hol
  have HO := hide ho
  clear hv hT ho
  go_enter Tryz.func29, Tryz.ntmps29
  go_wp2_with fail
  go_loopw [0, 10] (fun v i wr => ∃ (k : Nat) (t out : List UInt8), v = .string (mk t) ∧ i = .int .i64 k ∧ k ≤ zs.length ∧ t.length ≤ s.size ∧ out ++ Cu.chunked (zs.drop k) t = o ∧ Bd w.heap.size w.heap.size out wr ∧ Below w.heap.size w wr) (fun _ i _ => zs.length - (intOf i).toNat)
  case atStart => exact ⟨0, s.data.toList, [], by rw [mk_data], rfl, Nat.zero_le _, by rw [len_data]; exact Nat.le_refl _, by rw [List.drop_zero]; exact unhide HO, Bd.new w, (Below.refl _ _).alloc (Nat.le_refl _) _⟩
  case round =>
    clear HO
    obtain ⟨k, t', out, rfl, rfl, hk, htl, hch, hbd, hbel⟩ := hrel
    have BD := hide hbd
    have HB := hide hbel
    have hlt := hbd.lt.1
    clear hbd hbel
    obtain ⟨t, ht⟩ := ex_list t'
    have htb : t.size ≤ 1048576 := by rw [← len_data, ht]; omega
    have htl2 : t.size ≤ s.size := by rw [← len_data, ht]; omega
    rw [← ht] at hch ⊢
    rw [mk_data]
    clear ht htl
    have DW := hide ((unhide HT).above hB (unhide HB))
    by_cases hkl : k < zs.length
    · obtain ⟨z, hz⟩ : ∃ z, zs[k]? = some z := ⟨zs[k], List.getElem?_eq_getElem hkl⟩
      obtain ⟨g, off, c', hv, hg, hcell⟩ := ((unhide HU).at_ (by intro e; rw [e] at hkl; cases hkl))
      cases hv
      have hload := cell_above_of (hcell k z hz) hg (unhide HB)
      have hzf := (unhide HU).fits z (List.mem_of_getElem? hz)
      obtain ⟨n, hn⟩ : ∃ n, Cu.part z t.data.toList = n := ⟨_, rfl⟩
      have hpl := Cu.part_le z t.data.toList
      rw [hn, len_data] at hpl
      have hpt : min (max z 0) (t.size : Int) = (n : Int) := by
        rw [← hn, Cu.part, len_data]; omega
      have e : zs.drop k = z :: zs.drop (k + 1) := by
        rw [List.drop_eq_getElem_cons hkl]
        congr 1
        rw [List.getElem?_eq_getElem hkl] at hz
        exact Option.some.inj hz
      rw [e, Cu.chunked, hn] at hch
      have hol2 : out.length ≤ 12 * s.size + 5 := by
        have := congrArg List.length hch; rw [List.length_append] at this; omega
      have HW := hide (writeChunk_any w.heap.size w.heap.size out (t.extract 0 n) wr (unhide BD) (unhide DW) hB (by simp; omega) (by omega))
      rw [take_data'] at HW
      have HC := hide hch
      clear e hn hz hcell hch
      go_wp2_with fail
      refine (unhide HW).mono ?_; rintro e1 w2 ⟨rfl, d2, b2⟩
      go_wp2_with fail
      refine ⟨⟨k + 1, t.data.toList.drop n, out ++ Cu.writ (t.data.toList.take n), ?_, by go_num, by omega, ?_, ?_, d2, (unhide HB).trans b2⟩, by simp [intOf]; omega⟩
      · rw [← extract_drop, mk_data]
      · rw [List.length_drop, len_data]; omega
      · rw [List.append_assoc]; exact unhide HC
    · obtain rfl : k = zs.length := by omega
      rw [List.drop_length, Cu.chunked] at hch
      have hol2 : out.length ≤ 12 * s.size + 5 := by
        have := congrArg List.length hch; rw [List.length_append] at this; omega
      have hol3 : (out ++ Cu.writ t.data.toList).length ≤ 12 * s.size + 5 := by
        have := congrArg List.length hch; rw [← List.append_assoc, List.length_append] at this; omega
      have HW := hide (writeChunk_any w.heap.size w.heap.size out t wr (unhide BD) (unhide DW) hB htb (by omega))
      have HC := hide hch
      clear hch
      go_wp2_with fail
      refine (unhide HW).mono ?_; rintro e1 w2 ⟨rfl, d2, b2⟩
      have H2 := hide (wstr_any w.heap.size w.heap.size _ ⟨#[48, 13, 10, 13, 10]⟩ w2 d2 (by have : (⟨#[48, 13, 10, 13, 10]⟩ : ByteArray).size = 5 := rfl; omega))
      go_wp2_with fail
      refine (unhide H2).mono ?_; rintro e1 w3 ⟨rfl, d3, b3⟩
      have H3 := hide (bstr_any w.heap.size w.heap.size _ w3 d3)
      go_wp2_with fail
      refine (unhide H3).mono ?_; rintro e1 w4 ⟨rfl, b4⟩
      go_wp2_with fail
      go_ret
      refine ⟨ret_str ?_, (((unhide HB).trans b2).trans b3).trans b4⟩
      rw [← unhide HC]; simp [Cu.last, mk]
end Go.Proofs.YtjpclmkekmkddaaGreatDoor
