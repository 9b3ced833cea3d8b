/- Walks: chunks read, the program's: readChunk, Chunks. -/
import Derived.Test.YtmgealcolofomaaGreatDoorTc
import Derived.Test.YtmgealcolofomaaGreatDoorTbd
namespace Go.Proofs.YtmgealcolofomaaGreatDoor
open Go.RowKit Kb
set_option linter.unusedVariables false
set_option maxRecDepth 20000

namespace Cu
/-- a chunk, by the size's line -/
def byLine (room : Int) (z : Int × L8 × Int) : L8 × L8 × Int :=
  if z.2.2 ≠ 0 then ([], [], z.2.2) else if room < z.1 then ([], [], 6) else if (z.2.1.length : Int) < z.1 then ([], [], 7)
  else if nl (z.2.1.drop z.1.toNat) ≠ 0 then ([], [], nl (z.2.1.drop z.1.toNat)) else (z.2.1.take z.1.toNat, (z.2.1.drop z.1.toNat).drop 2, 0)
theorem told_line (room : Int) (l : L8) : told l (chunk room l) = byLine room (readSize l) := by
  unfold chunk readSize byLine
  by_cases h1 : digs l = 0 ∧ l ≠ []
  · rw [if_pos h1, if_pos h1]; rfl
  rw [if_neg h1, if_neg h1]
  by_cases h2 : nl (l.drop (digs l)) ≠ 0
  · rw [if_pos h2, if_pos h2, if_pos h2]; rfl
  rw [if_neg h2, if_neg h2]
  dsimp only
  rw [if_neg (show ¬ ((0 : Int) ≠ 0) by decide)]
  by_cases h3 : room < val l
  · rw [if_pos h3, if_pos h3]; rfl
  rw [if_neg h3, if_neg h3]
  by_cases h4 : ((l.drop (digs l + 2)).length : Int) < val l
  · rw [if_pos h4, if_pos h4]; rfl
  rw [if_neg h4, if_neg h4]
  by_cases h5 : nl ((l.drop (digs l + 2)).drop (val l).toNat) ≠ 0
  · rw [if_pos h5, if_pos h5]; rfl
  rw [if_neg h5, if_neg h5]
  show (_, l.drop (digs l + 2 + (val l).toNat + 2), (0 : Int)) = _
  rw [List.drop_drop, List.drop_drop, Nat.add_assoc]
theorem size_bd (l : L8) : 0 ≤ (readSize l).1 ∧ (readSize l).1 < 268435456 := by
  unfold readSize
  split
  · simp
  · split
    · simp
    · exact val_bd l
theorem chunk_err {room : Int} {l : L8} {e : Int} (h : chunk room l = .error e) : e = 4 ∨ e = 6 ∨ e = 7 := by
  unfold chunk at h
  split at h
  · cases h; exact .inl rfl
  split at h
  · rename_i h2
    cases h
    rcases nl_cases (l.drop (digs l)) with h | h | h
    · exact absurd h h2
    · exact .inl h
    · exact .inr (.inr h)
  split at h
  · cases h; exact .inr (.inl rfl)
  split at h
  · cases h; exact .inr (.inr rfl)
  split at h
  · rename_i h2
    cases h
    rcases nl_cases ((l.drop (digs l + 2)).drop (val l).toNat) with h | h | h
    · exact absurd h h2
    · exact .inl h
    · exact .inr (.inr h)
  · cases h
theorem chunk_used {room : Int} {l p : L8} {u : Nat} (h : chunk room l = .ok (p, u)) : 5 ≤ u ∧ u ≤ l.length ∧ (p.length : Int) ≤ room ∧ p.length + 5 ≤ u := by
  obtain ⟨d, t, hI, rfl, hu⟩ := chunk_form h
  have := hI.some_
  have h2 : crlf.length = 2 := rfl
  refine ⟨by omega, by simp [h2]; omega, hI.fits, by omega⟩
end Cu
theorem ret_sii {a b : ByteArray} {c d x y : Int} (h : a = b) (g : c = d) (k : x = y) : Ending.returned (.tuple #[.string a, .int .i64 c, .int .i64 x]) = .returned (.tuple #[.string b, .int .i64 d, .int .i64 y]) := by rw [h, g, k]
theorem drop_size (s : ByteArray) (k : Nat) (h : k ≤ s.size) : (s.extract k s.size).size = s.size - k := by simp
set_option maxHeartbeats 400000 in
theorem readChunk_any (s : ByteArray) (room : Int) (w : World) (hs : s.size ≤ 1099511627776) (hr : -9223372036854775808 ≤ room ∧ room ≤ 9223372036854775807) (o : List UInt8 × List UInt8 × Int) (ho : Cu.told s.data.toList (Cu.chunk room s.data.toList) = o) :
    Calls Tryz.prog 46 #[.string s, .int .i64 room] w fun e w' => e = .returned (.tuple #[.string (mk o.1), .string (mk o.2.1), .int .i64 o.2.2]) ∧ w' = w := by
  rw [Cu.told_line] at ho
  have HL := hide (fun W => readSize_any s W hs _ rfl)
  have hvb := Cu.size_bd s.data.toList
  have hrl : (Cu.readSize s.data.toList).2.1.length ≤ s.size := by
    unfold Cu.readSize
    split
    · simp
    · split
      · simp
      · simp
  rcases hz : Cu.readSize s.data.toList with ⟨v, r, z⟩
  rw [hz] at ho HL hvb hrl
  clear hz
  dsimp only at hvb HL hrl
  subst ho
  unfold Cu.byLine
  dsimp only
  obtain ⟨k, rfl⟩ : ∃ k : Nat, v = k := ⟨v.toNat, by omega⟩
  obtain ⟨q, hq⟩ := ex_list r
  have hqs : q.size = r.length := by rw [← hq]; simp
  rw [← hq, mk_data] at HL
  by_cases h1 : z ≠ 0
  · rw [if_pos h1]
    dsimp only
    clear hq hqs
    go_enter Tryz.func46, Tryz.ntmps46
    go_wp2_with fail
    refine ((unhide HL) _).mono ?_; rintro e wx ⟨rfl, rfl⟩
    go_wp2_with fail
    go_ret3
    exact ⟨rfl, rfl⟩
  obtain rfl : z = 0 := Classical.byContradiction h1
  rw [if_neg (by decide)]
  by_cases h2 : room < (k : Int)
  · rw [if_pos h2]
    dsimp only
    clear hq hqs
    go_enter Tryz.func46, Tryz.ntmps46
    go_wp2_with fail
    refine ((unhide HL) _).mono ?_; rintro e wx ⟨rfl, rfl⟩
    go_wp2_with fail
    go_ret3
    exact ⟨rfl, rfl⟩
  rw [if_neg h2]
  by_cases h3 : (r.length : Int) < k
  · rw [if_pos h3]
    dsimp only
    have h3' : (q.size : Int) < k := by omega
    clear hq hqs
    go_enter Tryz.func46, Tryz.ntmps46
    go_wp2_with fail
    refine ((unhide HL) _).mono ?_; rintro e wx ⟨rfl, rfl⟩
    go_wp2_with fail
    go_ret3
    exact ⟨rfl, rfl⟩
  rw [if_neg h3]
  have h3' : k ≤ q.size := by omega
  have HR := hide (fun W => readLineEnd_any (q.extract k q.size) W (by rw [drop_size q k h3']; omega) _ rfl)
  rw [extract_drop, hq] at HR
  rw [Int.toNat_natCast]
  obtain ⟨y, hy⟩ : ∃ y, Cu.nl (r.drop k) = y := ⟨_, rfl⟩
  by_cases h4 : y = 0
  · subst h4
    rw [Cu.line_yes hy] at HR
    rw [if_neg (by rw [hy]; decide)]
    dsimp only at HR ⊢
    obtain ⟨p, hp⟩ := ex_list ((r.drop k).drop 2)
    rw [← hp, mk_data] at HR
    rw [← hp, mk_data]
    have HT : Hid (mk (r.take k) = q.extract 0 k) := hide (by apply eq_of_lists; rw [take_data, hq]; simp [mk])
    clear hp hy hq hqs hrl
    go_enter Tryz.func46, Tryz.ntmps46
    go_wp2_with fail
    refine ((unhide HL) _).mono ?_; rintro e wx ⟨rfl, rfl⟩
    go_wp2_with fail
    refine ((unhide HR) _).mono ?_; rintro e wx ⟨rfl, rfl⟩
    go_wp2_with fail
    go_ret3
    exact ⟨ret_ssi (unhide HT).symm rfl rfl, rfl⟩
  · rw [Cu.line_no hy h4] at HR
    rw [if_pos (by rw [hy]; exact h4), hy]
    dsimp only at HR ⊢
    clear hy hq hqs hrl
    go_enter Tryz.func46, Tryz.ntmps46
    go_wp2_with fail
    refine ((unhide HL) _).mono ?_; rintro e wx ⟨rfl, rfl⟩
    go_wp2_with fail
    refine ((unhide HR) _).mono ?_; rintro e wx ⟨rfl, rfl⟩
    go_wp2_with fail
    go_ret3
    exact ⟨rfl, rfl⟩
namespace Cu
/-- how chunks are told -/
def tell : Except Int (L8 × Nat) → L8 × Int × Int
  | .error e => ([], 0, e)
  | .ok (q, n) => (q, n, 0)
end Cu
set_option maxHeartbeats 400000 in
theorem chunks_any (s : ByteArray) (most : Int) (w : World) (hs : s.size ≤ 1099511627776) (hm : -9223372036854775808 ≤ most ∧ most ≤ 9223372036854775807) (o : List UInt8 × Int × Int) (ho : Cu.tell (Cu.chunks most s.data.toList) = o) :
    Calls Tryz.prog 31 #[.string s, .int .i64 most] w fun e w' => e = .returned (.tuple #[.string (mk o.1), .int .i64 o.2.1, .int .i64 o.2.2]) ∧ Below w.heap.size w w' := by
  unfold Cu.chunks at ho
  obtain ⟨m, hmm⟩ : ∃ m : Int, max most 0 = m := ⟨_, rfl⟩
  have hm0 : 0 ≤ m ∧ m ≤ 9223372036854775807 := by omega
  rw [hmm] at ho
  have HO := hide ho
  clear ho
  have hmx : max most 0 = m := hmm
  go_enter Tryz.func31, Tryz.ntmps31
  go_wp2_with fail
  go_loopw [8] (fun v wr => ∃ (f k : Nat) (out : List UInt8), v = .string (mk (s.data.toList.drop k)) ∧ k ≤ s.size ∧ s.size - k < f ∧ (out.length : Int) ≤ m ∧ out.length ≤ k ∧ Cu.tell (Cu.go m f (s.data.toList.drop k) out k) = o ∧ Bd w.heap.size w.heap.size out wr ∧ Below w.heap.size w wr) (fun v _ => strSize v)
  case atStart =>
    refine ⟨_, 0, [], ?_, Nat.zero_le _, ?_, ?_, Nat.zero_le _, unhide HO, Bd.new w, (Below.refl _ _).alloc (Nat.le_refl _) _⟩
    · rw [List.drop_zero, mk_data]
    · simp
    · simpa using hm0.1
  case round =>
    clear HO
    obtain ⟨f, k, out, rfl, hk, hf, hom, hok, hgo, hbd, hbel⟩ := hrel
    have BD := hide hbd
    have HB := hide hbel
    have hlt := hbd.lt.1
    clear hbd hbel
    have HN := hide (blen_any w.heap.size w.heap.size out wr (unhide BD))
    obtain ⟨t, ht⟩ := ex_list (s.data.toList.drop k)
    have HTS : Hid (t.size = s.size - k) := hide (by rw [← len_data, ht]; simp)
    have htb : t.size ≤ s.size := by have := unhide HTS; omega
    rw [← ht, mk_data]
    rw [← ht] at hgo
    have HT := hide ht
    clear ht
    obtain ⟨g, rfl⟩ : ∃ g, f = g + 1 := ⟨f - 1, by omega⟩
    have HC := hide (readChunk_any t (m - out.length) wr (by omega) (by omega) _ rfl)
    rw [Cu.go] at hgo
    rcases hc : Cu.chunk (m - out.length) t.data.toList with e | ⟨p, u⟩
    · rw [hc] at hgo HC
      have he := Cu.chunk_err hc
      have he0 : e ≠ 0 := by omega
      clear hc he
      dsimp only [Cu.told, Cu.tell] at hgo HC
      subst hgo
      go_wp2_with fail
      refine (unhide HN).mono ?_; rintro e1 wx ⟨rfl, rfl⟩
      go_wp2_with fail
      refine (unhide HC).mono ?_; rintro e1 wx ⟨rfl, rfl⟩
      go_wp2_with fail
      go_ret3
      exact ⟨rfl, unhide HB⟩
    · rw [hc] at hgo HC
      have hu := Cu.chunk_used hc
      rw [len_data] at hu
      clear hc
      dsimp only [Cu.told] at hgo HC
      obtain ⟨t2, ht2⟩ := ex_list (t.data.toList.drop u)
      have HTS2 : Hid (t2.size = t.size - u) := hide (by rw [← len_data, ht2]; simp)
      have ht2b : t2.size ≤ s.size := by have := unhide HTS2; omega
      have HT2 : Hid (t2 = mk (s.data.toList.drop (k + u))) := hide (by apply eq_of_lists; rw [ht2, unhide HT, List.drop_drop]; simp [mk])
      rw [← ht2, mk_data] at HC
      rw [ht2.symm] at hgo
      clear ht2
      by_cases hp : p = []
      · subst hp
        rw [if_pos rfl] at hgo
        dsimp only [Cu.tell] at hgo
        subst hgo
        have HS := hide (bstr_any w.heap.size w.heap.size out wr (unhide BD))
        have e0 : mk [] = ByteArray.empty := rfl
        rw [e0] at HC
        go_wp2_with fail
        refine (unhide HN).mono ?_; rintro e1 wx ⟨rfl, rfl⟩
        go_wp2_with fail
        refine (unhide HC).mono ?_; rintro e1 wx ⟨rfl, rfl⟩
        go_wp2_with fail
        refine (unhide HS).mono ?_; rintro e1 wx ⟨rfl, b1⟩
        go_wp2_with fail
        go_ret3
        exact ⟨ret_sii rfl (by have := unhide HTS; have := unhide HTS2; omega) rfl, (unhide HB).trans b1⟩
      · rw [if_neg hp] at hgo
        obtain ⟨q, hq⟩ := ex_list p
        have HQS : Hid (q.size = p.length) := hide (by rw [← hq]; simp)
        have hqe : q ≠ ⟨[].toArray⟩ := fun e => hp (by rw [← hq, e])
        have e2 := str_fl hqe
        have HS := hide (wstr_any w.heap.size w.heap.size out q wr (unhide BD) (by have := unhide HQS; have := unhide HTS; have := hu.2.1; have := hu.2.2.2; omega))
        rw [hq] at HS
        rw [← hq, mk_data] at HC
        have HG := hide hgo
        clear hgo hq
        go_wp2_with fail
        refine (unhide HN).mono ?_; rintro e1 wx ⟨rfl, rfl⟩
        go_wp2_with fail
        refine (unhide HC).mono ?_; rintro e1 wx ⟨rfl, rfl⟩
        go_wp2_with fail
        refine (unhide HS).mono ?_; rintro e1 w2 ⟨rfl, bd2, b2⟩
        go_wp2_with fail
        rw [unhide HT2]
        have htsz := unhide HTS
        have hqsz := unhide HQS
        have htsz2 := unhide HTS2
        refine ⟨⟨g, k + u, out ++ p, rfl, by omega, by omega, ?_, ?_, ?_, bd2, (unhide HB).trans b2⟩, ?_⟩
        · rw [List.length_append]; omega
        · rw [List.length_append]; omega
        · have hg := unhide HG
          rw [unhide HT2] at hg
          simpa [mk] using hg
        · rw [← unhide HT2]
          simp [strSize]; omega
end Go.Proofs.YtmgealcolofomaaGreatDoor
