/- Walks: chunks read, the program's: readLineEnd, longest, readSize, readChunk. -/
import Derived.Test.YtmgealcolofomaaGreatDoorTb
import Derived.Test.YtmgealcolofomaaGreatDoorWb
import Derived.Test.YtmgealcolofomaaGreatDoorKc
import Derived.Test.YtmgealcolofomaaGreatDoorShelf
import Derived.OwnWalk
namespace Go.Proofs.YtmgealcolofomaaGreatDoor
open Go.RowKit Kb
set_option linter.unusedVariables false
set_option maxRecDepth 20000

namespace Cu
theorem nl_cases (l : L8) : nl l = 0 ∨ nl l = 4 ∨ nl l = 7 := by
  rcases l with _ | ⟨c, _ | ⟨d, r⟩⟩
  · exact .inr (.inr rfl)
  · simp only [nl]; split <;> simp
  · simp only [nl]; split <;> simp
theorem pre_yes {l : L8} (h : nl l = 0) : Lib.hasPrefix l crlf = true ∧ Lib.trimPrefix l crlf = l.drop 2 := by
  obtain ⟨t, rfl⟩ := nl_form h
  have hp : Lib.hasPrefix (crlf ++ t) crlf = true := by simp [Lib.hasPrefix, crlf]
  exact ⟨hp, by unfold Lib.trimPrefix; rw [hp]; simp [crlf]⟩
theorem pre_no {l : L8} (h : nl l ≠ 0) : Lib.hasPrefix l crlf = false := by
  rcases hp : Lib.hasPrefix l crlf with _ | _
  · rfl
  · exfalso; apply h
    unfold Lib.hasPrefix at hp
    rw [List.isPrefixOf_iff_prefix] at hp
    obtain ⟨t, rfl⟩ := hp
    exact nl_crlf t
theorem pre_seven {l : L8} (h : nl l = 7) : Lib.hasPrefix crlf l = true := by
  rcases l with _ | ⟨c, _ | ⟨d, r⟩⟩
  · rfl
  · simp only [nl] at h
    split at h
    · rename_i hc; subst hc; rfl
    · exact absurd h (by decide)
  · simp only [nl] at h
    split at h <;> exact absurd h (by decide)
theorem pre_four {l : L8} (h : nl l = 4) : Lib.hasPrefix crlf l = false := by
  rcases hp : Lib.hasPrefix crlf l with _ | _
  · rfl
  · exfalso
    unfold Lib.hasPrefix at hp
    rw [List.isPrefixOf_iff_prefix] at hp
    obtain ⟨t, ht⟩ := hp
    rcases l with _ | ⟨c, _ | ⟨d, r⟩⟩
    · exact absurd h (by decide)
    · simp [crlf] at ht
      rw [ht.1] at h
      exact absurd h (by decide)
    · simp [crlf] at ht
      rw [ht.1, ht.2.1] at h
      simp only [nl] at h
      exact absurd h (by decide)
/-- how the end of a line is told: what is behind it, and the error -/
def lineEnd (l : L8) : L8 × Int := if nl l = 0 then (l.drop 2, 0) else ([], nl l)
theorem line_no {l : L8} {z : Int} (h : nl l = z) (h0 : z ≠ 0) : lineEnd l = ([], z) := by unfold lineEnd; rw [h, if_neg h0]
theorem line_yes {l : L8} (h : nl l = 0) : lineEnd l = (l.drop 2, 0) := by unfold lineEnd; rw [if_pos h]
/-- the number at the front of so many digits -/
def numv (l : L8) (k : Nat) : Int := (Num.num 16 (l.take k)).getD 0
theorem take_pre {l : L8} {k : Nat} (h : k < digs l) : ∀ x ∈ l.take (k + 1), isX x = true := fun x hx => digs_all l x (by
  have : l.take (k + 1) = (l.take (digs l)).take (k + 1) := by rw [List.take_take]; congr 1; omega
  rw [this] at hx; exact List.mem_of_mem_take hx)
theorem ans_yes {l : L8} {k : Nat} (h : k < digs l) : Num.ans 16 7 (l.take (k + 1)) = (numv l (k + 1), 0) := by
  have hd := digs_le l
  obtain ⟨n, hn⟩ := num_yes _ (take_pre h)
  unfold Num.ans numv
  rw [if_neg (by rw [List.length_take]; omega), hn]; rfl
theorem ans_no {l : L8} {k : Nat} (h : k = digs l) (hk : k < l.length) : Num.ans 16 7 (l.take (k + 1)) = (0, 4) := by
  have hd := digs_le l
  unfold Num.ans
  by_cases h7 : 7 < k + 1
  · rw [if_pos (by rw [List.length_take]; omega)]
  · have hc := digs_next l (by omega) l[k] (by rw [← h]; exact List.getElem?_eq_getElem hk)
    have e : l.take (k + 1) = l.take k ++ [l[k]] := by rw [List.take_add_one, List.getElem?_eq_getElem hk]; rfl
    rw [if_neg (by rw [List.length_take]; omega), e, num_no _ _ hc]
theorem numv_bd {l : L8} {k : Nat} (h : k ≤ digs l) : 0 ≤ numv l k ∧ numv l k < 268435456 := by
  have hd := digs_le l
  unfold numv
  cases hn : Num.num 16 (l.take k) with
  | none => simp
  | some n =>
    have hb := Num.num_bd 16 (by omega) (by omega) (l.take k).length _ _ rfl hn
    rw [List.length_take] at hb
    have h2 : ∀ k : Fin 8, (16 : Int) ^ k.1 ≤ 268435456 := by decide
    have h3 := h2 ⟨min k l.length, by omega⟩
    dsimp only at h3
    simp only [Option.getD_some]
    omega
end Cu
theorem ret_si2 {a b : ByteArray} {k : IntKind} {c d : Int} (h : a = b) (g : c = d) : Ending.returned (.tuple #[.string a, .int k c]) = .returned (.tuple #[.string b, .int k d]) := by rw [h, g]
theorem readLineEnd_any (s : ByteArray) (w : World) (hs : s.size ≤ 1099511627776) (o : List UInt8 × Int) (ho : Cu.lineEnd s.data.toList = o) :
    Calls Tryz.prog 66 #[.string s] w fun e w' => e = .returned (.tuple #[.string (mk o.1), .int .i64 o.2]) ∧ w' = w := by
  subst ho
  have H1 := hide (fun W => Tryz.strings_CutPrefix s ⟨#[13, 10]⟩ W)
  change Hid (∀ W, Calls _ _ _ _ fun e w' => e = .returned (.tuple #[.string ⟨(Lib.trimPrefix s.data.toList Cu.crlf).toArray⟩, .bool (Lib.hasPrefix s.data.toList Cu.crlf)]) ∧ w' = W) at H1
  have H2 := hide (fun W => Tryz.strings_HasPrefix ⟨#[13, 10]⟩ s W)
  change Hid (∀ W, Calls _ _ _ _ fun e w' => e = .returned (.bool (Lib.hasPrefix Cu.crlf s.data.toList)) ∧ w' = W) at H2
  by_cases h0 : Cu.nl s.data.toList = 0
  · obtain ⟨p1, p2⟩ := Cu.pre_yes h0
    rw [p1, p2] at H1
    rw [Cu.line_yes h0]
    clear H2 h0 p1 p2
    obtain ⟨q, hq⟩ := ex_list (s.data.toList.drop 2)
    rw [← hq, back_list q _ rfl] at H1
    rw [← hq, mk_data]
    clear hq
    go_enter Tryz.func66, Tryz.ntmps66
    go_wp2_with fail
    refine ((unhide H1) _).mono ?_; rintro e wx ⟨rfl, rfl⟩
    go_wp2_with fail
    go_ret2
    exact ⟨rfl, rfl⟩
  · rw [Cu.pre_no h0] at H1
    obtain ⟨q, hq⟩ := ex_list (Lib.trimPrefix s.data.toList Cu.crlf)
    rw [← hq, back_list q _ rfl] at H1
    clear hq
    rcases Cu.nl_cases s.data.toList with h | h | h
    · exact absurd h h0
    · rw [Cu.line_no h (by decide)]
      rw [Cu.pre_four h] at H2
      clear h h0
      go_enter Tryz.func66, Tryz.ntmps66
      go_wp2_with fail
      refine ((unhide H1) _).mono ?_; rintro e wx ⟨rfl, rfl⟩
      go_wp2_with fail
      refine ((unhide H2) _).mono ?_; rintro e wx ⟨rfl, rfl⟩
      go_wp2_with fail
      go_ret2
      exact ⟨rfl, rfl⟩
    · rw [Cu.line_no h (by decide)]
      rw [Cu.pre_seven h] at H2
      clear h h0
      go_enter Tryz.func66, Tryz.ntmps66
      go_wp2_with fail
      refine ((unhide H1) _).mono ?_; rintro e wx ⟨rfl, rfl⟩
      go_wp2_with fail
      refine ((unhide H2) _).mono ?_; rintro e wx ⟨rfl, rfl⟩
      go_wp2_with fail
      go_ret2
      exact ⟨rfl, rfl⟩
theorem take_data (s : ByteArray) (k : Nat) : (s.extract 0 k).data.toList = s.data.toList.take k := by
  rw [Lib.extract_data]; simp
set_option maxHeartbeats 2000000 in
theorem longest_any (s : ByteArray) (w : World) (hs : s.size ≤ 1099511627776) (d : Nat) (v : Int) (hd : Cu.digs s.data.toList = d) (hv : Cu.val s.data.toList = v) :
    Calls Tryz.prog 94 #[.string s] w fun e w' => e = .returned (.tuple #[.int .i64 v, .int .i64 d]) ∧ w' = w := by
  have hdl := Cu.digs_le s.data.toList
  rw [len_data, hd] at hdl
  have HV : Hid (Cu.numv s.data.toList d = v) := hide (by rw [← hv, ← hd]; rfl)
  have HX := hide (fun (k : Nat) W => hex_any (s.extract 0 (k + 1)) W (by unfold maxLen; simp; omega))
  simp only [take_data] at HX
  have HY : Hid (∀ k, k < d → Num.ans 16 7 (s.data.toList.take (k + 1)) = (Cu.numv s.data.toList (k + 1), 0)) := hide (fun k hk => Cu.ans_yes (by rw [hd]; exact hk))
  have HN : Hid (d < s.size → Num.ans 16 7 (s.data.toList.take (d + 1)) = (0, 4)) := hide (fun hk => Cu.ans_no hd.symm (by rw [len_data]; exact hk))
  have H0 : Hid (Cu.numv s.data.toList 0 = 0) := hide rfl
  clear hd hv
  go_enter Tryz.func94, Tryz.ntmps94
  go_wp2_with fail
  go_loop [4, 10] (fun n i => ∃ k : Nat, k ≤ d ∧ i = .int .i64 k ∧ n = .int .i64 (Cu.numv s.data.toList k)) (fun _ i => s.size - (intOf i).toNat)
  case atStart => exact ⟨0, Nat.zero_le _, rfl, by rw [unhide H0]⟩
  case round =>
    obtain ⟨k, hk, rfl, rfl⟩ := hrel
    obtain ⟨n0, hn0⟩ : ∃ n, Cu.numv s.data.toList k = n := ⟨_, rfl⟩
    rw [hn0]
    by_cases hlt : k < s.size
    · by_cases hkd : k < d
      · have HA := hide ((unhide HX) k)
        rw [(unhide HY) k hkd] at HA
        obtain ⟨n1, hn1⟩ : ∃ n, Cu.numv s.data.toList (k + 1) = n := ⟨_, rfl⟩
        rw [hn1] at HA
        clear hn0 HX HY HN H0 HV
        go_wp2_with (go_at_call 112; refine ((unhide HA) _).mono ?_; rintro e wx ⟨rfl, rfl⟩)
        go_round
        case rel => exact ⟨k + 1, by omega, by go_num, by rw [hn1]⟩
        case measure => simp [intOf]; omega
      · obtain rfl : k = d := by omega
        have HA := hide ((unhide HX) k)
        rw [(unhide HN) hlt] at HA
        rw [unhide HV] at hn0
        subst hn0
        clear HX HY HN H0 HV
        go_wp2_with (go_at_call 112; refine ((unhide HA) _).mono ?_; rintro e wx ⟨rfl, rfl⟩)
        go_ret2
        exact ⟨rfl, rfl⟩
    · obtain rfl : k = d := by omega
      have e : s.size = k := by omega
      rw [unhide HV] at hn0
      subst hn0
      clear HX HY HN H0 HV
      go_wp2_with fail
      go_ret2
      exact ⟨ret_ints rfl (by omega), rfl⟩
namespace Cu
/-- how a size is told: it, what is behind its line, and the error -/
def readSize (l : L8) : Int × L8 × Int :=
  if digs l = 0 ∧ l ≠ [] then (0, [], 4) else if nl (l.drop (digs l)) ≠ 0 then (0, [], nl (l.drop (digs l))) else (val l, l.drop (digs l + 2), 0)
/-- how a chunk is told -/
def told (l : L8) : Except Int (L8 × Nat) → L8 × L8 × Int
  | .error e => ([], [], e)
  | .ok (p, u) => (p, l.drop u, 0)
theorem size_bad {l : L8} (h : digs l = 0 ∧ l ≠ []) : readSize l = (0, [], 4) := if_pos h
theorem size_err {l : L8} {z : Int} (h : ¬ (digs l = 0 ∧ l ≠ [])) (hz : nl (l.drop (digs l)) = z) (h0 : z ≠ 0) : readSize l = (0, [], z) := by
  unfold readSize; rw [if_neg h, hz, if_pos h0]
theorem size_ok {l : L8} (h : ¬ (digs l = 0 ∧ l ≠ [])) (hz : nl (l.drop (digs l)) = 0) : readSize l = (val l, l.drop (digs l + 2), 0) := by
  unfold readSize; rw [if_neg h, hz, if_neg (by decide)]
end Cu
theorem ret_isi {a b : ByteArray} {x y c d : Int} (h : x = y) (g : a = b) (k : c = d) : Ending.returned (.tuple #[.int .i64 x, .string a, .int .i64 c]) = .returned (.tuple #[.int .i64 y, .string b, .int .i64 d]) := by rw [h, g, k]
theorem ret_ssi {a b c d : ByteArray} {x y : Int} (h : a = b) (g : c = d) (k : x = y) : Ending.returned (.tuple #[.string a, .string c, .int .i64 x]) = .returned (.tuple #[.string b, .string d, .int .i64 y]) := by rw [h, g, k]
theorem nil_size {s : ByteArray} (h : s.data.toList = []) : s = ByteArray.empty := eq_of_lists (by rw [h]; rfl)
theorem ne_size {s : ByteArray} (h : s.data.toList ≠ []) : s ≠ ⟨[].toArray⟩ := fun e => h (by rw [e])
set_option maxHeartbeats 2000000 in
theorem readSize_any (s : ByteArray) (w : World) (hs : s.size ≤ 1099511627776) (o : Int × List UInt8 × Int) (ho : Cu.readSize s.data.toList = o) :
    Calls Tryz.prog 65 #[.string s] w fun e w' => e = .returned (.tuple #[.int .i64 o.1, .string (mk o.2.1), .int .i64 o.2.2]) ∧ w' = w := by
  subst ho
  have HL := hide (fun W => longest_any s W hs _ _ rfl rfl)
  have hdl := Cu.digs_le s.data.toList
  have hvb := Cu.val_bd s.data.toList
  obtain ⟨d, hd⟩ : ∃ d, Cu.digs s.data.toList = d := ⟨_, rfl⟩
  obtain ⟨v, hv⟩ : ∃ v, Cu.val s.data.toList = v := ⟨_, rfl⟩
  rw [len_data, hd] at hdl
  rw [hv] at hvb
  rw [hd, hv] at HL
  by_cases h1 : d = 0 ∧ s.data.toList ≠ []
  · rw [Cu.size_bad (by rw [hd]; exact h1)]
    obtain ⟨rfl, hne⟩ := h1
    have e1 := str_fl (ne_size hne)
    have e2 : s.toList.isEmpty = false := by rw [Lib.toList_data]; simpa using hne
    clear hd hv hne
    go_enter Tryz.func65, Tryz.ntmps65
    go_wp2_with fail
    refine ((unhide HL) _).mono ?_; rintro e wx ⟨rfl, rfl⟩
    go_wp2_with fail
    go_ret3
    exact ⟨rfl, rfl⟩
  · have HR := hide (fun W => readLineEnd_any (s.extract d s.size) W (by simp; omega) _ rfl)
    rw [extract_drop] at HR
    obtain ⟨r, hr⟩ := ex_list (s.data.toList.drop d)
    have h1' : ¬ (Cu.digs s.data.toList = 0 ∧ s.data.toList ≠ []) := by rw [hd]; exact h1
    have hb : (decide ((d : Int) = 0) && !(s.toList == [])) = false := by
      by_cases h0 : d = 0
      · subst h0
        have : s.data.toList = [] := Classical.byContradiction fun h => h1 ⟨rfl, h⟩
        simp [Lib.toList_data, this]
      · simp; omega
    obtain ⟨z, hz⟩ : ∃ z, Cu.nl (s.data.toList.drop d) = z := ⟨_, rfl⟩
    by_cases h0 : z = 0
    · subst h0
      rw [Cu.line_yes hz, List.drop_drop] at HR
      rw [Cu.size_ok h1' (by rw [hd]; exact hz), hd, hv]
      obtain ⟨q, hq⟩ := ex_list (s.data.toList.drop (d + 2))
      rw [← hq, mk_data] at HR
      rw [← hq, mk_data]
      clear hq hz hr hd hv h1'
      by_cases hd0 : d = 0
      · subst hd0
        have hs0 : s.data.toList = [] := Classical.byContradiction fun h => h1 ⟨rfl, h⟩
        obtain rfl := nil_size hs0
        clear h1 hs0 hb
        go_enter Tryz.func65, Tryz.ntmps65
        go_wp2_with fail
        refine ((unhide HL) _).mono ?_; rintro e wx ⟨rfl, rfl⟩
        go_wp2_with fail
        refine ((unhide HR) _).mono ?_; rintro e wx ⟨rfl, rfl⟩
        go_wp2_with fail
        go_ret3
        exact ⟨rfl, rfl⟩
      · clear h1 hb
        go_enter Tryz.func65, Tryz.ntmps65
        go_wp2_with fail
        refine ((unhide HL) _).mono ?_; rintro e wx ⟨rfl, rfl⟩
        go_wp2_with fail
        refine ((unhide HR) _).mono ?_; rintro e wx ⟨rfl, rfl⟩
        go_wp2_with fail
        go_ret3
        exact ⟨rfl, rfl⟩
    · rw [Cu.line_no hz h0] at HR
      rw [Cu.size_err h1' (by rw [hd]; exact hz) h0]
      clear hz hr hd hv h1'
      by_cases hd0 : d = 0
      · subst hd0
        have hs0 : s.data.toList = [] := Classical.byContradiction fun h => h1 ⟨rfl, h⟩
        obtain rfl := nil_size hs0
        clear h1 hs0 hb
        go_enter Tryz.func65, Tryz.ntmps65
        go_wp2_with fail
        refine ((unhide HL) _).mono ?_; rintro e wx ⟨rfl, rfl⟩
        go_wp2_with fail
        refine ((unhide HR) _).mono ?_; rintro e wx ⟨rfl, rfl⟩
        go_wp2_with fail
        go_ret3
        exact ⟨rfl, rfl⟩
      · clear h1 hb
        go_enter Tryz.func65, Tryz.ntmps65
        go_wp2_with fail
        refine ((unhide HL) _).mono ?_; rintro e wx ⟨rfl, rfl⟩
        go_wp2_with fail
        refine ((unhide HR) _).mono ?_; rintro e wx ⟨rfl, rfl⟩
        go_wp2_with fail
        go_ret3
        exact ⟨rfl, rfl⟩
end Go.Proofs.YtmgealcolofomaaGreatDoor
