/- Walks of signs of HTML: named, htmlSign, HtmlDecode. -/
import Derived.Test.YtkhbfdokkmebhaaGreatDoorWd
import Derived.Test.YtkhbfdokkmebhaaGreatDoorCh
namespace Go.Proofs.YtkhbfdokkmebhaaGreatDoor
open Go.RowKit Kb
set_option linter.unusedVariables false
set_option maxRecDepth 20000

theorem pre_cons (a : UInt8) (t : List UInt8) : Ch.pre (a :: t) = if a = 59 then some [] else (Ch.pre t).map (a :: ·) := by
  by_cases h : a = 59
  · subst h; simp [Ch.pre]
  · rw [if_neg h]
    unfold Ch.pre
    by_cases hm : 59 ∈ t
    · rw [if_pos (by simp [hm]), if_pos hm]; simp [h]
    · rw [if_neg (by simp [hm]; exact fun e => h e.symm), if_neg hm]; rfl
theorem ix_pre : ∀ t : List UInt8, Lib.indexByte t 59 = match Ch.pre t with | some n => (n.length : Int) | none => -1 := by
  intro t
  induction t with
  | nil => rfl
  | cons a t ih =>
    rw [pre_cons]
    by_cases h : a = 59
    · subst h; simp [Lib.indexByte]
    · rw [if_neg h]
      simp only [Lib.indexByte]
      have h' : (a == 59) = false := by simpa using h
      rw [ih]
      cases hp : Ch.pre t with
      | none => simp [h]
      | some n => simp [h]
theorem pre_take {t n : List UInt8} (h : Ch.pre t = some n) : t.take n.length = n ∧ n.length < t.length := by
  unfold Ch.pre at h
  split at h
  · rename_i hm
    obtain ⟨u, r, rfl, hu⟩ := Ch.split_semi t hm
    cases h
    have : (u ++ 59 :: r).takeWhile (· != 59) = u := by
      rw [List.takeWhile_append_of_pos (by intro a ha; simp; intro e; subst e; exact hu ha)]; simp
    rw [this]
    exact ⟨List.take_left, by simp⟩
  · cases h

/-- what is answered of a number -/
theorem ans_cases (base : Int) (most : Nat) (l : List UInt8) (hb2 : 2 ≤ base) (hb16 : base ≤ 16) (hl : most ≤ 9) : (Num.ans base most l = (0, 4)) ∨ (∃ n, Num.ans base most l = (n, 0) ∧ 0 ≤ n ∧ n < 16 ^ l.length ∧ l.length ≤ most) := by
  unfold Num.ans
  split
  · exact .inl rfl
  · rename_i h
    cases hn : Num.num base l with
    | none => exact .inl rfl
    | some n =>
      have := Num.num_bd base hb2 hb16 l.length l n rfl hn
      exact .inr ⟨n, rfl, this.1, this.2, by omega⟩
theorem str_ne {s : ByteArray} {l : List UInt8} (h : s.data.toList ≠ l) : (s.toList == l) = false := by rw [ByteArray.toList_eq]; simpa using h
theorem str_eq {s : ByteArray} {l : List UInt8} (h : s.data.toList = l) : s = ⟨l.toArray⟩ := Kb.eq_list h
theorem ofNat_wrap (n : Int) (h0 : 0 ≤ n) (h1 : n < 256) : IntKind.u8.wrap n = ((UInt8.ofNat n.toNat).toNat : Int) := by
  simp [IntKind.wrap, IntKind.signed, IntKind.bits]; omega

set_option maxHeartbeats 2000000 in
theorem named_any (s : ByteArray) (w : World) (hs : s.size ≤ 4) :
    Calls Tryz.prog 65 #[.string s] w fun e w' => (∃ v, e = .returned (.tuple #[.int .u8 v, .bool (Ch.nmd s.data.toList).isSome]) ∧ ∀ c, Ch.nmd s.data.toList = some c → v = c.toNat) ∧ w' = w := by
  have hlen : s.data.toList.length = s.size := by simp
  by_cases h1 : s.data.toList = [108, 116]
  · obtain rfl := str_eq h1
    go_enter Tryz.func65, Tryz.ntmps65
    go_wp2
    go_ret2
    exact ⟨⟨60, rfl, fun c h => by cases h; rfl⟩, rfl⟩
  by_cases h2 : s.data.toList = [103, 116]
  · obtain rfl := str_eq h2
    go_enter Tryz.func65, Tryz.ntmps65
    go_wp2
    go_ret2
    exact ⟨⟨62, rfl, fun c h => by cases h; rfl⟩, rfl⟩
  by_cases h3 : s.data.toList = [97, 109, 112]
  · obtain rfl := str_eq h3
    go_enter Tryz.func65, Tryz.ntmps65
    go_wp2
    go_ret2
    exact ⟨⟨38, rfl, fun c h => by cases h; rfl⟩, rfl⟩
  by_cases h4 : s.data.toList = [113, 117, 111, 116]
  · obtain rfl := str_eq h4
    go_enter Tryz.func65, Tryz.ntmps65
    go_wp2
    go_ret2
    exact ⟨⟨34, rfl, fun c h => by cases h; rfl⟩, rfl⟩
  have e1 := str_ne h1
  have e2 := str_ne h2
  have e3 := str_ne h3
  have e4 := str_ne h4
  have H1 := hide (Tryz.strings_CutPrefix s ⟨#[35, 120]⟩ w)
  have H2 := hide (Tryz.strings_CutPrefix s ⟨#[35]⟩ w)
  by_cases hx : ∃ ds, s.data.toList = 35 :: 120 :: ds
  · obtain ⟨ds, hx⟩ := hx
    have hn : Ch.nmd s.data.toList = Ch.nb (Num.ans 16 7 ds) := by
      unfold Ch.nmd; rw [if_neg h1, if_neg h2, if_neg h3, if_neg h4, hx]; rfl
    have hp : Lib.hasPrefix s.data.toList [35, 120] = true := by rw [hx]; simp [Lib.hasPrefix]
    have ht : Lib.trimPrefix s.data.toList [35, 120] = ds := by unfold Lib.trimPrefix; rw [hp]; simp [hx]
    have hdl : ds.length ≤ 2 := by rw [hx] at hlen; simp at hlen; omega
    change Hid (Calls _ _ _ _ fun e w' => e = .returned (.tuple #[.string ⟨(Lib.trimPrefix s.data.toList [35, 120]).toArray⟩, .bool (Lib.hasPrefix s.data.toList [35, 120])]) ∧ w' = w) at H1
    rw [hp, ht] at H1
    have HH := hide (hex_any ⟨ds.toArray⟩ w (by rw [Kb.mk_sz]; unfold maxLen; omega))
    change Hid (Calls _ _ _ _ fun e w' => e = .returned (.tuple #[.int .i64 (Num.ans 16 7 ds).1, .int .i64 (Num.ans 16 7 ds).2]) ∧ w' = w) at HH
    rw [hn]
    rcases ans_cases 16 7 ds (by omega) (by omega) (by omega) with ha | ⟨n, ha, n0, n1, _⟩
    · rw [ha] at HH ⊢
      have hnb : Ch.nb (0, 4) = none := rfl
      rw [hnb]
      clear hx hn hp ht ha h1 h2 h3 h4 hlen hnb
      go_enter Tryz.func65, Tryz.ntmps65
      go_wp2_with (first | (go_at_call 86; refine (unhide H1).mono ?_; rintro e wx ⟨rfl, rfl⟩) | (go_at_call 62; refine (unhide HH).mono ?_; rintro e wx ⟨rfl, rfl⟩))
      go_ret2
      exact ⟨⟨_, rfl, fun c h => by cases h⟩, rfl⟩
    · have n2 : n < 256 := by
        have : (16 : Int) ^ ds.length ≤ 16 ^ 2 := by
          have : ∀ k : Nat, k ≤ 2 → (16 : Int) ^ k ≤ 16 ^ 2 := by
            intro k hk
            match k, hk with
            | 0, _ => decide
            | 1, _ => decide
            | 2, _ => decide
          exact this _ hdl
        omega
      rw [ha] at HH ⊢
      have hnb : Ch.nb (n, 0) = some (UInt8.ofNat n.toNat) := by simp [Ch.nb, n2]
      rw [hnb]
      have hw := ofNat_wrap n n0 n2
      clear hx hn hp ht ha h1 h2 h3 h4 hlen hnb n1
      go_enter Tryz.func65, Tryz.ntmps65
      go_wp2_with (first | (go_at_call 86; refine (unhide H1).mono ?_; rintro e wx ⟨rfl, rfl⟩) | (go_at_call 62; refine (unhide HH).mono ?_; rintro e wx ⟨rfl, rfl⟩))
      go_ret2
      refine ⟨⟨_, rfl, fun c h => ?_⟩, rfl⟩
      cases h
      first | (simp; done) | (simp; omega)
  · have hp : Lib.hasPrefix s.data.toList [35, 120] = false := by
      rcases hp : Lib.hasPrefix s.data.toList [35, 120] with _ | _
      · rfl
      · exfalso; apply hx
        unfold Lib.hasPrefix at hp
        rw [List.isPrefixOf_iff_prefix] at hp
        obtain ⟨t, ht⟩ := hp
        exact ⟨t, ht.symm⟩
    change Hid (Calls _ _ _ _ fun e w' => e = .returned (.tuple #[.string ⟨(Lib.trimPrefix s.data.toList [35, 120]).toArray⟩, .bool (Lib.hasPrefix s.data.toList [35, 120])]) ∧ w' = w) at H1
    rw [hp] at H1
    change Hid (Calls _ _ _ _ fun e w' => e = .returned (.tuple #[.string ⟨(Lib.trimPrefix s.data.toList [35]).toArray⟩, .bool (Lib.hasPrefix s.data.toList [35])]) ∧ w' = w) at H2
    by_cases hd : ∃ ds, s.data.toList = 35 :: ds
    · obtain ⟨ds, hd⟩ := hd
      have hn : Ch.nmd s.data.toList = Ch.nb (Num.ans 10 9 ds) := by
        unfold Ch.nmd; rw [if_neg h1, if_neg h2, if_neg h3, if_neg h4, hd]
        cases ds with
        | nil => rfl
        | cons b ds =>
          have hb : b ≠ 120 := by intro e; subst e; exact hx ⟨ds, hd⟩
          split
          · rename_i h; cases h; exact absurd rfl hb
          · rename_i h; cases h; rfl
          · rename_i h1 h2; exact absurd rfl (h2 _)
      have hp2 : Lib.hasPrefix s.data.toList [35] = true := by rw [hd]; simp [Lib.hasPrefix]
      have ht : Lib.trimPrefix s.data.toList [35] = ds := by unfold Lib.trimPrefix; rw [hp2]; simp [hd]
      have hdl : ds.length ≤ 3 := by rw [hd] at hlen; simp at hlen; omega
      rw [hp2, ht] at H2
      have HH := hide (dec_any ⟨ds.toArray⟩ w (by rw [Kb.mk_sz]; unfold maxLen; omega))
      change Hid (Calls _ _ _ _ fun e w' => e = .returned (.tuple #[.int .i64 (Num.ans 10 9 ds).1, .int .i64 (Num.ans 10 9 ds).2]) ∧ w' = w) at HH
      rw [hn]
      rcases ans_cases 10 9 ds (by omega) (by omega) (by omega) with ha | ⟨n, ha, n0, n1, _⟩
      · rw [ha] at HH ⊢
        have hnb : Ch.nb (0, 4) = none := rfl
        rw [hnb]
        clear hx hd hn hp hp2 ht ha h1 h2 h3 h4 hlen hnb
        go_enter Tryz.func65, Tryz.ntmps65
        go_wp2_with fail
        refine (unhide H1).mono ?_; rintro e wx ⟨rfl, rfl⟩
        go_wp2_with fail
        refine (unhide H2).mono ?_; rintro e wx ⟨rfl, rfl⟩
        go_wp2_with fail
        refine (unhide HH).mono ?_; rintro e wx ⟨rfl, rfl⟩
        go_wp2_with fail
        go_ret2
        exact ⟨⟨_, rfl, fun c h => by cases h⟩, rfl⟩
      · have n3 : n < 16777216 := by
          have : ∀ k : Nat, k ≤ 3 → (16 : Int) ^ k ≤ 16 ^ 3 := by
            intro k hk
            match k, hk with
            | 0, _ => decide
            | 1, _ => decide
            | 2, _ => decide
            | 3, _ => decide
          have := this _ hdl
          omega
        rw [ha] at HH ⊢
        by_cases n2 : n < 256
        · have hnb : Ch.nb (n, 0) = some (UInt8.ofNat n.toNat) := by simp [Ch.nb, n2]
          rw [hnb]
          have hw := ofNat_wrap n n0 n2
          clear hx hd hn hp hp2 ht ha h1 h2 h3 h4 hlen hnb n1
          go_enter Tryz.func65, Tryz.ntmps65
          go_wp2_with fail
          refine (unhide H1).mono ?_; rintro e wx ⟨rfl, rfl⟩
          go_wp2_with fail
          refine (unhide H2).mono ?_; rintro e wx ⟨rfl, rfl⟩
          go_wp2_with fail
          refine (unhide HH).mono ?_; rintro e wx ⟨rfl, rfl⟩
          go_wp2_with fail
          go_ret2
          refine ⟨⟨_, rfl, fun c h => ?_⟩, rfl⟩
          cases h
          first | (simp; done) | (simp; omega)
        · have hnb : Ch.nb (n, 0) = none := by simp [Ch.nb]; omega
          rw [hnb]
          clear hx hd hn hp hp2 ht ha h1 h2 h3 h4 hlen hnb n1
          go_enter Tryz.func65, Tryz.ntmps65
          go_wp2_with fail
          refine (unhide H1).mono ?_; rintro e wx ⟨rfl, rfl⟩
          go_wp2_with fail
          refine (unhide H2).mono ?_; rintro e wx ⟨rfl, rfl⟩
          go_wp2_with fail
          refine (unhide HH).mono ?_; rintro e wx ⟨rfl, rfl⟩
          go_wp2_with fail
          go_ret2
          exact ⟨⟨_, Kb.ret_int_bool rfl (by simp; omega), fun c h => by cases h⟩, rfl⟩
    · have hp2 : Lib.hasPrefix s.data.toList [35] = false := by
        rcases hp : Lib.hasPrefix s.data.toList [35] with _ | _
        · rfl
        · exfalso; apply hd
          unfold Lib.hasPrefix at hp
          rw [List.isPrefixOf_iff_prefix] at hp
          obtain ⟨t, ht⟩ := hp
          exact ⟨t, ht.symm⟩
      have hn : Ch.nmd s.data.toList = none := by
        unfold Ch.nmd; rw [if_neg h1, if_neg h2, if_neg h3, if_neg h4]
        split
        · exfalso; rename_i h; exact hx ⟨_, h⟩
        · exfalso; rename_i h; exact hd ⟨_, h⟩
        · rfl
      rw [hp2] at H2
      rw [hn]
      clear hx hd hn hp hp2 h1 h2 h3 h4 hlen
      go_enter Tryz.func65, Tryz.ntmps65
      go_wp2_with fail
      refine (unhide H1).mono ?_; rintro e wx ⟨rfl, rfl⟩
      go_wp2_with fail
      refine (unhide H2).mono ?_; rintro e wx ⟨rfl, rfl⟩
      go_wp2_with fail
      go_ret2
      exact ⟨⟨_, rfl, fun c h => by cases h⟩, rfl⟩

theorem hs_self {a : UInt8} (r : List UInt8) (h : a ≠ 38) : Ch.hs (a :: r) = (a, 1) := by simp [Ch.hs, h]
theorem hs_nopre (r : List UInt8) (h : Ch.pre (r.take 5) = none) : Ch.hs (38 :: r) = (38, 1) := by simp [Ch.hs, h]
theorem hs_no (r n : List UInt8) (h : Ch.pre (r.take 5) = some n) (h2 : Ch.nmd n = none) : Ch.hs (38 :: r) = (38, 1) := by simp [Ch.hs, h, h2]
theorem hs_yes (r n : List UInt8) (c : UInt8) (h : Ch.pre (r.take 5) = some n) (h2 : Ch.nmd n = some c) : Ch.hs (38 :: r) = (c, n.length + 2) := by simp [Ch.hs, h, h2]
theorem hs_le (l : List UInt8) (h : l ≠ []) : 1 ≤ (Ch.hs l).2 ∧ (Ch.hs l).2 ≤ l.length := by
  match l, h with
  | a :: r, _ =>
    by_cases ha : a = 38
    · subst ha
      cases hp : Ch.pre (r.take 5) with
      | none => rw [hs_nopre r hp]; simp
      | some n =>
        cases hn : Ch.nmd n with
        | none => rw [hs_no r n hp hn]; simp
        | some c =>
          rw [hs_yes r n c hp hn]
          have := (pre_take hp).2
          simp at this ⊢; omega
    · rw [hs_self r ha]; simp

set_option maxHeartbeats 2000000 in
theorem htmlSign_any (s : ByteArray) (w : World) (hs : s.size ≤ maxLen) (hpos : 1 ≤ s.size) :
    Calls Tryz.prog 49 #[.string s] w fun e w' => e = .returned (.tuple #[.int .u8 (Ch.hs s.data.toList).1.toNat, .int .i64 (Ch.hs s.data.toList).2]) ∧ w' = w := by
  unfold maxLen at hs
  have hl0 := Kb.drop_cons s 0 (by omega)
  rw [List.drop_zero] at hl0
  obtain ⟨a, ha⟩ : ∃ a, s[0]'(by omega) = a := ⟨_, rfl⟩
  obtain ⟨r, hr⟩ : ∃ r, s.data.toList.drop (0 + 1) = r := ⟨_, rfl⟩
  rw [ha, hr] at hl0
  clear hr
  have hrl : r.length + 1 = s.size := by have := congrArg List.length hl0; simp at this; omega
  obtain ⟨m, hm⟩ : ∃ m, min 6 s.size = m := ⟨_, rfl⟩
  have hmin : (min 6 (s.size : Int)) = (m : Int) := by omega
  have hms : m ≤ s.size := by omega
  have HI := hide (Tryz.strings_IndexByte (s.extract 0 m) 59 w)
  have e6 : (s.extract 0 m).data.toList = a :: r.take 5 := by
    rw [Lib.extract_data, List.drop_zero, Nat.sub_zero, hl0, ← hm]
    by_cases h6 : 6 ≤ s.size
    · rw [Nat.min_eq_left h6]; rfl
    · rw [Nat.min_eq_right (by omega), List.take_of_length_le (by simp; omega), List.take_of_length_le (by omega)]
  rw [e6] at HI
  rw [show ((59 : Int).toNat.toUInt8) = 59 from rfl, ix_pre, pre_cons] at HI
  have hac := a.toNat_lt
  rw [hl0]
  by_cases h38 : a = 38
  · subst h38
    rw [if_neg (show (38 : UInt8) ≠ 59 by decide)] at HI
    cases hp : Ch.pre (r.take 5) with
    | none =>
      rw [hs_nopre r hp]
      rw [hp] at HI
      change Hid (Calls _ _ _ _ fun e w' => e = .returned (.int .i64 (-1)) ∧ w' = w) at HI
      clear hp e6 hl0 hm
      go_enter Tryz.func49, Tryz.ntmps49
      go_wp2_with (go_at_call 48; refine (unhide HI).mono ?_; rintro e wx ⟨rfl, rfl⟩)
      go_ret2
      exact ⟨rfl, rfl⟩
    | some n =>
      rw [hp] at HI
      have hpt := pre_take hp
      have hnl : n.length ≤ 4 := by have := hpt.2; simp at this; omega
      have hnr : n.length + 2 ≤ s.size := by have := hpt.2; simp at this; omega
      change Hid (Calls _ _ _ _ fun e w' => e = .returned (.int .i64 (((38 :: n).length : Nat) : Int)) ∧ w' = w) at HI
      rw [List.length_cons] at HI
      obtain ⟨j, hj⟩ : ∃ j, n.length + 1 = j := ⟨_, rfl⟩
      rw [hj] at HI
      have e1 : (s.extract 1 j).data.toList = n := by
        rw [Lib.extract_data, hl0, ← hj, Nat.add_sub_cancel]
        show r.take n.length = n
        have := hpt.1
        rw [List.take_take, Nat.min_eq_left (by omega)] at this
        exact this
      have HN := hide (named_any (s.extract 1 j) w (by rw [Kb.size_list _ _ e1]; exact hnl))
      rw [e1] at HN
      have hj1 : 1 ≤ j := by omega
      have hjs : j + 1 ≤ s.size := by omega
      cases hn : Ch.nmd n with
      | none =>
        rw [hs_no r n hp hn]
        rw [hn] at HN
        clear hp e6 hl0 hpt e1 hn hm hj
        go_enter Tryz.func49, Tryz.ntmps49
        go_wp2_with (first | (go_at_call 48; refine (unhide HI).mono ?_; rintro e wx ⟨rfl, rfl⟩) | (go_at_call 65; refine (unhide HN).mono ?_; rintro e wx ⟨⟨v, rfl, hv⟩, rfl⟩))
        go_ret2
        exact ⟨rfl, rfl⟩
      | some c =>
        rw [hs_yes r n c hp hn]
        rw [hn] at HN
        have hj2 : ((n.length + 2 : Nat) : Int) = (j : Int) + 1 := by omega
        rw [hj2]
        clear hp e6 hl0 hpt e1 hn hm hj hj2
        go_enter Tryz.func49, Tryz.ntmps49
        go_wp2_with (first | (go_at_call 48; refine (unhide HI).mono ?_; rintro e wx ⟨rfl, rfl⟩) | (go_at_call 65; refine (unhide HN).mono ?_; rintro e wx ⟨⟨v, rfl, hv⟩, rfl⟩))
        go_ret2
        exact ⟨Kb.ret_ints (by first | rfl | exact hv c rfl) (by omega), rfl⟩
  · have h38' : ((a.toNat : Int) == 38) = false := beqF (b := 38) (Kb.nat_ne h38)
    rw [hs_self r h38]
    generalize (match (if a = 59 then some [] else (Ch.pre (r.take 5)).map (a :: ·)) with | some n => (n.length : Int) | none => -1) = x at HI
    clear e6 hl0 hm h38
    go_enter Tryz.func49, Tryz.ntmps49
    go_wp2_with (go_at_call 48; refine (unhide HI).mono ?_; rintro e wx ⟨rfl, rfl⟩)
    go_ret2
    exact ⟨rfl, rfl⟩

set_option maxHeartbeats 2000000 in
theorem htmlDecode_any (s : ByteArray) (w : World) (hs : s.size ≤ 68719476736) :
    Calls Tryz.prog 27 #[.string s] w fun e w' => e = .returned (.string ⟨(Ch.htmlDec s.data.toList).toArray⟩) ∧ Below w.heap.size w w' := by
  obtain ⟨i0, hi, hz0, hz1, hz2⟩ := info_parts Kb.infoU8
  go_enter Tryz.func27, Tryz.ntmps27
  go_wp2
  go_loopw [3, 4] (fun v i wr => ∃ (k : Nat) (out : List UInt8), k ≤ s.size ∧ out.length ≤ k ∧ i = .int .i64 k ∧ wr.ownsRow w.heap.size 5 1 v out.length (cells out) ∧ Below w.heap.size w wr ∧ Cd.scan Ch.hs s.data.toList = out ++ Cd.scan Ch.hs (s.data.toList.drop k)) (fun _ i _ => s.size - (intOf i).toNat)
  case atStart => exact ⟨0, [], Nat.zero_le _, Nat.zero_le _, rfl, World.ownsRow_nil _ _ _ _, Below.refl _ _, by simp⟩
  case round =>
    obtain ⟨k, out, hk, hok, rfl, hown, hbel, hu⟩ := hrel
    have hB := hbel.size
    have HB := hide hbel
    have HU := hide hu
    have OWN := hide hown
    clear hbel hu hown
    by_cases hlt : k < s.size
    · have b3 : out.length + 1 ≤ maxLen := by unfold maxLen; omega
      have b4 : (out.length + 1) * 1 ≤ 140737488355328 := by omega
      have hne : s.data.toList.drop k ≠ [] := by rw [Kb.drop_cons s k hlt]; simp
      have HX := hide (htmlSign_any (s.extract k s.size) wr (by unfold maxLen; simp; omega) (by simp; omega))
      rw [Kb.extract_drop] at HX
      have hle := hs_le _ hne
      rcases hh : Ch.hs (s.data.toList.drop k) with ⟨c, j⟩
      rw [hh] at HX hle
      have HR := hide (scan_next (unhide HU) hne hh hle.1)
      have h3 : k + j ≤ s.size := by have := hle.2; simp at this; omega
      have hj1 : 1 ≤ j := hle.1
      clear hne hh hle
      change Hid (Calls _ _ _ _ fun e w' => e = .returned (.tuple #[.int .u8 c.toNat, .int .i64 j]) ∧ w' = wr) at HX
      go_wp2_with (first | (go_at_call 49; refine (unhide HX).mono ?_; rintro e wx ⟨rfl, rfl⟩) | (at_builtin; refine wpList_append_own _ rfl _ _ 36 rfl w.heap.size 5 i0 (.int .u8 0) 1 1 Tryz.underlying36 hi hz0 hz1 hz2 rfl (by decide) _ out.length (cells out) rfl ((unhide OWN).alloc _) _ 1 1 _ rfl rfl (cell_one_new _ _ _) (by simp [Value.oneCell']) b3 b4 (by simp; omega) ?_; intro v1 w1 own1 grow1 _))
      refine ⟨⟨k + j, out ++ [c], by omega, by simp; omega, by go_num, ?_, ((unhide HB).alloc hB _).grown grow1 (by simp; omega) (own_lt (unhide OWN)), unhide HR⟩, by simp [intOf]; omega⟩
      rw [List.length_append, cells_append]; exact own1
    · have hcv := own_string (unhide OWN)
      have HR := hide (scan_last (unhide HU) (Kb.drop_end s k (by omega)))
      go_wp2
      go_ret
      exact ⟨Kb.ret_str (by unfold Ch.htmlDec; rw [unhide HR]), unhide HB⟩
end Go.Proofs.YtkhbfdokkmebhaaGreatDoor
