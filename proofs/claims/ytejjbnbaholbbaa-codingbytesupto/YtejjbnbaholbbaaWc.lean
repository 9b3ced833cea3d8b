/- Walks of codes: unreserved, UrlEncode, hexByte, UrlDecode, HexEncode, HexDecode. -/
import Derived.Test.YtejjbnbaholbbaaKb
import Derived.Test.YtejjbnbaholbbaaCd
import Derived.Test.YtejjbnbaholbbaaWb
import Derived.Test.YtejjbnbaholbbaaShelf
namespace Go.Proofs.Ytejjbnbaholbbaa
open Go.RowKit Kb
set_option linter.unusedVariables false

theorem unres_nat (c : UInt8) : Cd.unres c = ((decide (97 ≤ c.toNat) && decide (c.toNat ≤ 122)) || (decide (65 ≤ c.toNat) && decide (c.toNat ≤ 90)) || (decide (48 ≤ c.toNat) && decide (c.toNat ≤ 57)) || decide (0 ≤ Lib.indexByte [45, 46, 95, 126] c)) := by
  have := Kb.u8_all (p := fun c => Cd.unres c == ((decide (97 ≤ c.toNat) && decide (c.toNat ≤ 122)) || (decide (65 ≤ c.toNat) && decide (c.toNat ≤ 90)) || (decide (48 ≤ c.toNat) && decide (c.toNat ≤ 57)) || decide (0 ≤ Lib.indexByte [45, 46, 95, 126] c))) (by decide +kernel) c
  simpa using this

set_option maxHeartbeats 1000000 in
theorem unres_any (c : UInt8) (w : World) :
    Calls Try.prog 23 #[.int .u8 c.toNat] w fun e w' => e = .returned (.bool (Cd.unres c)) ∧ w' = w := by
  have hc := c.toNat_lt
  have HT := hide (unres_nat c)
  have HI := hide (Try.strings_IndexByte ⟨#[45, 46, 95, 126]⟩ c.toNat w)
  rw [show ((c.toNat : Int).toNat.toUInt8) = c from by simp] at HI
  change Hid (Calls _ _ _ _ fun e w' => e = .returned (.int .i64 (Lib.indexByte [45, 46, 95, 126] c)) ∧ w' = w) at HI
  generalize Lib.indexByte [45, 46, 95, 126] c = i at *
  by_cases h1 : 97 ≤ c.toNat <;> by_cases h2 : c.toNat ≤ 122 <;> by_cases h3 : 65 ≤ c.toNat <;> by_cases h4 : c.toNat ≤ 90 <;> by_cases h5 : 48 ≤ c.toNat <;> by_cases h6 : c.toNat ≤ 57 <;> try omega
  all_goals
    go_enter Try.func23, Try.ntmps23
    go_wp2_with (go_at_call 32; refine (unhide HI).mono ?_; rintro e wx ⟨rfl, rfl⟩)
    go_ret
    refine ⟨Kb.ret_bool ?_, rfl⟩
    rw [unhide HT]
    first
      | (simp [h1, h2, h3, h4, h5, h6]; done)
      | (simp [h1, h2, h3, h4, h5, h6]; omega)
      | (simp [h1, h2, h3, h4, h5, h6, Int.not_le]; omega)

/-- what has been written of the first k bytes -/
def Fm (f : UInt8 → List UInt8) (s : ByteArray) (k : Nat) : List UInt8 := (s.data.toList.take k).flatMap f
theorem Fm_succ (f : UInt8 → List UInt8) (s : ByteArray) (k : Nat) (h : k < s.size) : Fm f s (k + 1) = Fm f s k ++ f s[k] := by
  unfold Fm; rw [Kb.take_snoc s k h]; simp
theorem Fm_all (f : UInt8 → List UInt8) (s : ByteArray) (k : Nat) (h : s.size ≤ k) : Fm f s k = s.data.toList.flatMap f := by
  unfold Fm; rw [Kb.take_all s k h]
theorem Fm_u (s : ByteArray) (k : Nat) : (Fm Cd.u1 s k).length ≤ 3 * k := by
  have := Cd.urlEnc_len (s.data.toList.take k); rw [List.length_take] at this; unfold Fm; unfold Cd.urlEnc at this; omega
theorem Fm_h (s : ByteArray) (k : Nat) : (Fm Cd.h1 s k).length ≤ 2 * k := by
  have := Cd.hexEnc_len (s.data.toList.take k); rw [List.length_take] at this; unfold Fm; unfold Cd.hexEnc at this; omega

theorem tab_hX : ∀ k : Fin 16, (({ data := #[48, 49, 50, 51, 52, 53, 54, 55, 56, 57, 65, 66, 67, 68, 69, 70] } : ByteArray)[k.1]'(k.2)) = Cd.hX (UInt8.ofNat k.1) := by decide
theorem tab_atX (z : Int) (k : UInt8) (hz : z = k.toNat) (hb : z.toNat < 16) : (({ data := #[48, 49, 50, 51, 52, 53, 54, 55, 56, 57, 65, 66, 67, 68, 69, 70] } : ByteArray)[z.toNat]'hb) = Cd.hX k := by
  subst hz
  have := tab_hX ⟨k.toNat, by simpa using hb⟩
  simpa using this
theorem tab_hs : ∀ k : Fin 16, (({ data := #[48, 49, 50, 51, 52, 53, 54, 55, 56, 57, 97, 98, 99, 100, 101, 102] } : ByteArray)[k.1]'(k.2)) = Qt.hx (UInt8.ofNat k.1) := by decide
theorem tab_ats (z : Int) (k : UInt8) (hz : z = k.toNat) (hb : z.toNat < 16) : (({ data := #[48, 49, 50, 51, 52, 53, 54, 55, 56, 57, 97, 98, 99, 100, 101, 102] } : ByteArray)[z.toNat]'hb) = Qt.hx k := by
  subst hz
  have := tab_hs ⟨k.toNat, by simpa using hb⟩
  simpa using this
theorem own_pct {c : UInt8} (hu : Cd.unres c = false) (h32 : ¬ c.toNat = 32) (p1 : ((c.toNat : Int) / 16).toNat < 16) (p2 : ((c.toNat : Int) % 16).toNat < 16) :
    [Value.int .u8 37, Value.int .u8 ((({ data := #[48, 49, 50, 51, 52, 53, 54, 55, 56, 57, 65, 66, 67, 68, 69, 70] } : ByteArray)[((c.toNat : Int) / 16).toNat]'p1).toNat : Int),
      Value.int .u8 ((({ data := #[48, 49, 50, 51, 52, 53, 54, 55, 56, 57, 65, 66, 67, 68, 69, 70] } : ByteArray)[((c.toNat : Int) % 16).toNat]'p2).toNat : Int)] = cells (Cd.u1 c) ∧ (Cd.u1 c).length = 3 := by
  have e : Cd.u1 c = [37, Cd.hX (c / 16), Cd.hX (c % 16)] := by
    unfold Cd.u1; rw [if_neg (by simp [hu]), if_neg (show c ≠ 32 from Kb.ne_of_nat (by decide) h32)]
  rw [e, tab_atX _ (c / 16) (by simp) p1, tab_atX _ (c % 16) (by simp) p2]
  exact ⟨rfl, rfl⟩
theorem own_hx {c : UInt8} (p1 : ((c.toNat : Int) / 16).toNat < 16) (p2 : ((c.toNat : Int) % 16).toNat < 16) :
    [Value.int .u8 ((({ data := #[48, 49, 50, 51, 52, 53, 54, 55, 56, 57, 97, 98, 99, 100, 101, 102] } : ByteArray)[((c.toNat : Int) / 16).toNat]'p1).toNat : Int),
      Value.int .u8 ((({ data := #[48, 49, 50, 51, 52, 53, 54, 55, 56, 57, 97, 98, 99, 100, 101, 102] } : ByteArray)[((c.toNat : Int) % 16).toNat]'p2).toNat : Int)] = cells (Cd.h1 c) ∧ (Cd.h1 c).length = 2 := by
  rw [tab_ats _ (c / 16) (by simp) p1, tab_ats _ (c % 16) (by simp) p2]
  exact ⟨rfl, rfl⟩

theorem u1_blank {c : UInt8} (h : c.toNat = 32) : Cd.u1 c = [43] := by
  have : c = 32 := UInt8.toNat_inj.1 h
  subst this; decide

set_option maxHeartbeats 2000000 in
theorem urlEncode_any (s : ByteArray) (w : World) (hs : s.size ≤ 68719476736) :
    Calls Try.prog 8 #[.string s] w fun e w' => e = .returned (.string ⟨(Cd.urlEnc s.data.toList).toArray⟩) ∧ Below w.heap.size w w' := by
  obtain ⟨i0, hi, hz0, hz1, hz2⟩ := info_parts Kb.infoU8
  go_enter Try.func8, Try.ntmps8
  go_wp2
  go_loopw [3, 8] (fun v i wr => ∃ k : Nat, k ≤ s.size ∧ i = .int .i64 k ∧ wr.ownsRow w.heap.size 5 1 v (Fm Cd.u1 s k).length (cells (Fm Cd.u1 s k)) ∧ Below w.heap.size w wr) (fun _ i _ => s.size - (intOf i).toNat)
  case atStart => exact ⟨0, Nat.zero_le _, rfl, World.ownsRow_nil _ _ _ _, Below.refl _ _⟩
  case round =>

    obtain ⟨k, hk, rfl, hown, hbel⟩ := hrel
    have hB := hbel.size
    have hq := Fm_u s k
    have OWN := hide hown
    have HB := hide hbel
    clear hown hbel
    by_cases hlt : k < s.size
    · have HS := hide (Fm_succ Cd.u1 s k hlt)
      have hc := s[k].toNat_lt
      obtain ⟨n, hn⟩ : ∃ n, (Fm Cd.u1 s k).length = n := ⟨_, rfl⟩
      rw [hn] at OWN hq
      have HN := hide hn
      clear hn
      have b3 : n + 1 ≤ maxLen := by unfold maxLen; omega
      have b4 : (n + 1) * 1 ≤ 140737488355328 := by omega
      rcases hu : Cd.unres s[k] with _ | _
      · have HU := hide (unres_any s[k] wr)
        rw [hu] at HU
        by_cases h32 : s[k].toNat = 32
        · have HE : Hid (Cd.u1 s[k] = [43]) := hide (u1_blank h32)
          have h32' : ((s[k].toNat : Int) == 32) = true := by rw [h32]; rfl
          clear hu h32
          go_wp2_with (first | (go_at_call 23; refine (unhide HU).mono ?_; rintro e wx ⟨rfl, rfl⟩) | (at_builtin; refine wpList_append_own _ rfl _ _ 29 rfl w.heap.size 5 i0 (.int .u8 0) 1 1 Try.underlying29 hi hz0 hz1 hz2 rfl (by decide) _ n (cells (Fm Cd.u1 s k)) rfl ((unhide OWN).alloc _) _ 1 1 _ rfl rfl (cell_one_new _ _ _) (by simp [Value.oneCell']) b3 b4 (by simp; omega) ?_; intro v1 w1 own1 grow1 _))
          refine ⟨⟨k + 1, by omega, by go_num, ?_, ((unhide HB).alloc hB _).grown grow1 (by simp; omega) (own_lt (unhide OWN))⟩, by simp [intOf]; omega⟩
          rw [unhide HS, unhide HE, cells_append, List.length_append, unhide HN]; exact own1
        · have HE := hide (@own_pct s[k] hu h32)
          have h32' : ((s[k].toNat : Int) == 32) = false := by rw [beq_eq_false_iff_ne]; omega
          clear hu h32
          have hq : 0 ≤ (s[k].toNat : Int) / 16 ∧ (s[k].toNat : Int) / 16 < 16 := by omega
          have hr : 0 ≤ (s[k].toNat : Int) % 16 ∧ (s[k].toNat : Int) % 16 < 16 := by omega
          have hand := Kb.and15 s[k]
          go_wp2_with (go_at_call 23; refine (unhide HU).mono ?_; rintro e wx ⟨rfl, rfl⟩)
          go_region_law (refine Kb.step_append_owned rfl (.tmp 14) (.tmp 21) 29 rfl w.heap.size 5 i0 (.int .u8 0) 1 1 Try.underlying29 hi hz0 hz1 hz2 rfl (by decide) _ n (cells (Fm Cd.u1 s k)) rfl ((unhide OWN).drew.alloc _) _ 3 3 _ rfl rfl (cell_three_new _ _ _ _ _) (by simp [Value.oneCell']) (by unfold maxLen; omega) (by omega) (by simp; omega) ?_; intro v1 w1 own1 grow1)
          all_goals
            go_wp2
            obtain ⟨q1, q2⟩ := (unhide HE) (by omega) (by omega)
            refine ⟨⟨k + 1, by omega, by go_num, ?_, (((unhide HB).alloc hB _).drew).grown grow1 (by simp; omega) (own_lt (unhide OWN))⟩, by simp [intOf]; omega⟩
            rw [unhide HS, cells_append, List.length_append, unhide HN, q2, ← q1]; exact own1
      · have HU := hide (unres_any s[k] wr)
        rw [hu] at HU
        have HE : Hid (Cd.u1 s[k] = [s[k]]) := hide (by unfold Cd.u1; rw [if_pos hu])
        clear hu
        go_wp2_with (first | (go_at_call 23; refine (unhide HU).mono ?_; rintro e wx ⟨rfl, rfl⟩) | (at_builtin; refine wpList_append_own _ rfl _ _ 29 rfl w.heap.size 5 i0 (.int .u8 0) 1 1 Try.underlying29 hi hz0 hz1 hz2 rfl (by decide) _ n (cells (Fm Cd.u1 s k)) rfl ((unhide OWN).alloc _) _ 1 1 _ rfl rfl (cell_one_new _ _ _) (by simp [Value.oneCell']) b3 b4 (by simp; omega) ?_; intro v1 w1 own1 grow1 _))
        refine ⟨⟨k + 1, by omega, by go_num, ?_, ((unhide HB).alloc hB _).grown grow1 (by simp; omega) (own_lt (unhide OWN))⟩, by simp [intOf]; omega⟩
        rw [unhide HS, unhide HE, cells_append, List.length_append, unhide HN]; exact own1
    · have hcv := own_string (unhide OWN)
      have HE := hide (Fm_all Cd.u1 s k (by omega))
      go_wp2
      go_ret
      exact ⟨Kb.ret_str (by rw [unhide HE]; rfl), unhide HB⟩

set_option maxHeartbeats 2000000 in
theorem hexEncode_any (s : ByteArray) (w : World) (hs : s.size ≤ 68719476736) :
    Calls Try.prog 18 #[.string s] w fun e w' => e = .returned (.string ⟨(Cd.hexEnc s.data.toList).toArray⟩) ∧ Below w.heap.size w w' := by
  obtain ⟨i0, hi, hz0, hz1, hz2⟩ := info_parts Kb.infoU8
  go_enter Try.func18, Try.ntmps18
  go_wp2
  go_loopw [3, 7] (fun v i wr => ∃ k : Nat, k ≤ s.size ∧ i = .int .i64 k ∧ wr.ownsRow w.heap.size 5 1 v (Fm Cd.h1 s k).length (cells (Fm Cd.h1 s k)) ∧ Below w.heap.size w wr) (fun _ i _ => s.size - (intOf i).toNat)
  case atStart => exact ⟨0, Nat.zero_le _, rfl, World.ownsRow_nil _ _ _ _, Below.refl _ _⟩
  case round =>

    obtain ⟨k, hk, rfl, hown, hbel⟩ := hrel
    have hB := hbel.size
    have hq := Fm_h s k
    have OWN := hide hown
    have HB := hide hbel
    clear hown hbel
    by_cases hlt : k < s.size
    · have HS := hide (Fm_succ Cd.h1 s k hlt)
      obtain ⟨c, hcs⟩ : ∃ c, s[k] = c := ⟨_, rfl⟩
      have hc := c.toNat_lt
      rw [hcs] at HS
      have hcs' : s[(k : Int).toNat]'(by omega) = c := hcs
      obtain ⟨n, hn⟩ : ∃ n, (Fm Cd.h1 s k).length = n := ⟨_, rfl⟩
      rw [hn] at OWN hq
      have HN := hide hn
      clear hn
      have HE := hide (@own_hx c)
      have hq2 : 0 ≤ (c.toNat : Int) / 16 ∧ (c.toNat : Int) / 16 < 16 := by omega
      have hr : 0 ≤ (c.toNat : Int) % 16 ∧ (c.toNat : Int) % 16 < 16 := by omega
      have hki : 0 ≤ (k : Int) ∧ (k : Int) < (s.size : Int) := by omega
      have hand := Kb.and15 c
      go_wp2
      go_region_law (refine Kb.step_append_owned rfl (.tmp 10) (.tmp 21) 29 rfl w.heap.size 5 i0 (.int .u8 0) 1 1 Try.underlying29 hi hz0 hz1 hz2 rfl (by decide) _ n (cells (Fm Cd.h1 s k)) rfl ((unhide OWN).drew.alloc _) _ 2 2 _ rfl rfl (cell_two_new _ _ _ _) (by simp [Value.oneCell']) (by unfold maxLen; omega) (by omega) (by simp; omega) ?_; intro v1 w1 own1 grow1)
      all_goals
        go_wp2
        obtain ⟨q1, q2⟩ := (unhide HE) (by omega) (by omega)
        refine ⟨⟨k + 1, by omega, by go_num, ?_, (((unhide HB).alloc hB _).drew).grown grow1 (by simp; omega) (own_lt (unhide OWN))⟩, by simp [intOf]; omega⟩
        rw [unhide HS, cells_append, List.length_append, unhide HN, q2, ← q1]; exact own1
    · have hcv := own_string (unhide OWN)
      have HE := hide (Fm_all Cd.h1 s k (by omega))
      go_wp2
      go_ret
      exact ⟨Kb.ret_str (by rw [unhide HE]; rfl), unhide HB⟩

/-- the byte that two digits write -/
def hb : List UInt8 → Option UInt8
  | x :: y :: _ => match Cd.dv x, Cd.dv y with
    | some p, some q => some (p * 16 + q)
    | _, _ => none
  | _ => none
def hbV (l : List UInt8) : Int := match hb l with | some c => c.toNat | none => 0
def hbB (l : List UInt8) : Bool := (hb l).isSome
theorem dig_dv (x : UInt8) : Num.dig x.toNat = match Cd.dv x with | some p => (p.toNat : Int) | none => -1 := by
  have := Kb.u8_all (p := fun x => Num.dig x.toNat == match Cd.dv x with | some p => (p.toNat : Int) | none => -1) (by decide +kernel) x
  simpa using this
theorem dv_lt {x p : UInt8} (h : Cd.dv x = some p) : p.toNat < 16 := by
  have := Kb.u8_all (p := fun x => match Cd.dv x with | some p => decide (p.toNat < 16) | none => true) (by decide +kernel) x
  simpa [h] using this
theorem pq8 {p q : UInt8} (hp : p.toNat < 16) (hq : q.toNat < 16) : (p * 16 + q : UInt8).toNat = p.toNat * 16 + q.toNat := by
  have : ∀ a b : Fin 16, (UInt8.ofNat a.1 * 16 + UInt8.ofNat b.1 : UInt8).toNat = a.1 * 16 + b.1 := by decide +kernel
  have h2 := this ⟨p.toNat, hp⟩ ⟨q.toNat, hq⟩
  simp only [UInt8.ofNat_toNat] at h2
  exact h2
theorem ans2 (x y : UInt8) : Num.ans 16 7 [x, y] = match hb [x, y] with | some c => ((c.toNat : Int), 0) | none => (0, 4) := by
  have dx := dig_dv x
  have dy := dig_dv y
  unfold Num.ans Num.num
  rw [if_neg (by simp)]
  simp only [List.foldl_cons, List.foldl_nil, Num.step, hb]
  cases hx : Cd.dv x with
  | none => rw [hx] at dx; simp only at dx; simp [dx]
  | some p =>
    have p16 := dv_lt hx
    rw [hx] at dx; simp only at dx
    rw [dx, if_neg (by omega)]
    cases hy : Cd.dv y with
    | none => rw [hy] at dy; simp only at dy; simp [dy]
    | some q =>
      have q16 := dv_lt hy
      rw [hy] at dy; simp only at dy
      simp only
      rw [dy, if_neg (by omega), pq8 p16 q16]
      simp
theorem hb_ans (l : List UInt8) (h : 2 ≤ l.length) : Num.ans 16 7 (l.take 2) = (hbV l, if hbB l then 0 else 4) := by
  match l, h with
  | x :: y :: r, _ =>
    show Num.ans 16 7 [x, y] = _
    rw [ans2]
    have e : hb (x :: y :: r) = hb [x, y] := rfl
    unfold hbV hbB
    rw [e]
    cases hb [x, y] <;> rfl
theorem hbV_lt (l : List UInt8) : 0 ≤ hbV l ∧ hbV l < 256 := by
  unfold hbV; split
  · rename_i c _; have := c.toNat_lt; omega
  · omega

set_option maxHeartbeats 1000000 in
theorem hexByte_any (s : ByteArray) (w : World) (hs : s.size ≤ maxLen) :
    Calls Try.prog 26 #[.string s] w fun e w' => e = .returned (.tuple #[.int .u8 (hbV s.data.toList), .bool (hbB s.data.toList)]) ∧ w' = w := by
  unfold maxLen at hs
  by_cases h2 : s.size < 2
  · have HR : Hid (hbV s.data.toList = 0 ∧ hbB s.data.toList = false) := hide (by
      have hl : s.data.toList.length = s.size := by simp
      match hm : s.data.toList, hl with
      | [], _ => exact ⟨rfl, rfl⟩
      | [_], _ => exact ⟨rfl, rfl⟩
      | _ :: _ :: _, hl => simp at hl; omega)
    go_enter Try.func26, Try.ntmps26
    go_wp2
    go_ret2
    exact ⟨Kb.ret_int_bool (by rw [(unhide HR).1]) (by rw [(unhide HR).2]), rfl⟩
  · have HH := hide (hex_any (s.extract 0 2) w (by unfold maxLen; simp; omega))
    have e2 : (s.extract 0 2).data.toList = s.data.toList.take 2 := by rw [Lib.extract_data]; rfl
    rw [e2, hb_ans _ (by simp; omega)] at HH
    clear e2
    have hv := hbV_lt s.data.toList
    have hw : IntKind.u8.wrap (hbV s.data.toList) = hbV s.data.toList := by simp [IntKind.wrap, IntKind.signed, IntKind.bits]; omega
    generalize hbV s.data.toList = v at *
    rcases hbl : hbB s.data.toList with _ | _
    all_goals
      rw [hbl] at HH
      go_enter Try.func26, Try.ntmps26
      go_wp2_with (go_at_call 40; refine (unhide HH).mono ?_; rintro e wx ⟨rfl, rfl⟩)
      go_ret2
      exact ⟨Kb.ret_int_bool (by omega) rfl, rfl⟩
end Go.Proofs.Ytejjbnbaholbbaa
