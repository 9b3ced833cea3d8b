/- Walks of the program's white, Squeeze, without, NoNull, Cmd. -/
import Derived.Test.YtkhbfdokkmebhaaGreatDoorKc
import Derived.Test.YtkhbfdokkmebhaaGreatDoorKb
import Derived.Test.YtkhbfdokkmebhaaGreatDoorCq
import Derived.Test.YtkhbfdokkmebhaaGreatDoorWl
import Derived.Test.YtkhbfdokkmebhaaGreatDoorShelf
namespace Go.Proofs.YtkhbfdokkmebhaaGreatDoor
open Go.RowKit Kb
set_option linter.unusedVariables false
set_option maxRecDepth 20000

set_option maxHeartbeats 1000000 in
theorem white_any (c : UInt8) (w : World) :
    Calls Tryz.prog 55 #[.int .u8 c.toNat] w fun e w' => e = .returned (.bool (Cq.wh c)) ∧ w' = w := by
  have hc := c.toNat_lt
  have HT : Hid (Cq.wh c = (decide (9 ≤ c.toNat) && decide (c.toNat ≤ 13) || decide (c.toNat = 32))) := hide (by
    unfold Cq.wh
    have : (c == 32) = decide (c.toNat = 32) := by
      have := Kb.u8_all (p := fun c => (c == 32) == decide (c.toNat = 32)) (by decide +kernel) c
      simpa using this
    rw [this]; simp)
  by_cases h1 : 9 ≤ c.toNat <;> by_cases h2 : c.toNat ≤ 13 <;> by_cases h3 : c.toNat = 32 <;> try omega
  all_goals
    first | have h3' : ((c.toNat : Int) == 32) = true := (by rw [h3]; rfl) | have h3' : ((c.toNat : Int) == 32) = false := (by rw [beq_eq_false_iff_ne]; omega)
    go_enter Tryz.func55, Tryz.ntmps55
    go_wp2
    go_ret
    refine ⟨Kb.ret_bool ?_, rfl⟩
    rw [unhide HT]
    first
      | (simp [h1, h2, h3]; done)
      | (simp [h1, h2, h3]; omega)

def Sq (s : ByteArray) (k : Nat) : List UInt8 := Cq.sqz false (s.data.toList.take k)
def Sw (s : ByteArray) (k : Nat) : Bool := Cq.lastW false (s.data.toList.take k)
theorem Sq_succ (s : ByteArray) (k : Nat) (h : k < s.size) : Sq s (k + 1) = Sq s k ++ (if Cq.wh s[k] then (if Sw s k then [] else [32]) else [s[k]]) := by
  unfold Sq Sw; rw [Kb.take_snoc s k h, Cq.sqz_snoc]
theorem Sw_succ (s : ByteArray) (k : Nat) (h : k < s.size) : Sw s (k + 1) = Cq.wh s[k] := by
  unfold Sw; rw [Kb.take_snoc s k h, Cq.lastW_snoc]
theorem Sq_len (s : ByteArray) (k : Nat) : (Sq s k).length ≤ k := by
  have := Cq.sqz_len (s.data.toList.take k) false; rw [List.length_take] at this; unfold Sq; omega
theorem Sq_all (s : ByteArray) (k : Nat) (h : s.size ≤ k) : Sq s k = Cq.sqz false s.data.toList := by
  unfold Sq; rw [Kb.take_all s k h]

set_option maxHeartbeats 2000000 in
theorem squeeze_any (s : ByteArray) (w : World) (hs : s.size ≤ 68719476736) :
    Calls Tryz.prog 29 #[.string s] w fun e w' => e = .returned (.string ⟨(Cq.sqz false s.data.toList).toArray⟩) ∧ Below w.heap.size w w' := by
  obtain ⟨i0, hi, hz0, hz1, hz2⟩ := info_parts Kb.infoU8
  go_enter Tryz.func29, Tryz.ntmps29
  go_wp2
  go_loopw [3, 4, 9] (fun v r i wr => ∃ k : Nat, k ≤ s.size ∧ i = .int .i64 k ∧ r = .bool (Sw s k) ∧ wr.ownsRow w.heap.size 5 1 v (Sq s k).length (cells (Sq s k)) ∧ Below w.heap.size w wr) (fun _ _ i _ => s.size - (intOf i).toNat)
  case atStart => exact ⟨0, Nat.zero_le _, rfl, rfl, World.ownsRow_nil _ _ _ _, Below.refl _ _⟩
  case round =>
    obtain ⟨k, hk, rfl, rfl, hown, hbel⟩ := hrel
    have hB := hbel.size
    have hq := Sq_len s k
    have OWN := hide hown
    have HB := hide hbel
    clear hown hbel
    by_cases hlt : k < s.size
    · have HS := hide (Sq_succ s k hlt)
      have HW := hide (Sw_succ s k hlt)
      have hc := s[k].toNat_lt
      obtain ⟨n, hn⟩ : ∃ n, (Sq s k).length = n := ⟨_, rfl⟩
      rw [hn] at OWN hq
      have HN := hide hn
      clear hn
      have b3 : n + 1 ≤ maxLen := by unfold maxLen; omega
      have b4 : (n + 1) * 1 ≤ 140737488355328 := by omega
      have HU := hide (fun W => white_any s[k] W)
      rcases hu : Cq.wh s[k] with _ | _
      · rw [hu] at HU HS HW
        go_wp2_with (first | (go_at_call 55; refine ((unhide HU) _).mono ?_; rintro e wx ⟨rfl, hwx⟩; rw [hwx]; clear hwx wx) | (at_builtin; refine wpList_append_own _ rfl _ _ 36 rfl w.heap.size 5 i0 (.int .u8 0) 1 1 Tryz.underlying36 hi hz0 hz1 hz2 rfl (by decide) _ n (cells (Sq s k)) rfl ((unhide OWN).alloc _) _ 1 1 _ rfl rfl (cell_one_new _ _ _) (by simp [Value.oneCell']) b3 b4 (by simp; omega) ?_; intro v1 w1 own1 grow1 _))
        refine ⟨⟨k + 1, by omega, by go_num, by rw [unhide HW], ?_, ((unhide HB).alloc hB _).grown grow1 (by simp; omega) (own_lt (unhide OWN))⟩, by simp [intOf]; omega⟩
        rw [unhide HS, if_neg (by decide), cells_append, List.length_append, unhide HN]; exact own1
      · rw [hu] at HU HS HW
        rcases hr : Sw s k with _ | _
        · rw [hr] at HS
          go_wp2_with (first | (go_at_call 55; refine ((unhide HU) _).mono ?_; rintro e wx ⟨rfl, hwx⟩; rw [hwx]; clear hwx wx) | (at_builtin; refine wpList_append_own _ rfl _ _ 36 rfl w.heap.size 5 i0 (.int .u8 0) 1 1 Tryz.underlying36 hi hz0 hz1 hz2 rfl (by decide) _ n (cells (Sq s k)) rfl ((unhide OWN).alloc _) _ 1 1 _ rfl rfl (cell_one_new _ _ _) (by simp [Value.oneCell']) b3 b4 (by simp; omega) ?_; intro v1 w1 own1 grow1 _))
          refine ⟨⟨k + 1, by omega, by go_num, by rw [unhide HW], ?_, ((unhide HB).alloc hB _).grown grow1 (by simp; omega) (own_lt (unhide OWN))⟩, by simp [intOf]; omega⟩
          rw [unhide HS, if_pos trivial, if_neg (by decide), cells_append, List.length_append, unhide HN]; exact own1
        · rw [hr] at HS
          go_wp2_with (go_at_call 55; refine ((unhide HU) _).mono ?_; rintro e wx ⟨rfl, hwx⟩; rw [hwx]; clear hwx wx)
          refine ⟨⟨k + 1, by omega, by go_num, by rw [unhide HW], ?_, unhide HB⟩, by simp [intOf]; omega⟩
          rw [unhide HS, if_pos trivial, if_pos trivial, List.append_nil, unhide HN]; exact unhide OWN
    · have hcv := own_string (unhide OWN)
      have HE := hide (Sq_all s k (by omega))
      go_wp2
      go_ret
      exact ⟨Kb.ret_str (by rw [unhide HE]), unhide HB⟩

def Wo (bs : List UInt8) (s : ByteArray) (k : Nat) : List UInt8 := Cq.wo bs (s.data.toList.take k)
theorem Wo_succ (bs : List UInt8) (s : ByteArray) (k : Nat) (h : k < s.size) : Wo bs s (k + 1) = Wo bs s k ++ (if bs.contains s[k] then [] else [s[k]]) := by
  unfold Wo; rw [Kb.take_snoc s k h, Cq.wo_snoc]
theorem Wo_len (bs : List UInt8) (s : ByteArray) (k : Nat) : (Wo bs s k).length ≤ k := by
  have := Cq.wo_len bs (s.data.toList.take k); rw [List.length_take] at this; unfold Wo; omega
theorem Wo_all (bs : List UInt8) (s : ByteArray) (k : Nat) (h : s.size ≤ k) : Wo bs s k = Cq.wo bs s.data.toList := by
  unfold Wo; rw [Kb.take_all s k h]
theorem ib_has : ∀ (l : List UInt8) (c : UInt8), (Lib.indexByte l c < 0) ↔ l.contains c = false
  | [], c => by simp [Lib.indexByte]
  | b :: l, c => by
    have ih := ib_has l c
    have hg := Lib.indexByte_ge l c
    have e : (b :: l).contains c = (c == b || l.contains c) := by rw [List.contains_cons]
    rw [Lib.indexByte, e]
    by_cases h : b = c
    · subst h; simp
    · rw [if_neg (by simpa using h), beq_false_of_ne (Ne.symm h), Bool.false_or, ← ih]
      split
      · rename_i h2
        have := beq_iff_eq.1 h2
        omega
      · rename_i h2
        have : ¬ Lib.indexByte l c = -1 := fun e => h2 (beq_iff_eq.2 e)
        omega

set_option maxHeartbeats 2000000 in
theorem without_any (s t : ByteArray) (w : World) (hs : s.size ≤ 68719476736) :
    Calls Tryz.prog 56 #[.string s, .string t] w fun e w' => e = .returned (.string ⟨(Cq.wo t.data.toList s.data.toList).toArray⟩) ∧ Below w.heap.size w w' := by
  obtain ⟨i0, hi, hz0, hz1, hz2⟩ := info_parts Kb.infoU8
  go_enter Tryz.func56, Tryz.ntmps56
  go_wp2
  go_loopw [5, 9] (fun v i wr => ∃ k : Nat, k ≤ s.size ∧ i = .int .i64 k ∧ wr.ownsRow w.heap.size 5 1 v (Wo t.data.toList s k).length (cells (Wo t.data.toList s k)) ∧ Below w.heap.size w wr) (fun _ i _ => s.size - (intOf i).toNat)
  case atStart => exact ⟨0, Nat.zero_le _, rfl, World.ownsRow_nil _ _ _ _, Below.refl _ _⟩
  case round =>
    obtain ⟨k, hk, rfl, hown, hbel⟩ := hrel
    have hB := hbel.size
    have hq := Wo_len t.data.toList s k
    have OWN := hide hown
    have HB := hide hbel
    clear hown hbel
    by_cases hlt : k < s.size
    · have HS := hide (Wo_succ t.data.toList s k hlt)
      have hc := s[k].toNat_lt
      obtain ⟨n, hn⟩ : ∃ n, (Wo t.data.toList s k).length = n := ⟨_, rfl⟩
      rw [hn] at OWN hq
      have HN := hide hn
      clear hn
      have b3 : n + 1 ≤ maxLen := by unfold maxLen; omega
      have b4 : (n + 1) * 1 ≤ 140737488355328 := by omega
      have HI := hide (Tryz.strings_IndexByte t s[k].toNat wr)
      rw [show ((s[k].toNat : Int).toNat.toUInt8) = s[k] from by simp] at HI
      change Hid (Calls _ _ _ _ fun e w' => e = .returned (.int .i64 (Lib.indexByte t.data.toList s[k])) ∧ w' = wr) at HI
      have hib := ib_has t.data.toList s[k]
      generalize Lib.indexByte t.data.toList s[k] = i at *
      rcases hu : t.data.toList.contains s[k] with _ | _
      · rw [hu] at HS hib
        have hneg : i < 0 := hib.2 rfl
        clear hib hu
        go_wp2_with (first | (go_at_call 48; refine (unhide HI).mono ?_; rintro e wx ⟨rfl, hwx⟩; rw [hwx]; clear hwx wx) | (at_builtin; refine wpList_append_own _ rfl _ _ 36 rfl w.heap.size 5 i0 (.int .u8 0) 1 1 Tryz.underlying36 hi hz0 hz1 hz2 rfl (by decide) _ n (cells (Wo t.data.toList s k)) rfl ((unhide OWN).alloc _) _ 1 1 _ rfl rfl (cell_one_new _ _ _) (by simp [Value.oneCell']) b3 b4 (by simp; omega) ?_; intro v1 w1 own1 grow1 _))
        refine ⟨⟨k + 1, by omega, by go_num, ?_, ((unhide HB).alloc hB _).grown grow1 (by simp; omega) (own_lt (unhide OWN))⟩, by simp [intOf]; omega⟩
        rw [unhide HS, if_neg (by decide), cells_append, List.length_append, unhide HN]; exact own1
      · rw [hu] at HS hib
        have hneg : 0 ≤ i := Int.not_lt.1 fun h => by cases hib.1 h
        clear hib hu
        go_wp2_with (go_at_call 48; refine (unhide HI).mono ?_; rintro e wx ⟨rfl, hwx⟩; rw [hwx]; clear hwx wx)
        refine ⟨⟨k + 1, by omega, by go_num, ?_, unhide HB⟩, by simp [intOf]; omega⟩
        rw [unhide HS, if_pos trivial, List.append_nil, unhide HN]; exact unhide OWN
    · have hcv := own_string (unhide OWN)
      have HE := hide (Wo_all t.data.toList s k (by omega))
      go_wp2
      go_ret
      exact ⟨Kb.ret_str (by rw [unhide HE]), unhide HB⟩

theorem nonull_any (s : ByteArray) (w : World) (hs : s.size ≤ 68719476736) :
    Calls Tryz.prog 30 #[.string s] w fun e w' => e = .returned (.string ⟨(Cq.wo [0] s.data.toList).toArray⟩) ∧ Below w.heap.size w w' := by
  have H := hide (without_any s ⟨#[0]⟩ w hs)
  go_enter Tryz.func30, Tryz.ntmps30
  go_wp2_with fail
  refine (unhide H).mono ?_; rintro e w1 ⟨rfl, b1⟩
  go_wp2_with fail
  go_ret
  exact ⟨rfl, b1⟩

theorem max_below {w w' : World} {m : Int} (h : w.cell? ⟨1, 0, none⟩ = some (.int .i64 m)) (hb : Below w.heap.size w w') : w'.cell? ⟨1, 0, none⟩ = some (.int .i64 m) :=
  (hb.cell (World.block_lt_of_cell? _ _ h)).trans h

theorem sq_at (s q : ByteArray) (hq : q.data.toList = Cq.sqz false s.data.toList) (hs : s.size ≤ 68719476736) (w : World) :
    Calls Tryz.prog 29 #[.string s] w fun e w' => e = .returned (.string q) ∧ Below w.heap.size w w' := by
  have := squeeze_any s w hs; rwa [back_list q _ hq] at this
theorem wo_at (s t q : ByteArray) (hq : q.data.toList = Cq.wo t.data.toList s.data.toList) (hs : s.size ≤ 68719476736) (w : World) :
    Calls Tryz.prog 56 #[.string s, .string t] w fun e w' => e = .returned (.string q) ∧ Below w.heap.size w w' := by
  have := without_any s t w hs; rwa [back_list q _ hq] at this
theorem nn_at (s q : ByteArray) (hq : q.data.toList = Cq.wo [0] s.data.toList) (hs : s.size ≤ 68719476736) (w : World) :
    Calls Tryz.prog 30 #[.string s] w fun e w' => e = .returned (.string q) ∧ Below w.heap.size w w' := by
  have := nonull_any s w hs; rwa [back_list q _ hq] at this
theorem low_at (s q : ByteArray) (hq : q.data.toList = lower s.data.toList) (hs : s.size ≤ 68719476736) (w : World) :
    Calls Tryz.prog 22 #[.string s] w fun e w' => e = .returned (.string q) ∧ Below w.heap.size w w' := by
  have := lower_any s w (by omega); rwa [back_list q _ hq] at this
theorem ra_at (s old new q : ByteArray) (hq : q.data.toList = Lib.replaceAll s.data.toList old.data.toList new.data.toList) (hs : s.size ≤ 4294960000) (h1 : 1 ≤ old.size) (hn : new.size = 1) (m : Int) (w : World) (hm : w.cell? ⟨1, 0, none⟩ = some (.int .i64 m)) :
    Calls Tryz.prog 58 #[.string s, .string old, .string new] w fun e w' => e = .returned (.string q) ∧ Below w.heap.size w w' := by
  have hle := Lib.countB_le old h1 s.size s (Nat.le_refl _)
  have := Tryz.strings_ReplaceAll s old new m w (by omega) hm h1 (by rw [hn]; omega)
  rwa [back_list q _ hq] at this

set_option maxHeartbeats 1000000 in
theorem cmd_at (s q : ByteArray) (hq : q.data.toList = Cq.cmd s.data.toList) (hs : s.size ≤ 4294960000) (m : Int) (w : World) (hm : w.cell? ⟨1, 0, none⟩ = some (.int .i64 m)) :
    Calls Tryz.prog 32 #[.string s] w fun e w' => e = .returned (.string q) ∧ Below w.heap.size w w' := by
  obtain ⟨a, ha⟩ := ex_list (Cq.wo Cq.hid s.data.toList)
  obtain ⟨b, hb⟩ := ex_list (a.data.toList.map (Cq.sub1 44 32))
  obtain ⟨c, hc⟩ := ex_list (b.data.toList.map (Cq.sub1 59 32))
  obtain ⟨d, hd⟩ := ex_list (Cq.sqz false c.data.toList)
  obtain ⟨f, hf⟩ := ex_list (Cq.rm (· == 47) d.data.toList)
  obtain ⟨g, hg⟩ := ex_list (Cq.rm (· == 40) f.data.toList)
  have la : a.size ≤ s.size := by have := Cq.wo_len Cq.hid s.data.toList; rwa [← ha, len_data, len_data] at this
  have lb : b.size = a.size := by have := congrArg List.length hb; rwa [List.length_map, len_data, len_data] at this
  have lc : c.size = b.size := by have := congrArg List.length hc; rwa [List.length_map, len_data, len_data] at this
  have ld : d.size ≤ c.size := by have := Cq.sqz_len c.data.toList false; rwa [← hd, len_data, len_data] at this
  have lf : f.size ≤ d.size := by have := Cq.rm_len (· == 47) d.data.toList; rwa [← hf, len_data, len_data] at this
  have lg : g.size ≤ f.size := by have := Cq.rm_len (· == 40) f.data.toList; rwa [← hg, len_data, len_data] at this
  have H1 := hide (wo_at s ⟨#[92, 34, 39, 94]⟩ a ha (by omega))
  have H2 := hide (ra_at a ⟨#[44]⟩ ⟨#[32]⟩ b (by rw [hb]; exact (Cq.replace_one 44 32 (by decide) _).symm) (by omega) (by decide) rfl m)
  have H3 := hide (ra_at b ⟨#[59]⟩ ⟨#[32]⟩ c (by rw [hc]; exact (Cq.replace_one 59 32 (by decide) _).symm) (by omega) (by decide) rfl m)
  have H4 := hide (sq_at c d hd (by omega))
  have H5 := hide (ra_at d ⟨#[32, 47]⟩ ⟨#[47]⟩ f (by rw [hf]; exact (Cq.replace_two 47 (by decide) _).symm) (by omega) (by decide) rfl m)
  have H6 := hide (ra_at f ⟨#[32, 40]⟩ ⟨#[40]⟩ g (by rw [hg]; exact (Cq.replace_two 40 (by decide) _).symm) (by omega) (by decide) rfl m)
  have H7 := hide (low_at g q (by
    rw [hq, hg, hf, hd, hc, hb, ha, Cq.rm_two, Cq.cmd, ← Cq.rep_two, Cq.replace_one 44 32 (by decide), Cq.replace_one 59 32 (by decide)]) (by omega))
  have HM := hide hm
  clear hm ha hb hc hd hf hg hq la lb lc ld lf lg
  go_enter Tryz.func32, Tryz.ntmps32
  go_wp2_with fail
  refine ((unhide H1) _).mono ?_; rintro e w1 ⟨rfl, b1⟩
  have B1 := hide b1; clear b1
  go_wp2_with fail
  refine ((unhide H2) _ (max_below (unhide HM) (unhide B1))).mono ?_; rintro e w2 ⟨rfl, b2⟩
  have B2 := hide (bel_trans (unhide B1) b2); clear b2
  go_wp2_with fail
  refine ((unhide H3) _ (max_below (unhide HM) (unhide B2))).mono ?_; rintro e w3 ⟨rfl, b3⟩
  have B3 := hide (bel_trans (unhide B2) b3); clear b3
  go_wp2_with fail
  refine ((unhide H4) _).mono ?_; rintro e w4 ⟨rfl, b4⟩
  have B4 := hide (bel_trans (unhide B3) b4); clear b4
  go_wp2_with fail
  refine ((unhide H5) _ (max_below (unhide HM) (unhide B4))).mono ?_; rintro e w5 ⟨rfl, b5⟩
  have B5 := hide (bel_trans (unhide B4) b5); clear b5
  go_wp2_with fail
  refine ((unhide H6) _ (max_below (unhide HM) (unhide B5))).mono ?_; rintro e w6 ⟨rfl, b6⟩
  have B6 := hide (bel_trans (unhide B5) b6); clear b6
  go_wp2_with fail
  refine ((unhide H7) _).mono ?_; rintro e w7 ⟨rfl, b7⟩
  have B7 := hide (bel_trans (unhide B6) b7); clear b7
  go_wp2_with fail
  go_ret
  exact ⟨rfl, unhide B7⟩
end Go.Proofs.YtkhbfdokkmebhaaGreatDoor
