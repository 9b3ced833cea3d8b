/- Walks of the document's Squeeze, Without, Cmd. -/
import Derived.Test.YtkhbfdokkmebhaaGreatDoorRi
import Derived.Test.YtkhbfdokkmebhaaGreatDoorRt
import Derived.Test.YtkhbfdokkmebhaaGreatDoorXa
namespace Go.Proofs.YtkhbfdokkmebhaaGreatDoor
open Go.RowKit Kb
set_option linter.unusedVariables false
set_option maxRecDepth 20000

theorem has_white (c : UInt8) : has [9, 10, 11, 12, 13, 32] c = Cq.wh c := by
  have := Kb.u8_all (p := fun c => has [9, 10, 11, 12, 13, 32] c == Cq.wh c) (by decide +kernel) c
  simpa using this

set_option maxHeartbeats 4000000 in
theorem rsq_any (s : ByteArray) (w : World) (hs : s.size ≤ 68719476736) :
    Calls Tryz.prog 16 #[.string s] w fun e w' => e = .returned (.string ⟨(Cq.sqz false s.data.toList).toArray⟩) ∧ Below w.heap.size w w' := by
  go_enter Tryz.func16, Tryz.ntmps16
  go_wp2
  go_loopw [3, 4, 5] (fun v r i wr => ∃ (k : Nat) (o : ByteArray), k ≤ s.size ∧ i = .int .i64 k ∧ r = .bool (Sw s k) ∧ v = .string o ∧ o = ⟨(Sq s k).toArray⟩ ∧ Below w.heap.size w wr) (fun _ _ i _ => s.size - (intOf i).toNat)
  case atStart => exact ⟨0, _, Nat.zero_le _, rfl, rfl, rfl, rfl, Below.refl _ _⟩
  case round =>
    obtain ⟨k, o, hk, rfl, rfl, rfl, ho, hbel⟩ := hrel
    have hq := Sq_len s k
    have HB := hide hbel
    have HO := hide ho
    have hos : o.size ≤ 68719476736 := by rw [ho, mk_sz]; omega
    clear hbel ho hq
    by_cases hlt : k < s.size
    · have HX := hide (one_byte s k hlt)
      have HS := hide (Sq_succ s k hlt)
      have HW := hide (Sw_succ s k hlt)
      have hc := s[k].toNat_lt
      have HU := hide (fun W => in_any s[k] ⟨#[9, 10, 11, 12, 13, 32]⟩ W (by decide))
      rw [show (⟨#[9, 10, 11, 12, 13, 32]⟩ : ByteArray).data.toList = [9, 10, 11, 12, 13, 32] from rfl, has_white] at HU
      rcases hu : Cq.wh s[k] with _ | _
      · rw [hu] at HU HS HW
        have HE : Hid (o ++ s.extract k (k + 1) = ⟨(Sq s (k + 1)).toArray⟩) := hide (by rw [unhide HO, unhide HX, cat_byte, unhide HS]; rfl)
        go_wp2_with fail
        refine ((unhide HU) _).mono ?_; rintro e wx ⟨rfl, hwx⟩; rw [hwx]; clear hwx wx
        go_wp2_with fail
        exact ⟨⟨k + 1, _, by omega, by go_num, by rw [unhide HW], rfl, unhide HE, unhide HB⟩, by simp [intOf]; omega⟩
      · rw [hu] at HU HS HW
        rcases hr : Sw s k with _ | _
        · rw [hr] at HS
          have HE : Hid (o ++ ⟨#[32]⟩ = ⟨(Sq s (k + 1)).toArray⟩) := hide (by rw [unhide HO, cat_byte, unhide HS]; rfl)
          go_wp2_with fail
          refine ((unhide HU) _).mono ?_; rintro e wx ⟨rfl, hwx⟩; rw [hwx]; clear hwx wx
          go_wp2_with fail
          exact ⟨⟨k + 1, _, by omega, by go_num, by rw [unhide HW], rfl, unhide HE, unhide HB⟩, by simp [intOf]; omega⟩
        · rw [hr] at HS
          have HE : Hid (o = ⟨(Sq s (k + 1)).toArray⟩) := hide (by rw [unhide HO, unhide HS]; simp)
          go_wp2_with fail
          refine ((unhide HU) _).mono ?_; rintro e wx ⟨rfl, hwx⟩; rw [hwx]; clear hwx wx
          go_wp2_with fail
          exact ⟨⟨k + 1, _, by omega, by go_num, by rw [unhide HW], rfl, unhide HE, unhide HB⟩, by simp [intOf]; omega⟩
    · have HE := hide (Sq_all s k (by omega))
      go_wp2
      go_ret
      exact ⟨ret_str (by rw [← unhide HE]; exact unhide HO), unhide HB⟩

set_option maxHeartbeats 4000000 in
theorem rwo_any (s t : ByteArray) (w : World) (hs : s.size ≤ 68719476736) (ht : t.size ≤ maxLen) :
    Calls Tryz.prog 17 #[.string s, .string t] w fun e w' => e = .returned (.string ⟨(Cq.wo t.data.toList s.data.toList).toArray⟩) ∧ Below w.heap.size w w' := by
  go_enter Tryz.func17, Tryz.ntmps17
  go_wp2
  go_loopw [5, 6] (fun v i wr => ∃ (k : Nat) (o : ByteArray), k ≤ s.size ∧ i = .int .i64 k ∧ v = .string o ∧ o = ⟨(Wo t.data.toList s k).toArray⟩ ∧ Below w.heap.size w wr) (fun _ i _ => s.size - (intOf i).toNat)
  case atStart => exact ⟨0, _, Nat.zero_le _, rfl, rfl, rfl, Below.refl _ _⟩
  case round =>
    obtain ⟨k, o, hk, rfl, rfl, ho, hbel⟩ := hrel
    have hq := Wo_len t.data.toList s k
    have HB := hide hbel
    have HO := hide ho
    have hos : o.size ≤ 68719476736 := by rw [ho, mk_sz]; omega
    clear hbel ho hq
    by_cases hlt : k < s.size
    · have HX := hide (one_byte s k hlt)
      have HS := hide (Wo_succ t.data.toList s k hlt)
      have hc := s[k].toNat_lt
      have HU := hide (fun W => in_any s[k] t W ht)
      have hh : has t.data.toList s[k] = t.data.toList.contains s[k] := rfl
      rw [hh] at HU
      rcases hu : t.data.toList.contains s[k] with _ | _
      · rw [hu] at HU HS
        have HE : Hid (o ++ s.extract k (k + 1) = ⟨(Wo t.data.toList s (k + 1)).toArray⟩) := hide (by rw [unhide HO, unhide HX, cat_byte, unhide HS]; rfl)
        clear hh hu
        go_wp2_with fail
        refine ((unhide HU) _).mono ?_; rintro e wx ⟨rfl, hwx⟩; rw [hwx]; clear hwx wx
        go_wp2_with fail
        exact ⟨⟨k + 1, _, by omega, by go_num, rfl, unhide HE, unhide HB⟩, by simp [intOf]; omega⟩
      · rw [hu] at HU HS
        have HE : Hid (o = ⟨(Wo t.data.toList s (k + 1)).toArray⟩) := hide (by rw [unhide HO, unhide HS]; simp)
        clear hh hu
        go_wp2_with fail
        refine ((unhide HU) _).mono ?_; rintro e wx ⟨rfl, hwx⟩; rw [hwx]; clear hwx wx
        go_wp2_with fail
        exact ⟨⟨k + 1, _, by omega, by go_num, rfl, unhide HE, unhide HB⟩, by simp [intOf]; omega⟩
    · have HE := hide (Wo_all t.data.toList s k (by omega))
      go_wp2
      go_ret
      exact ⟨ret_str (by rw [← unhide HE]; exact unhide HO), unhide HB⟩

theorem rsq_at (s q : ByteArray) (hq : q.data.toList = Cq.sqz false s.data.toList) (hs : s.size ≤ 68719476736) (w : World) :
    Calls Tryz.prog 16 #[.string s] w fun e w' => e = .returned (.string q) ∧ Below w.heap.size w w' := by
  have := rsq_any s w hs; rwa [back_list q _ hq] at this
theorem rwo_at (s t q : ByteArray) (hq : q.data.toList = Cq.wo t.data.toList s.data.toList) (hs : s.size ≤ 68719476736) (ht : t.size ≤ maxLen) (w : World) :
    Calls Tryz.prog 17 #[.string s, .string t] w fun e w' => e = .returned (.string q) ∧ Below w.heap.size w w' := by
  have := rwo_any s t w hs ht; rwa [back_list q _ hq] at this
theorem rlow_at (s q : ByteArray) (hq : q.data.toList = lower s.data.toList) (hs : s.size ≤ 68719476736) (w : World) :
    Calls Tryz.prog 10 #[.string s] w fun e w' => e = .returned (.string q) ∧ Below w.heap.size w w' := by
  have := rlow_any s w (by omega); rwa [back_list q _ hq] at this

theorem has_rep (c : UInt8) : Cq.rep c = if has [44, 59] c then 32 else c := by
  have := Kb.u8_all (p := fun c => Cq.rep c == if has [44, 59] c then 32 else c) (by decide +kernel) c
  simpa using this
def Mp (s : ByteArray) (k : Nat) : List UInt8 := (s.data.toList.take k).map Cq.rep
theorem Mp_succ (s : ByteArray) (k : Nat) (h : k < s.size) : Mp s (k + 1) = Mp s k ++ [Cq.rep s[k]] := by
  unfold Mp; rw [Kb.take_snoc s k h]; simp
theorem Mp_len (s : ByteArray) (k : Nat) : (Mp s k).length ≤ k := by unfold Mp; rw [List.length_map, List.length_take]; omega
theorem Mp_all (s : ByteArray) (k : Nat) (h : s.size ≤ k) : Mp s k = s.data.toList.map Cq.rep := by
  unfold Mp; rw [Kb.take_all s k h]
/-- is the next byte this one? -/
theorem at_one (l : List UInt8) (x : UInt8) : Ch.at0 l [x] = (l.head?.map (· == x)).getD false := by
  cases l with
  | nil => rfl
  | cons d l =>
    show ([d] == [x]) = (d == x)
    simp
theorem op_or (l : List UInt8) : (l.head?.map Cq.op).getD false = (Ch.at0 l [47] || Ch.at0 l [40]) := by
  rw [at_one, at_one]
  cases l with
  | nil => rfl
  | cons d l => rfl

set_option maxRecDepth 100000 in
set_option maxHeartbeats 8000000 in
theorem rcmd_at (s q : ByteArray) (hq : q.data.toList = Cq.cmd s.data.toList) (hs : s.size ≤ 4294960000) (w : World) :
    Calls Tryz.prog 20 #[.string s] w fun e w' => e = .returned (.string q) ∧ Below w.heap.size w w' := by
  obtain ⟨a, ha⟩ := ex_list (Cq.wo Cq.hid s.data.toList)
  obtain ⟨b, hb⟩ := ex_list (a.data.toList.map Cq.rep)
  obtain ⟨d, hd⟩ := ex_list (Cq.sqz false b.data.toList)
  obtain ⟨f, hf⟩ := ex_list (Cq.rm Cq.op d.data.toList)
  have la : a.size ≤ s.size := by have := Cq.wo_len Cq.hid s.data.toList; rwa [← ha, len_data, len_data] at this
  have lb : b.size = a.size := by have := congrArg List.length hb; rwa [List.length_map, len_data, len_data] at this
  have ld : d.size ≤ b.size := by have := Cq.sqz_len b.data.toList false; rwa [← hd, len_data, len_data] at this
  have lf : f.size ≤ d.size := by have := Cq.rm_len Cq.op d.data.toList; rwa [← hf, len_data, len_data] at this
  have H1 := hide (rwo_at s ⟨#[92, 34, 39, 94]⟩ a ha (by omega) (by decide))
  have H2 := hide (rsq_at b d hd (by omega))
  have H3 := hide (rlow_at f q (by rw [hq, hf, hd, hb, ha, Cq.cmd]) (by omega))
  have Hb := hide hb
  have Hf := hide hf
  have das : a.size ≤ 4294960000 := by omega
  have dds : d.size ≤ 4294960000 := by omega
  clear ha hb hd hf hq la lb ld lf
  go_enter Tryz.func20, Tryz.ntmps20
  go_wp2_with fail
  refine ((unhide H1) _).mono ?_; rintro e w1 ⟨rfl, b1⟩
  have B1 := hide b1; clear b1
  go_wp2
  go_loopw [4, 5] (fun v i wr => ∃ (k : Nat) (o : ByteArray), k ≤ a.size ∧ i = .int .i64 k ∧ v = .string o ∧ o = ⟨(Mp a k).toArray⟩ ∧ Below w.heap.size w wr) (fun _ i _ => a.size - (intOf i).toNat)
  case atStart => exact ⟨0, _, Nat.zero_le _, rfl, rfl, rfl, unhide B1⟩
  case round =>
    obtain ⟨k, o, hk, rfl, rfl, ho, hbel⟩ := hrel
    have hq := Mp_len a k
    have HB := hide hbel
    have HO := hide ho
    have hos : o.size ≤ 4294960000 := by rw [ho, mk_sz]; omega
    clear hbel ho hq B1
    by_cases hlt : k < a.size
    · have HX := hide (one_byte a k hlt)
      have HS := hide (Mp_succ a k hlt)
      rw [has_rep] at HS
      have hc := a[k].toNat_lt
      have HU := hide (fun W => in_any a[k] ⟨#[44, 59]⟩ W (by decide))
      rw [show (⟨#[44, 59]⟩ : ByteArray).data.toList = [44, 59] from rfl] at HU
      rcases hu : has [44, 59] a[k] with _ | _
      · rw [hu] at HU HS
        have HE : Hid (o ++ a.extract k (k + 1) = ⟨(Mp a (k + 1)).toArray⟩) := hide (by rw [unhide HO, unhide HX, cat_byte, unhide HS]; rfl)
        clear hu
        go_wp2_with fail
        refine ((unhide HU) _).mono ?_; rintro e wx ⟨rfl, hwx⟩; rw [hwx]; clear hwx wx
        go_wp2_with fail
        exact ⟨⟨k + 1, _, by omega, by go_num, rfl, unhide HE, unhide HB⟩, by simp [intOf]; omega⟩
      · rw [hu] at HU HS
        have HE : Hid (o ++ ⟨#[32]⟩ = ⟨(Mp a (k + 1)).toArray⟩) := hide (by rw [unhide HO, cat_byte, unhide HS]; rfl)
        clear hu
        go_wp2_with fail
        refine ((unhide HU) _).mono ?_; rintro e wx ⟨rfl, hwx⟩; rw [hwx]; clear hwx wx
        go_wp2_with fail
        exact ⟨⟨k + 1, _, by omega, by go_num, rfl, unhide HE, unhide HB⟩, by simp [intOf]; omega⟩
    · obtain rfl : o = b := eq_of_lists (by rw [unhide Hb, ← Mp_all a k (by omega), unhide HO])
      clear HO hos
      go_wp2_with fail
      refine ((unhide H2) _).mono ?_; rintro e w2 ⟨rfl, b2⟩
      have B2 := hide (bel_trans (unhide HB) b2); clear b2 HB
      go_wp2_with fail
      go_loopw [6, 7] (fun v i wr => ∃ (k : Nat) (u : ByteArray), k ≤ d.size ∧ i = .int .i64 k ∧ v = .string u ∧ u.data.toList ++ Cq.rm Cq.op (d.data.toList.drop k) = f.data.toList ∧ u.size ≤ k ∧ Below w.heap.size w wr) (fun _ i _ => d.size - (intOf i).toNat)
      case atStart => exact ⟨0, _, Nat.zero_le _, rfl, rfl, by rw [unhide Hf]; rfl, Nat.le_refl _, unhide B2⟩
      case round =>
        obtain ⟨k, u, hk, rfl, rfl, hu, hus, hbel⟩ := hrel
        have HB := hide hbel
        have HU := hide hu
        clear hbel hu B2
        by_cases hlt : k < d.size
        · have HX := hide (one_byte d k hlt)
          have hd0 := Kb.drop_cons d k hlt
          have HSZ : Hid (d[k] ≠ 32 ∨ (Ch.at0 (d.data.toList.drop (k + 1)) [47] = false ∧ Ch.at0 (d.data.toList.drop (k + 1)) [40] = false) → (u ++ d.extract k (k + 1)).data.toList ++ Cq.rm Cq.op (d.data.toList.drop (k + 1)) = f.data.toList) := hide (by
            intro h
            rw [← unhide HU, hd0, Cq.rm, if_neg]
            · rw [unhide HX]; simp
            · rintro ⟨h1, h2⟩
              rcases h with h | ⟨h3, h4⟩
              · exact h h1
              · rw [op_or, h3, h4] at h2; cases h2)
          have HSK : Hid (d[k] = 32 → (Ch.at0 (d.data.toList.drop (k + 1)) [47] = true ∨ Ch.at0 (d.data.toList.drop (k + 1)) [40] = true) → u.data.toList ++ Cq.rm Cq.op (d.data.toList.drop (k + 1)) = f.data.toList) := hide (by
            intro h1 h
            rw [← unhide HU, hd0, Cq.rm, if_pos]
            refine ⟨h1, ?_⟩
            rw [op_or]
            rcases h with h | h <;> rw [h] <;> simp)
          have HZ : Hid ((u ++ d.extract k (k + 1)).size ≤ k + 1) := hide (by
            rw [unhide HX, ← len_data, cat_data, List.length_append, len_data]; simp; omega)
          have A1 := hide (fun W => at_drop d ⟨#[47]⟩ (k + 1) _ W (by omega) (by decide) (by decide) (by omega) rfl)
          have A2 := hide (fun W => at_drop d ⟨#[40]⟩ (k + 1) _ W (by omega) (by decide) (by decide) (by omega) rfl)
          rw [show (⟨#[47]⟩ : ByteArray).data.toList = [47] from rfl] at A1
          rw [show (⟨#[40]⟩ : ByteArray).data.toList = [40] from rfl] at A2
          have hc := d[k].toNat_lt
          clear hd0 H1 H2
          by_cases h32 : d[k] = 32
          · have h32n : ((d[k].toNat : Int) != 32) = false := by rw [h32]; rfl
            rcases h47 : Ch.at0 (d.data.toList.drop (k + 1)) [47] with _ | _
            · rw [h47] at A1
              rcases h40 : Ch.at0 (d.data.toList.drop (k + 1)) [40] with _ | _
              · rw [h40] at A2
                have HE := hide ((unhide HSZ) (.inr ⟨h47, h40⟩))
                clear HSZ HSK h32 h47 h40
                go_wp2_with fail
                refine ((unhide A1) _).mono ?_; rintro e wx ⟨rfl, hwx⟩; rw [hwx]; clear hwx wx
                go_wp2_with fail
                refine ((unhide A2) _).mono ?_; rintro e wx ⟨rfl, hwx⟩; rw [hwx]; clear hwx wx
                go_wp2_with fail
                exact ⟨⟨k + 1, _, by omega, by go_num, rfl, unhide HE, unhide HZ, unhide HB⟩, by simp [intOf]; omega⟩
              · rw [h40] at A2
                have HE := hide ((unhide HSK) h32 (.inr h40))
                clear HSZ HSK h32 h47 h40
                go_wp2_with fail
                refine ((unhide A1) _).mono ?_; rintro e wx ⟨rfl, hwx⟩; rw [hwx]; clear hwx wx
                go_wp2_with fail
                refine ((unhide A2) _).mono ?_; rintro e wx ⟨rfl, hwx⟩; rw [hwx]; clear hwx wx
                go_wp2_with fail
                exact ⟨⟨k + 1, _, by omega, by go_num, rfl, unhide HE, by omega, unhide HB⟩, by simp [intOf]; omega⟩
            · rw [h47] at A1
              have HE := hide ((unhide HSK) h32 (.inl h47))
              clear HSZ HSK h32 h47
              go_wp2_with fail
              refine ((unhide A1) _).mono ?_; rintro e wx ⟨rfl, hwx⟩; rw [hwx]; clear hwx wx
              go_wp2_with fail
              exact ⟨⟨k + 1, _, by omega, by go_num, rfl, unhide HE, by omega, unhide HB⟩, by simp [intOf]; omega⟩
          · have h32n : ((d[k].toNat : Int) != 32) = true := by
              have := Kb.nat_ne h32
              have h2 : ¬ (d[k].toNat : Int) = 32 := by
                intro e; apply this; show d[k].toNat = 32; omega
              simpa using h2
            have HE := hide ((unhide HSZ) (.inl h32))
            clear HSZ HSK h32
            go_wp2_with fail
            exact ⟨⟨k + 1, _, by omega, by go_num, rfl, unhide HE, unhide HZ, unhide HB⟩, by simp [intOf]; omega⟩
        · obtain rfl : u = f := eq_of_lists (by have := unhide HU; rw [Kb.drop_end d k (by omega), Cq.rm, List.append_nil] at this; exact this)
          go_wp2_with fail
          refine ((unhide H3) _).mono ?_; rintro e w3 ⟨rfl, b3⟩
          have B3 := hide (bel_trans (unhide HB) b3); clear b3 HB
          go_wp2_with fail
          go_ret
          exact ⟨rfl, unhide B3⟩
end Go.Proofs.YtkhbfdokkmebhaaGreatDoor
