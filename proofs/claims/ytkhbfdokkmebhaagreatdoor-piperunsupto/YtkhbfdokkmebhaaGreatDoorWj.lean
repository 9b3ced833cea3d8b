/- Walks of base 64: Base64Encode, Base64Decode. -/
import Derived.Test.YtkhbfdokkmebhaaGreatDoorWi
import Derived.Test.YtkhbfdokkmebhaaGreatDoorShelf
namespace Go.Proofs.YtkhbfdokkmebhaaGreatDoor
open Go.RowKit Kb
set_option linter.unusedVariables false
set_option maxRecDepth 20000

theorem enc_split (l : List UInt8) (h : 3 ≤ l.length ∨ l.drop 3 = []) : C6.enc64 l = C6.enc64 (l.take 3) ++ C6.enc64 (l.drop 3) := by
  match l, h with
  | [], _ => rfl
  | [a], _ => simp [C6.enc64]
  | [a, b], _ => simp [C6.enc64]
  | a :: b :: c :: r, _ => simp [C6.enc64]
theorem enc_cut (l : List UInt8) : C6.enc64 l = C6.enc64 (l.take 3) ++ C6.enc64 (l.drop 3) := by
  apply enc_split
  by_cases h : 3 ≤ l.length
  · exact .inl h
  · right; rw [List.drop_eq_nil_iff]; omega

def bdV (l : List UInt8) : List UInt8 := (C6.dec64 l).getD []
def bdE (l : List UInt8) : Int := if (C6.dec64 l).isSome then 0 else 4
theorem trim_suffix (l : List UInt8) : Lib.trimSuffix l [61] = C6.trim1 l := by
  unfold Lib.trimSuffix Lib.hasSuffix C6.trim1
  by_cases h : l.getLast? = some 61
  · rw [if_pos h, if_pos]
    · rw [List.dropLast_eq_take]; rfl
    · rw [List.isSuffixOf_iff_suffix]
      have hne : l ≠ [] := by intro e; subst e; simp at h
      refine ⟨l.dropLast, ?_⟩
      have := List.dropLast_concat_getLast hne
      rw [List.getLast?_eq_some_getLast hne] at h
      cases h' : l.getLast hne
      simp only [Option.some.injEq] at h
      rw [h] at this; exact this
  · rw [if_neg h, if_neg]
    intro h2
    rw [List.isSuffixOf_iff_suffix] at h2
    obtain ⟨t, ht⟩ := h2
    apply h; rw [← ht]; simp

theorem ix64 (c : UInt8) : Lib.indexByte tab64.data.toList c = match C6.sv c with | some n => (n : Int) | none => -1 := by
  have := Kb.u8_all (p := fun c => Lib.indexByte tab64.data.toList c == match C6.sv c with | some n => (n : Int) | none => -1) (by decide +kernel) c
  simpa using this
theorem fd_step {l : List UInt8} {k v : Nat} {c : UInt8} {x : List UInt8 × Nat × Nat} (h : C6.fd l ([], 0, 0) = C6.fd (l.drop k) x) (hd : l.drop k = c :: l.drop (k + 1)) (hv : C6.sv c = some v) : C6.fd l ([], 0, 0) = C6.fd (l.drop (k + 1)) (C6.fs x v) := by
  rw [h, hd, C6.fd, hv]
theorem fd_bad {l : List UInt8} {k : Nat} {c : UInt8} {x : List UInt8 × Nat × Nat} (h : C6.fd l ([], 0, 0) = C6.fd (l.drop k) x) (hd : l.drop k = c :: l.drop (k + 1)) (hv : C6.sv c = none) : C6.fd l ([], 0, 0) = none := by
  rw [h, hd, C6.fd, hv]
theorem or6 (x v : Nat) (hx : x < 16777216) (hv : v < 64) : bits BinOp.or IntKind.i64 ((x : Int) * 64) (v : Int) = ((x * 64 + v : Nat) : Int) := by
  have := bits_join .i64 63 (by decide) wraps63 6 ((x : Int) * 64) (v : Int) (by omega) (by omega) (by omega) (by omega) (by omega) (by omega)
  rw [this]; omega
theorem andm (i : Nat) (hi : i ≤ 62) (m : Int) (hm : m = 2 ^ i - 1) (y : Nat) (h1 : y < 9223372036854775808) : bits BinOp.and IntKind.i64 (y : Int) m = ((y % 2 ^ i : Nat) : Int) := by
  rw [hm, bits_mask .i64 63 (by decide) wraps63 i (by omega) y (by omega) (by simpa using (by omega : (y : Int) < 9223372036854775808))]
  simp

set_option maxRecDepth 100000 in
set_option maxHeartbeats 8000000 in
theorem b64dec_any (s : ByteArray) (w : World) (hs : s.size ≤ 68719476736) :
    Calls Tryz.prog 26 #[.string s] w fun e w' => e = .returned (.tuple #[.string ⟨(bdV s.data.toList).toArray⟩, .int .i64 (bdE s.data.toList)]) ∧ Below w.heap.size w w' := by
  obtain ⟨i0, hi, hz0, hz1, hz2⟩ := info_parts Kb.infoU8
  have hl : s.data.toList.length = s.size := by simp
  by_cases h4 : s.size % 4 = 0
  · have H1 := hide (Tryz.strings_TrimSuffix s ⟨#[61]⟩ w (by omega))
    change Hid (Calls _ _ _ _ fun e w' => e = .returned (.string ⟨(Lib.trimSuffix s.data.toList [61]).toArray⟩) ∧ w' = w) at H1
    rw [trim_suffix] at H1
    obtain ⟨t1, ht1⟩ : ∃ t : ByteArray, t = ⟨(C6.trim1 s.data.toList).toArray⟩ := ⟨_, rfl⟩
    have lt1 : t1.data.toList = C6.trim1 s.data.toList := by rw [ht1]
    have trim_le : ∀ l : List UInt8, (C6.trim1 l).length ≤ l.length := by
      intro l; unfold C6.trim1; split
      · rw [List.length_dropLast]; omega
      · exact Nat.le_refl _
    have st1 : t1.size ≤ s.size := by rw [Kb.size_list _ _ lt1, ← hl]; exact trim_le _
    rw [← ht1] at H1
    have H2 := hide (Tryz.strings_TrimSuffix t1 ⟨#[61]⟩ w (by omega))
    change Hid (Calls _ _ _ _ fun e w' => e = .returned (.string ⟨(Lib.trimSuffix t1.data.toList [61]).toArray⟩) ∧ w' = w) at H2
    rw [trim_suffix] at H2
    obtain ⟨t, ht⟩ : ∃ t : ByteArray, t = ⟨(C6.trim1 t1.data.toList).toArray⟩ := ⟨_, rfl⟩
    have lt : t.data.toList = C6.trim1 (C6.trim1 s.data.toList) := by rw [ht, lt1]
    have st : t.size ≤ s.size := by rw [Kb.size_list _ _ lt, ← hl]; exact Nat.le_trans (trim_le _) (trim_le _)
    rw [← ht] at H2
    have HD : Hid (C6.dec64 s.data.toList = C6.fin (C6.fd t.data.toList ([], 0, 0))) := hide (by unfold C6.dec64; rw [if_pos (by rw [hl]; exact h4), lt])
    have h4' : (s.size : Int) % 4 = 0 := by omega
    have h4t : Int.tmod (s.size : Int) 4 = 0 := by rw [Int.tmod_eq_emod_of_nonneg (by omega)]; exact h4'
    clear ht1 lt1 ht lt hl h4 trim_le
    go_enter Tryz.func26, Tryz.ntmps26
    go_wp2_with fail
    refine (unhide H1).mono ?_; rintro e wx ⟨rfl, hwx⟩; rw [hwx]; clear hwx wx
    go_wp2_with fail
    refine (unhide H2).mono ?_; rintro e wx ⟨rfl, hwx⟩; rw [hwx]; clear hwx wx
    go_wp2_with fail
    obtain ⟨B, hBw⟩ : ∃ B, B = w.heap.size := ⟨_, rfl⟩
    go_loopw [5, 6, 7, 19] (fun v b hv i wr => ∃ (k x h : Nat) (out : List UInt8), k ≤ t.size ∧ out.length ≤ k ∧ i = .int .i64 k ∧ b = .int .i64 x ∧ hv = .int .i64 h ∧ (h = 0 ∨ h = 2 ∨ h = 4 ∨ h = 6) ∧ x < 2 ^ h ∧ wr.ownsRow B 5 1 v out.length (cells out) ∧ Below w.heap.size w wr ∧ C6.fd t.data.toList ([], 0, 0) = C6.fd (t.data.toList.drop k) (out, x, h)) (fun _ _ _ i _ => t.size - (intOf i).toNat)
    case atStart => exact ⟨0, 0, 0, [], Nat.zero_le _, Nat.zero_le _, rfl, rfl, rfl, .inl rfl, by simp, World.ownsRow_nil _ _ _ _, Below.refl _ _, by simp⟩
    case round =>
      obtain ⟨k, x, h, out, hk, hok, rfl, rfl, rfl, hh, hx, hown, hbel, hu⟩ := hrel
      have hB := hbel.size
      rw [← hBw] at hB
      have HB := hide hbel
      have HU := hide hu
      have OWN := hide hown
      clear hbel hu hown
      by_cases hlt : k < t.size
      · have b3 : out.length + 1 ≤ maxLen := by unfold maxLen; omega
        have b4 : (out.length + 1) * 1 ≤ 140737488355328 := by omega
        have hd := Kb.drop_cons t k hlt
        have HI := hide (Tryz.strings_IndexByte tab64 t[k].toNat wr)
        rw [show ((t[k].toNat : Int).toNat.toUInt8) = t[k] from by simp, ix64] at HI
        unfold tab64 at HI
        rcases hsv : C6.sv t[k] with _ | v
        · rw [hsv] at HI
          have HR : Hid (bdV s.data.toList = [] ∧ bdE s.data.toList = 4) := hide (by
            have : C6.dec64 s.data.toList = none := by rw [unhide HD, fd_bad (unhide HU) hd hsv]; rfl
            simp [bdV, bdE, this])
          clear hd hsv
          change Hid (Calls _ _ _ _ fun e w' => e = .returned (.int .i64 (-1)) ∧ w' = wr) at HI
          go_wp2_with (go_at_call 48; refine (unhide HI).mono ?_; rintro e wx ⟨rfl, rfl⟩)
          go_ret2
          exact ⟨Kb.ret_str_int (by rw [(unhide HR).1]) (by rw [(unhide HR).2]), unhide HB⟩
        · rw [hsv] at HI
          change Hid (Calls _ _ _ _ fun e w' => e = .returned (.int .i64 (v : Int)) ∧ w' = wr) at HI
          have hv64 := (C6.sg_sv _ _ hsv).2
          rcases hh with rfl | rfl | rfl | rfl
          · obtain rfl : x = 0 := by simpa using hx
            have HG : Hid (C6.fd t.data.toList ([], 0, 0) = C6.fd (t.data.toList.drop (k + 1)) (out, v, 6)) := hide (by rw [fd_step (unhide HU) hd hsv, C6.fs1])
            have hor : bits BinOp.or IntKind.i64 0 (v : Int) = (v : Int) := by have := or6 0 v (by omega) hv64; simpa using this
            clear hd hsv
            go_wp2_with (go_at_call 48; refine (unhide HI).mono ?_; rintro e wx ⟨rfl, rfl⟩)
            exact ⟨⟨k + 1, v, 6, out, by omega, by omega, by go_num, rfl, rfl, by omega, by omega, unhide OWN, unhide HB, unhide HG⟩, by simp [intOf]; omega⟩
          · have hx2 : x < 4 := by simpa using hx
            have HG : Hid (C6.fd t.data.toList ([], 0, 0) = C6.fd (t.data.toList.drop (k + 1)) (out ++ [UInt8.ofNat (x * 64 + v)], 0, 0)) := hide (by rw [fd_step (unhide HU) hd hsv, C6.fs4])
            obtain ⟨y, hy⟩ : ∃ y, x * 64 + v = y := ⟨_, rfl⟩
            have hor : bits BinOp.or IntKind.i64 ((x : Int) * 64) (v : Int) = (y : Int) := by rw [or6 x v (by omega) hv64, hy]
            have hyb : y < 4096 := by omega
            have hand : bits BinOp.and IntKind.i64 (y : Int) 0 = ((0 : Nat) : Int) := by rw [andm 0 (by omega) 0 (by rfl) y (by omega)]; congr 1; omega
            have HW : Hid (Value.int IntKind.u8 (y : Int) = Value.int IntKind.u8 ((UInt8.ofNat (x * 64 + v)).toNat : Int)) := hide (by congr 1; simp; omega)
            clear hd hsv
            go_wp2_with (first | (go_at_call 48; refine (unhide HI).mono ?_; rintro e wx ⟨rfl, rfl⟩) | (at_builtin; refine wpList_append_own _ rfl _ _ 36 rfl B 5 i0 (.int .u8 0) 1 1 Tryz.underlying36 hi hz0 hz1 hz2 rfl (by decide) _ out.length (cells out) rfl ((unhide OWN).alloc _) _ 1 1 _ rfl rfl (cell_one_new _ _ _) (by simp [Value.oneCell']) b3 b4 (by simp; omega) ?_; intro v1 w1 own1 grow1 _))
            refine ⟨⟨k + 1, 0, 0, out ++ [UInt8.ofNat (x * 64 + v)], by omega, by simp; omega, by go_num, by simp, rfl, by decide, by simp, ?_, ((unhide HB).alloc (by rw [← hBw]; exact hB) _).grown grow1 (by simp; omega) (by rw [← hBw]; exact own_lt (unhide OWN)), unhide HG⟩, by simp [intOf]; omega⟩
            rw [List.length_append, cells_append]
            show World.ownsRow _ _ _ _ _ _ (cells out ++ [Value.int IntKind.u8 ((UInt8.ofNat (x * 64 + v)).toNat : Int)])
            rw [← unhide HW]; exact own1
          · have hx2 : x < 16 := by simpa using hx
            have HG : Hid (C6.fd t.data.toList ([], 0, 0) = C6.fd (t.data.toList.drop (k + 1)) (out ++ [UInt8.ofNat (x * 16 + v / 4)], v % 4, 2)) := hide (by rw [fd_step (unhide HU) hd hsv, C6.fs3])
            obtain ⟨y, hy⟩ : ∃ y, x * 64 + v = y := ⟨_, rfl⟩
            have hor : bits BinOp.or IntKind.i64 ((x : Int) * 64) (v : Int) = (y : Int) := by rw [or6 x v (by omega) hv64, hy]
            have hyb : y < 4096 := by omega
            have hand : bits BinOp.and IntKind.i64 (y : Int) 3 = ((v % 4 : Nat) : Int) := by rw [andm 2 (by omega) 3 (by rfl) y (by omega)]; congr 1; omega
            have HW : Hid (Value.int IntKind.u8 ((y : Int) / 4) = Value.int IntKind.u8 ((UInt8.ofNat (x * 16 + v / 4)).toNat : Int)) := hide (by congr 1; simp; omega)
            clear hd hsv
            go_wp2_with (first | (go_at_call 48; refine (unhide HI).mono ?_; rintro e wx ⟨rfl, rfl⟩) | (at_builtin; refine wpList_append_own _ rfl _ _ 36 rfl B 5 i0 (.int .u8 0) 1 1 Tryz.underlying36 hi hz0 hz1 hz2 rfl (by decide) _ out.length (cells out) rfl ((unhide OWN).alloc _) _ 1 1 _ rfl rfl (cell_one_new _ _ _) (by simp [Value.oneCell']) b3 b4 (by simp; omega) ?_; intro v1 w1 own1 grow1 _))
            refine ⟨⟨k + 1, v % 4, 2, out ++ [UInt8.ofNat (x * 16 + v / 4)], by omega, by simp; omega, by go_num, by simp, rfl, by decide, by show v % 4 < 4; omega, ?_, ((unhide HB).alloc (by rw [← hBw]; exact hB) _).grown grow1 (by simp; omega) (by rw [← hBw]; exact own_lt (unhide OWN)), unhide HG⟩, by simp [intOf]; omega⟩
            rw [List.length_append, cells_append]
            show World.ownsRow _ _ _ _ _ _ (cells out ++ [Value.int IntKind.u8 ((UInt8.ofNat (x * 16 + v / 4)).toNat : Int)])
            rw [← unhide HW]; exact own1
          · have hx2 : x < 64 := by simpa using hx
            have HG : Hid (C6.fd t.data.toList ([], 0, 0) = C6.fd (t.data.toList.drop (k + 1)) (out ++ [UInt8.ofNat (x * 4 + v / 16)], v % 16, 4)) := hide (by rw [fd_step (unhide HU) hd hsv, C6.fs2])
            obtain ⟨y, hy⟩ : ∃ y, x * 64 + v = y := ⟨_, rfl⟩
            have hor : bits BinOp.or IntKind.i64 ((x : Int) * 64) (v : Int) = (y : Int) := by rw [or6 x v (by omega) hv64, hy]
            have hyb : y < 4096 := by omega
            have hand : bits BinOp.and IntKind.i64 (y : Int) 15 = ((v % 16 : Nat) : Int) := by rw [andm 4 (by omega) 15 (by rfl) y (by omega)]; congr 1; omega
            have HW : Hid (Value.int IntKind.u8 ((y : Int) / 16) = Value.int IntKind.u8 ((UInt8.ofNat (x * 4 + v / 16)).toNat : Int)) := hide (by congr 1; simp; omega)
            clear hd hsv
            go_wp2_with (first | (go_at_call 48; refine (unhide HI).mono ?_; rintro e wx ⟨rfl, rfl⟩) | (at_builtin; refine wpList_append_own _ rfl _ _ 36 rfl B 5 i0 (.int .u8 0) 1 1 Tryz.underlying36 hi hz0 hz1 hz2 rfl (by decide) _ out.length (cells out) rfl ((unhide OWN).alloc _) _ 1 1 _ rfl rfl (cell_one_new _ _ _) (by simp [Value.oneCell']) b3 b4 (by simp; omega) ?_; intro v1 w1 own1 grow1 _))
            refine ⟨⟨k + 1, v % 16, 4, out ++ [UInt8.ofNat (x * 4 + v / 16)], by omega, by simp; omega, by go_num, by simp, rfl, by decide, by show v % 16 < 16; omega, ?_, ((unhide HB).alloc (by rw [← hBw]; exact hB) _).grown grow1 (by simp; omega) (by rw [← hBw]; exact own_lt (unhide OWN)), unhide HG⟩, by simp [intOf]; omega⟩
            rw [List.length_append, cells_append]
            show World.ownsRow _ _ _ _ _ _ (cells out ++ [Value.int IntKind.u8 ((UInt8.ofNat (x * 4 + v / 16)).toNat : Int)])
            rw [← unhide HW]; exact own1
      · by_cases hx0 : x = 0
        · subst hx0
          have HR : Hid (bdV s.data.toList = out ∧ bdE s.data.toList = 0) := hide (by
            have : C6.dec64 s.data.toList = some out := by rw [unhide HD, unhide HU, Kb.drop_end t k (by omega)]; rfl
            simp [bdV, bdE, this])
          have hcv := own_string (unhide OWN)
          go_wp2
          go_ret2
          exact ⟨Kb.ret_str_int (by rw [(unhide HR).1]) (by rw [(unhide HR).2]), unhide HB⟩
        · have HR : Hid (bdV s.data.toList = [] ∧ bdE s.data.toList = 4) := hide (by
            have : C6.dec64 s.data.toList = none := by rw [unhide HD, unhide HU, Kb.drop_end t k (by omega)]; simp [C6.fd, C6.fin, hx0]
            simp [bdV, bdE, this])
          have hx0' : ((x : Int) != 0) = true := by rw [bne_iff_ne]; omega
          clear hx0
          go_wp2
          go_ret2
          exact ⟨Kb.ret_str_int (by rw [(unhide HR).1]) (by rw [(unhide HR).2]), unhide HB⟩
  · have HR : Hid (bdV s.data.toList = [] ∧ bdE s.data.toList = 4) := hide (by
      have : C6.dec64 s.data.toList = none := C6.dec_odd _ (by rw [hl]; exact h4)
      simp [bdV, bdE, this])
    have h4' : ¬ (s.size : Int) % 4 = 0 := by omega
    have h4t : (Int.tmod (s.size : Int) 4 != 0) = true := by rw [bne_iff_ne, Int.tmod_eq_emod_of_nonneg (by omega)]; exact h4'
    clear h4 hl
    go_enter Tryz.func26, Tryz.ntmps26
    go_wp2
    go_ret2
    exact ⟨Kb.ret_str_int (by rw [(unhide HR).1]) (by rw [(unhide HR).2]), Below.refl _ _⟩
end Go.Proofs.YtkhbfdokkmebhaaGreatDoor
