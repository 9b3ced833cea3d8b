/- Walks of codes: unreserved, UrlEncode, hexByte, UrlDecode, HexEncode, HexDecode. -/
import Derived.Test.YtkhbfdokkmebhaaGreatDoorKb
import Derived.Test.YtkhbfdokkmebhaaGreatDoorCd
import Derived.Test.YtkhbfdokkmebhaaGreatDoorWb
import Derived.Test.YtkhbfdokkmebhaaGreatDoorShelf
namespace Go.Proofs.YtkhbfdokkmebhaaGreatDoor
open Go.RowKit Kb
set_option linter.unusedVariables false
set_option maxRecDepth 20000

theorem unres_nat (c : UInt8) : Cd.unres c = ((decide (97 ≤ c.toNat) && decide (c.toNat ≤ 122)) || (decide (65 ≤ c.toNat) && decide (c.toNat ≤ 90)) || (decide (48 ≤ c.toNat) && decide (c.toNat ≤ 57)) || decide (0 ≤ Lib.indexByte [45, 46, 95, 126] c)) := by
  have := Kb.u8_all (p := fun c => Cd.unres c == ((decide (97 ≤ c.toNat) && decide (c.toNat ≤ 122)) || (decide (65 ≤ c.toNat) && decide (c.toNat ≤ 90)) || (decide (48 ≤ c.toNat) && decide (c.toNat ≤ 57)) || decide (0 ≤ Lib.indexByte [45, 46, 95, 126] c))) (by decide +kernel) c
  simpa using this

/-- what has been written of the first k bytes -/
def Fm (f : UInt8 → List UInt8) (s : ByteArray) (k : Nat) : List UInt8 := (s.data.toList.take k).flatMap f
theorem Fm_succ (f : UInt8 → List UInt8) (s : ByteArray) (k : Nat) (h : k < s.size) : Fm f s (k + 1) = Fm f s k ++ f s[k] := by
  unfold Fm; rw [Kb.take_snoc s k h]; simp
theorem Fm_all (f : UInt8 → List UInt8) (s : ByteArray) (k : Nat) (h : s.size ≤ k) : Fm f s k = s.data.toList.flatMap f := by
  unfold Fm; rw [Kb.take_all s k h]
theorem Fm_u (s : ByteArray) (k : Nat) : (Fm Cd.u1 s k).length ≤ 3 * k := by
  have := Cd.urlEnc_len (s.data.toList.take k); rw [List.length_take] at this; unfold Fm; unfold Cd.urlEnc at this; omega
theorem Fm_h (s : ByteArray) (k : Nat) : (Fm Cd.h1 s k).length ≤ 2 * k := by
  have := Cd.hexEnc_len (s.data.toList.take k); rw [List.length_take] at this; unfold Fm; unfold Cd.hexEnc at this; omega

theorem tab_hX : ∀ k : Fin 16, (({ data := #[48, 49, 50, 51, 52, 53, 54, 55, 56, 57, 65, 66, 67, 68, 69, 70] } : ByteArray)[k.1]'(k.2)) = Cd.hX (UInt8.ofNat k.1) := by decide
theorem tab_atX (z : Int) (k : UInt8) (hz : z = k.toNat) (hb : z.toNat < 16) : (({ data := #[48, 49, 50, 51, 52, 53, 54, 55, 56, 57, 65, 66, 67, 68, 69, 70] } : ByteArray)[z.toNat]'hb) = Cd.hX k := by
  subst hz
  have := tab_hX ⟨k.toNat, by simpa using hb⟩
  simpa using this
theorem tab_hs : ∀ k : Fin 16, (({ data := #[48, 49, 50, 51, 52, 53, 54, 55, 56, 57, 97, 98, 99, 100, 101, 102] } : ByteArray)[k.1]'(k.2)) = Qt.hx (UInt8.ofNat k.1) := by decide
theorem tab_ats (z : Int) (k : UInt8) (hz : z = k.toNat) (hb : z.toNat < 16) : (({ data := #[48, 49, 50, 51, 52, 53, 54, 55, 56, 57, 97, 98, 99, 100, 101, 102] } : ByteArray)[z.toNat]'hb) = Qt.hx k := by
  subst hz
  have := tab_hs ⟨k.toNat, by simpa using hb⟩
  simpa using this
theorem own_pct {c : UInt8} (hu : Cd.unres c = false) (h32 : ¬ c.toNat = 32) (p1 : ((c.toNat : Int) / 16).toNat < 16) (p2 : ((c.toNat : Int) % 16).toNat < 16) :
    [Value.int .u8 37, Value.int .u8 ((({ data := #[48, 49, 50, 51, 52, 53, 54, 55, 56, 57, 65, 66, 67, 68, 69, 70] } : ByteArray)[((c.toNat : Int) / 16).toNat]'p1).toNat : Int),
      Value.int .u8 ((({ data := #[48, 49, 50, 51, 52, 53, 54, 55, 56, 57, 65, 66, 67, 68, 69, 70] } : ByteArray)[((c.toNat : Int) % 16).toNat]'p2).toNat : Int)] = cells (Cd.u1 c) ∧ (Cd.u1 c).length = 3 := by
  have e : Cd.u1 c = [37, Cd.hX (c / 16), Cd.hX (c % 16)] := by
    unfold Cd.u1; rw [if_neg (by simp [hu]), if_neg (show c ≠ 32 from Kb.ne_of_nat (by decide) h32)]
  rw [e, tab_atX _ (c / 16) (by simp) p1, tab_atX _ (c % 16) (by simp) p2]
  exact ⟨rfl, rfl⟩
theorem own_hx {c : UInt8} (p1 : ((c.toNat : Int) / 16).toNat < 16) (p2 : ((c.toNat : Int) % 16).toNat < 16) :
    [Value.int .u8 ((({ data := #[48, 49, 50, 51, 52, 53, 54, 55, 56, 57, 97, 98, 99, 100, 101, 102] } : ByteArray)[((c.toNat : Int) / 16).toNat]'p1).toNat : Int),
      Value.int .u8 ((({ data := #[48, 49, 50, 51, 52, 53, 54, 55, 56, 57, 97, 98, 99, 100, 101, 102] } : ByteArray)[((c.toNat : Int) % 16).toNat]'p2).toNat : Int)] = cells (Cd.h1 c) ∧ (Cd.h1 c).length = 2 := by
  rw [tab_ats _ (c / 16) (by simp) p1, tab_ats _ (c % 16) (by simp) p2]
  exact ⟨rfl, rfl⟩

theorem u1_blank {c : UInt8} (h : c.toNat = 32) : Cd.u1 c = [43] := by
  have : c = 32 := UInt8.toNat_inj.1 h
  subst this; decide

/-- the byte that two digits write -/
def hb : List UInt8 → Option UInt8
  | x :: y :: _ => match Cd.dv x, Cd.dv y with
    | some p, some q => some (p * 16 + q)
    | _, _ => none
  | _ => none
def hbV (l : List UInt8) : Int := match hb l with | some c => c.toNat | none => 0
def hbB (l : List UInt8) : Bool := (hb l).isSome
theorem dig_dv (x : UInt8) : Num.dig x.toNat = match Cd.dv x with | some p => (p.toNat : Int) | none => -1 := by
  have := Kb.u8_all (p := fun x => Num.dig x.toNat == match Cd.dv x with | some p => (p.toNat : Int) | none => -1) (by decide +kernel) x
  simpa using this
theorem dv_lt {x p : UInt8} (h : Cd.dv x = some p) : p.toNat < 16 := by
  have := Kb.u8_all (p := fun x => match Cd.dv x with | some p => decide (p.toNat < 16) | none => true) (by decide +kernel) x
  simpa [h] using this
theorem pq8 {p q : UInt8} (hp : p.toNat < 16) (hq : q.toNat < 16) : (p * 16 + q : UInt8).toNat = p.toNat * 16 + q.toNat := by
  have : ∀ a b : Fin 16, (UInt8.ofNat a.1 * 16 + UInt8.ofNat b.1 : UInt8).toNat = a.1 * 16 + b.1 := by decide +kernel
  have h2 := this ⟨p.toNat, hp⟩ ⟨q.toNat, hq⟩
  simp only [UInt8.ofNat_toNat] at h2
  exact h2
theorem ans2 (x y : UInt8) : Num.ans 16 7 [x, y] = match hb [x, y] with | some c => ((c.toNat : Int), 0) | none => (0, 4) := by
  have dx := dig_dv x
  have dy := dig_dv y
  unfold Num.ans Num.num
  rw [if_neg (by simp)]
  simp only [List.foldl_cons, List.foldl_nil, Num.step, hb]
  cases hx : Cd.dv x with
  | none => rw [hx] at dx; simp only at dx; simp [dx]
  | some p =>
    have p16 := dv_lt hx
    rw [hx] at dx; simp only at dx
    rw [dx, if_neg (by omega)]
    cases hy : Cd.dv y with
    | none => rw [hy] at dy; simp only at dy; simp [dy]
    | some q =>
      have q16 := dv_lt hy
      rw [hy] at dy; simp only at dy
      simp only
      rw [dy, if_neg (by omega), pq8 p16 q16]
      simp
theorem hb_ans (l : List UInt8) (h : 2 ≤ l.length) : Num.ans 16 7 (l.take 2) = (hbV l, if hbB l then 0 else 4) := by
  match l, h with
  | x :: y :: r, _ =>
    show Num.ans 16 7 [x, y] = _
    rw [ans2]
    have e : hb (x :: y :: r) = hb [x, y] := rfl
    unfold hbV hbB
    rw [e]
    cases hb [x, y] <;> rfl
theorem hbV_lt (l : List UInt8) : 0 ≤ hbV l ∧ hbV l < 256 := by
  unfold hbV; split
  · rename_i c _; have := c.toNat_lt; omega
  · omega

set_option maxHeartbeats 1000000 in
theorem hexByte_any (s : ByteArray) (w : World) (hs : s.size ≤ maxLen) :
    Calls Tryz.prog 46 #[.string s] w fun e w' => e = .returned (.tuple #[.int .u8 (hbV s.data.toList), .bool (hbB s.data.toList)]) ∧ w' = w := by
  unfold maxLen at hs
  by_cases h2 : s.size < 2
  · have HR : Hid (hbV s.data.toList = 0 ∧ hbB s.data.toList = false) := hide (by
      have hl : s.data.toList.length = s.size := by simp
      match hm : s.data.toList, hl with
      | [], _ => exact ⟨rfl, rfl⟩
      | [_], _ => exact ⟨rfl, rfl⟩
      | _ :: _ :: _, hl => simp at hl; omega)
    go_enter Tryz.func46, Tryz.ntmps46
    go_wp2
    go_ret2
    exact ⟨Kb.ret_int_bool (by rw [(unhide HR).1]) (by rw [(unhide HR).2]), rfl⟩
  · have HH := hide (hex_any (s.extract 0 2) w (by unfold maxLen; simp; omega))
    have e2 : (s.extract 0 2).data.toList = s.data.toList.take 2 := by rw [Lib.extract_data]; rfl
    rw [e2, hb_ans _ (by simp; omega)] at HH
    clear e2
    have hv := hbV_lt s.data.toList
    have hw : IntKind.u8.wrap (hbV s.data.toList) = hbV s.data.toList := by simp [IntKind.wrap, IntKind.signed, IntKind.bits]; omega
    generalize hbV s.data.toList = v at *
    rcases hbl : hbB s.data.toList with _ | _
    all_goals
      rw [hbl] at HH
      go_enter Tryz.func46, Tryz.ntmps46
      go_wp2_with (go_at_call 62; refine (unhide HH).mono ?_; rintro e wx ⟨rfl, rfl⟩)
      go_ret2
      exact ⟨Kb.ret_int_bool (by omega) rfl, rfl⟩
end Go.Proofs.YtkhbfdokkmebhaaGreatDoor
