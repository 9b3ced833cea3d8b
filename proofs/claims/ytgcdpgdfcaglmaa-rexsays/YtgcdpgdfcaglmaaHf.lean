/- How the document writes bytes: char. -/
import Derived.Test.YtgcdpgdfcaglmaaRi
import Derived.Test.YtgcdpgdfcaglmaaKc
namespace Go.Proofs.Ytgcdpgdfcaglmaa
open Go.RowKit Kb
set_option linter.unusedVariables false
set_option maxRecDepth 20000

/-- two digits of a byte, out of sixteen -/
def twoH (d : ByteArray) (b : UInt8) : List UInt8 := [d.data.toList.getD (b.toNat / 16) 0, d.data.toList.getD (b.toNat % 16) 0]
set_option maxHeartbeats 2000000 in
theorem twoH_any (b : UInt8) (d : ByteArray) (w : World) (hd : d.size = 16) :
    Calls Try.prog 44 #[.int .u8 b.toNat, .string d] w fun e w' => e = .returned (.string ⟨(twoH d b).toArray⟩) ∧ Below w.heap.size w w' := by
  have hb := b.toNat_lt
  have HR := hide (show d.extract (b.toNat / 16) (b.toNat / 16 + 1) ++ d.extract (b.toNat % 16) (b.toNat % 16 + 1) = ⟨(twoH d b).toArray⟩ by
    rw [Kb.get_at d _ (by omega), Kb.get_at d _ (by omega), Kb.cat_list]; rfl)
  obtain ⟨q, hq⟩ : ∃ q, b.toNat / 16 = q := ⟨_, rfl⟩
  obtain ⟨r, hr⟩ : ∃ r, b.toNat % 16 = r := ⟨_, rfl⟩
  rw [hq, hr] at HR
  have hq' : (b.toNat : Int) / 16 = q := by omega
  have hr' : (b.toNat : Int) % 16 = r := by omega
  have hqb : (q : Int) < 16 := by omega
  have hrb : (r : Int) < 16 := by omega
  have hd' : (d.size : Int) = 16 := by omega
  go_enter Try.func44, Try.ntmps44
  go_wp2
  go_quiet (fail)
  go_wp2
  go_ret
  exact ⟨Kb.ret_str (unhide HR), Go.below_drewN (Below.refl _ _) _⟩
def hexs : ByteArray := ⟨#[48, 49, 50, 51, 52, 53, 54, 55, 56, 57, 97, 98, 99, 100, 101, 102]⟩
/-- the signs that stand behind a \ -/
def specs : List UInt8 := [40, 41, 91, 93, 124, 42, 43, 63, 46, 94, 36, 45, 92]
/-- how a byte is written -/
def charT (b : UInt8) : List UInt8 :=
  if b.toNat = 10 then [92, 110] else if b.toNat = 9 then [92, 116] else if b.toNat = 13 then [92, 114] else if b.toNat < 33 ∨ 126 < b.toNat then [92, 120] ++ twoH hexs b else if has specs b = true then [92, b] else [b]
set_option maxHeartbeats 1000000 in
theorem char_any (b : UInt8) (w : World) :
    Calls Try.prog 32 #[.int .i64 b.toNat] w fun e w' => e = .returned (.string (mk (charT b))) ∧ Below w.heap.size w w' := by
  have hb := b.toNat_lt
  have hw8 : IntKind.u8.wrap (b.toNat : Int) = b.toNat := by simp [IntKind.wrap, IntKind.signed, IntKind.bits]; omega
  have hcv : ∀ (W : World) (bk : Nat), W.cell? ⟨bk, 0, none⟩ = some (.int .u8 b.toNat) → (convert 48 9 (.slice (some ⟨bk, 0, none⟩) 1 1)).run Try.prog W = .ok (.string ⟨[b].toArray⟩) W := fun W bk h => Kb.conv_one W bk _ h
  have ba : Below w.heap.size w (w.alloc (.cells #[.int .u8 b.toNat] 5)) := (Below.refl _ _).alloc (Nat.le_refl _) _
  have HT := hide (fun W => twoH_any b hexs W rfl)
  have HI := hide (fun W => in_any b ⟨specs.toArray⟩ W (by unfold maxLen; decide))
  unfold specs at HI
  unfold hexs at HT
  by_cases h10 : b.toNat = 10
  · have HC : Hid (charT b = [92, 110]) := hide (by unfold charT; rw [if_pos h10])
    have e10 : ((b.toNat : Int) == 10) = true := by rw [h10]; rfl
    clear h10
    go_enter Try.func32, Try.ntmps32
    go_wp2_with fail
    go_ret
    exact ⟨by rw [unhide HC]; rfl, ba⟩
  have e10 : ((b.toNat : Int) == 10) = false := by rw [beq_eq_false_iff_ne]; omega
  by_cases h9 : b.toNat = 9
  · have HC : Hid (charT b = [92, 116]) := hide (by unfold charT; rw [if_neg h10, if_pos h9])
    have e9 : ((b.toNat : Int) == 9) = true := by rw [h9]; rfl
    clear h10 h9
    go_enter Try.func32, Try.ntmps32
    go_wp2_with fail
    go_ret
    exact ⟨by rw [unhide HC]; rfl, ba⟩
  have e9 : ((b.toNat : Int) == 9) = false := by rw [beq_eq_false_iff_ne]; omega
  by_cases h13 : b.toNat = 13
  · have HC : Hid (charT b = [92, 114]) := hide (by unfold charT; rw [if_neg h10, if_neg h9, if_pos h13])
    have e13 : ((b.toNat : Int) == 13) = true := by rw [h13]; rfl
    clear h10 h9 h13
    go_enter Try.func32, Try.ntmps32
    go_wp2_with fail
    go_ret
    exact ⟨by rw [unhide HC]; rfl, ba⟩
  have e13 : ((b.toNat : Int) == 13) = false := by rw [beq_eq_false_iff_ne]; omega
  by_cases hx : b.toNat < 33 ∨ 126 < b.toNat
  · have HC : Hid (charT b = [92, 120] ++ twoH hexs b) := hide (by unfold charT; rw [if_neg h10, if_neg h9, if_neg h13, if_pos hx])
    rcases hx with hx | hx
    · have hI : (b.toNat : Int) < 33 := by omega
      go_enter Try.func32, Try.ntmps32
      go_wp2_with fail
      refine ((unhide HT) _).mono ?_
      rintro e w3 ⟨rfl, b3⟩
      have B3 := hide (bel_trans ba b3)
      clear b3
      go_wp2_with fail
      go_ret
      exact ⟨by rw [unhide HC]; exact Kb.ret_str (Kb.cat_list [92, 120] _), unhide B3⟩
    · have hI : ¬ ((b.toNat : Int) < 33) := by omega
      have hJ : (b.toNat : Int) > 126 := by omega
      go_enter Try.func32, Try.ntmps32
      go_wp2_with fail
      refine ((unhide HT) _).mono ?_
      rintro e w3 ⟨rfl, b3⟩
      have B3 := hide (bel_trans ba b3)
      clear b3
      go_wp2_with fail
      go_ret
      exact ⟨by rw [unhide HC]; exact Kb.ret_str (Kb.cat_list [92, 120] _), unhide B3⟩
  have hI : ¬ ((b.toNat : Int) < 33) := by omega
  have hJ : ¬ ((b.toNat : Int) > 126) := by omega
  cases hs : has specs b
  · have HC : Hid (charT b = [b]) := hide (by unfold charT; rw [if_neg h10, if_neg h9, if_neg h13, if_neg hx, if_neg (by rw [hs]; simp)])
    have hs' : has [40, 41, 91, 93, 124, 42, 43, 63, 46, 94, 36, 45, 92] b = false := hs
    clear hs
    go_enter Try.func32, Try.ntmps32
    go_wp2_with fail
    refine ((unhide HI) _).mono ?_
    rintro e wx ⟨rfl, hwx⟩; rw [hwx]; clear hwx wx
    rw [show has (⟨[40, 41, 91, 93, 124, 42, 43, 63, 46, 94, 36, 45, 92].toArray⟩ : ByteArray).data.toList b = false from hs']
    go_wp2_with fail
    go_ret
    exact ⟨by rw [unhide HC]; rfl, ba⟩
  · have HC : Hid (charT b = [92, b]) := hide (by unfold charT; rw [if_neg h10, if_neg h9, if_neg h13, if_neg hx, if_pos hs])
    have hs' : has [40, 41, 91, 93, 124, 42, 43, 63, 46, 94, 36, 45, 92] b = true := hs
    clear hs
    go_enter Try.func32, Try.ntmps32
    go_wp2_with fail
    refine ((unhide HI) _).mono ?_
    rintro e wx ⟨rfl, hwx⟩; rw [hwx]; clear hwx wx
    rw [show has (⟨[40, 41, 91, 93, 124, 42, 43, 63, 46, 94, 36, 45, 92].toArray⟩ : ByteArray).data.toList b = true from hs']
    go_wp2_with fail
    go_ret
    exact ⟨by rw [unhide HC]; exact Kb.ret_str (Kb.cat_list [92] [b]), ba⟩
end Go.Proofs.Ytgcdpgdfcaglmaa
