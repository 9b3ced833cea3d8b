/- The walk of the program's Find. -/
import Derived.Test.YtmmjcbfffcnfiaaChecked
import Derived.Test.YtmmjcbfffcnfiaaShelf
import Derived.Test.YtmmjcbfffcnfiaaFnd
import Derived.WalkKit
import Derived.WalkSpells
namespace Go.Proofs.Ytmmjcbfffcnfiaa
open Go.RowKit
set_option linter.unusedVariables false
set_option maxRecDepth 20000

theorem ret_i64 {a b : Int} (h : a = b) : Ending.returned (.int .i64 a) = .returned (.int .i64 b) := by rw [h]

theorem hide1 {p : Prop} (h : p) : Hid p := h

theorem drop_data (s : ByteArray) (a : Nat) : (s.extract a s.size).data.toList = s.data.toList.drop a := Lib.extract_to_end s a

set_option maxHeartbeats 1000000 in
theorem find_any (s t : ByteArray) (frm m : Int) (w : World) (hs : s.size < 4294967281) (hf : -9223372036854775808 ≤ frm) (hf' : frm ≤ 9223372036854775807) (hm : w.cell? ⟨0, 0, none⟩ = some (.int .i64 m)) :
    Calls Try.prog 20 #[.string s, .string t, .int .i64 frm] w fun e w' => e = .returned (.int .i64 (Fnd.find s.data.toList t.data.toList frm)) ∧ w' = w := by
  have hlen : s.data.toList.length = s.size := by simp
  obtain ⟨a, ha⟩ : ∃ a : Int, max frm 0 = a := ⟨_, rfl⟩
  have ha0 : 0 ≤ a := by omega
  by_cases hbig : (s.size : Int) < a
  · have HR : Hid (Fnd.find s.data.toList t.data.toList frm = -1) := by
      show _ = _
      unfold Fnd.find; rw [ha, hlen, if_pos hbig]
    go_enter Try.func20, Try.ntmps20
    go_wp2_with fail
    go_ret
    exact ⟨ret_i64 HR.out.symm, rfl⟩
  · have hi := Lib.index_ge (s.data.toList.drop a.toNat) t.data.toList
    have hi2 := Fnd.find_le s.data.toList t.data.toList frm
    have HC := hide1 (Try.strings_Index (s.extract a.toNat s.size) t m w (by simp; omega) hm)
    rw [drop_data] at HC
    have HR : Hid (Fnd.find s.data.toList t.data.toList frm = if Lib.index (s.data.toList.drop a.toNat) t.data.toList < 0 then -1 else a + Lib.index (s.data.toList.drop a.toNat) t.data.toList) := by
      show _ = _
      unfold Fnd.find; rw [ha, hlen, if_neg hbig]
    rw [HR.out] at hi2
    generalize Lib.index (s.data.toList.drop a.toNat) t.data.toList = i at *
    rw [hlen] at hi2
    by_cases hneg : i < 0
    · clear hi2
      go_enter Try.func20, Try.ntmps20
      go_wp2_with fail
      refine (HC.out).mono ?_; rintro e w' ⟨rfl, rfl⟩
      go_wp2_with fail
      go_ret
      exact ⟨ret_i64 (by rw [HR.out, if_pos hneg]), rfl⟩
    · rw [if_neg hneg] at hi2
      go_enter Try.func20, Try.ntmps20
      go_wp2_with fail
      refine (HC.out).mono ?_; rintro e w' ⟨rfl, rfl⟩
      go_wp2_with fail
      go_ret
      exact ⟨ret_i64 (by rw [HR.out, if_neg (by omega)]), rfl⟩
end Go.Proofs.Ytmmjcbfffcnfiaa
