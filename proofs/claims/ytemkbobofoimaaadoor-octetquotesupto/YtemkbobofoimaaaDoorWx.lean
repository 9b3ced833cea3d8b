/- The walk of the program's Utf8. -/
import Derived.Test.YtemkbobofoimaaaDoorChecked
import Derived.Test.YtemkbobofoimaaaDoorShelf
import Derived.Test.YtemkbobofoimaaaDoorU8
import Derived.WalkKit
import Derived.WalkSpells
import Derived.Lib.IndexBytes
namespace Go.Proofs.YtemkbobofoimaaaDoor
open Go.RowKit
set_option linter.unusedVariables false

theorem hidx {p : Prop} (h : p) : Hid p := h
theorem ret_bool_int {a b : Bool} {c d : Int} (h : a = b) (g : c = d) : Ending.returned (.tuple #[.bool a, .int .i64 c]) = .returned (.tuple #[.bool b, .int .i64 d]) := by rw [h, g]

theorem tabs_below {w wr : World} (h : Lib.Utf8Tabs 1 2 w) (hb : Below w.heap.size w wr) : Lib.Utf8Tabs 1 2 wr := by
  refine ⟨fun c hc => ?_, fun i hi => ⟨?_, ?_⟩⟩
  · exact (hb.cell (World.block_lt_of_cell? _ _ (h.1 c hc))).trans (h.1 c hc)
  · exact (hb.cell (World.block_lt_of_cell? _ _ (h.2 i hi).1)).trans (h.2 i hi).1
  · exact (hb.cell (World.block_lt_of_cell? _ _ (h.2 i hi).2)).trans (h.2 i hi).2

theorem bad_at {l : List UInt8} {k : Nat} (hu : U8.bad l = (U8.bad (l.drop k)).map (· + k)) (hk : l.drop k ≠ []) (h0 : U8.sl (l.drop k) = 0) : U8.isV l = false ∧ U8.atV l = k := by
  rw [U8.bad_zero hk h0] at hu
  simp [U8.isV, U8.atV, hu]
theorem bad_end {l : List UInt8} {k : Nat} (hu : U8.bad l = (U8.bad (l.drop k)).map (· + k)) (hk : l.drop k = []) : U8.isV l = true ∧ U8.atV l = 0 := by
  rw [hk, U8.bad_nil] at hu
  simp [U8.isV, U8.atV, hu]
theorem bad_on {l : List UInt8} {k : Nat} (hu : U8.bad l = (U8.bad (l.drop k)).map (· + k)) (h0 : 0 < U8.sl (l.drop k)) : U8.bad l = (U8.bad (l.drop (k + U8.sl (l.drop k)))).map (· + (k + U8.sl (l.drop k))) := by
  rw [hu, U8.bad_step h0, Option.map_map, List.drop_drop]
  congr 1
  funext x
  simp; omega

set_option maxHeartbeats 2000000 in
theorem utf8_any (s : ByteArray) (w : World) (hs : s.size ≤ 68719476736) (hT : Lib.Utf8Tabs 1 2 w) :
    Calls Tryd.prog 14 #[.string s] w fun e w' => e = .returned (.tuple #[.bool (U8.isV s.data.toList), .int .i64 (U8.atV s.data.toList)]) ∧ Below w.heap.size w w' := by
  have HT := hidx hT
  clear hT
  go_enter Tryd.func14, Tryd.ntmps14
  go_wp2
  go_loopw [4] (fun i wr => ∃ k : Nat, k ≤ s.size ∧ i = .int .i64 k ∧ U8.bad s.data.toList = (U8.bad (s.data.toList.drop k)).map (· + k) ∧ Below w.heap.size w wr) (fun i _ => s.size - (intOf i).toNat)
  case atStart => exact ⟨0, Nat.zero_le _, rfl, by simp, Below.refl _ _⟩
  case round =>
    obtain ⟨k, hk, rfl, hu, hbel⟩ := hrel
    have HB := hidx hbel
    have HU := hidx hu
    clear hbel hu
    by_cases hlt : k < s.size
    · have hne : s.data.toList.drop k ≠ [] := by intro e; have := congrArg List.length e; simp at this; omega
      have hf := U8.decodeGo_fits (s.extract k s.size) (by rw [Lib.extract_to_end]; exact hne)
      have HC := hidx (Tryd.utf8_DecodeRuneInString (s.extract k s.size) wr (tabs_below HT.out HB.out))
      rw [Lib.extract_to_end] at hf
      generalize Lib.decodeGo (s.extract k s.size) = p at *
      obtain ⟨p1, p2⟩ := p
      rcases hf with ⟨hz, e1, e2⟩ | ⟨hpos, e2, hno⟩
      · have HR := hidx (bad_at HU.out hne hz)
        simp only at e1 e2
        subst e1 e2
        clear hne hz
        go_wp2_with (go_at_call 32; refine HC.out.mono ?_; rintro e wx ⟨rfl, bx⟩)
        go_ret2
        exact ⟨ret_bool_int HR.out.1.symm (by rw [HR.out.2]), HB.out.trans (bx.mono HB.out.size)⟩
      · have HR := hidx (bad_on HU.out hpos)
        have hle := U8.sl_le (s.data.toList.drop k)
        simp only at e2 hno
        rw [List.length_drop, show s.data.toList.length = s.size from by simp] at hle
        generalize U8.sl (s.data.toList.drop k) = j at *
        subst e2
        clear hne
        by_cases hr : p1 = 65533
        · have hn1 : ((p2 : Int) == 1) = false := by rw [beq_eq_false_iff_ne]; omega
          have hr' : ((p1 : Int) == 65533) = true := by rw [beq_iff_eq]; omega
          have Hr := hidx hr
          clear hno hr
          go_wp2_with (go_at_call 32; refine HC.out.mono ?_; rintro e wx ⟨rfl, bx⟩)
          exact ⟨⟨k + p2, by omega, by go_num, HR.out, HB.out.trans (bx.mono HB.out.size)⟩, by simp [intOf]; omega⟩
        · have hr' : ((p1 : Int) == 65533) = false := by rw [beq_eq_false_iff_ne]; omega
          clear hno hr
          go_wp2_with (go_at_call 32; refine HC.out.mono ?_; rintro e wx ⟨rfl, bx⟩)
          exact ⟨⟨k + p2, by omega, by go_num, HR.out, HB.out.trans (bx.mono HB.out.size)⟩, by simp [intOf]; omega⟩
    · have HR := hidx (bad_end HU.out (by rw [List.drop_eq_nil_iff]; simp; omega))
      go_wp2
      go_ret2
      exact ⟨ret_bool_int HR.out.1.symm (by rw [HR.out.2]; rfl), HB.out⟩
end Go.Proofs.YtemkbobofoimaaaDoor
