/- The calls of coding, told by texts of their own names. -/
import Derived.Test.YtejjbnbaholbbaaWe
namespace Go.Proofs.Ytejjbnbaholbbaa
open Go.RowKit Kb
set_option linter.unusedVariables false

theorem bel_trans {w a b : World} (h : Below w.heap.size w a) (g : Below a.heap.size a b) : Below w.heap.size w b := h.trans (g.mono h.size)
theorem back_list (q : ByteArray) (l : List UInt8) (h : q.data.toList = l) : (⟨l.toArray⟩ : ByteArray) = q := (Kb.eq_list h).symm
theorem ud_at (s q : ByteArray) (hq : q.data.toList = Cd.urlDec s.data.toList) (hs : s.size ≤ 68719476736) (w : World) :
    Calls Try.prog 10 #[.string s] w fun e w' => e = .returned (.string q) ∧ Below w.heap.size w w' := by
  have := urlDecode_any s w hs
  rwa [back_list q _ hq] at this
theorem ue_at (s q : ByteArray) (hq : q.data.toList = Cd.urlEnc s.data.toList) (hs : s.size ≤ 68719476736) (w : World) :
    Calls Try.prog 8 #[.string s] w fun e w' => e = .returned (.string q) ∧ Below w.heap.size w w' := by
  have := urlEncode_any s w hs
  rwa [back_list q _ hq] at this
theorem he_at (s q : ByteArray) (hq : q.data.toList = Cd.hexEnc s.data.toList) (hs : s.size ≤ 68719476736) (w : World) :
    Calls Try.prog 18 #[.string s] w fun e w' => e = .returned (.string q) ∧ Below w.heap.size w w' := by
  have := hexEncode_any s w hs
  rwa [back_list q _ hq] at this
theorem hd_at (s q : ByteArray) (hq : Cd.hexDec s.data.toList = some q.data.toList) (hs : s.size ≤ 68719476736) (w : World) :
    Calls Try.prog 14 #[.string s] w fun e w' => e = .returned (.tuple #[.string q, .int .i64 0]) ∧ Below w.heap.size w w' := by
  have := hexDecode_any s w hs
  rw [show hdV s.data.toList = q.data.toList from by unfold hdV; rw [hq]; rfl, show hdE s.data.toList = 0 from by unfold hdE; rw [hq]; rfl, back_list q _ rfl] at this
  exact this
theorem hd_bad (s : ByteArray) (hq : Cd.hexDec s.data.toList = none) (hs : s.size ≤ 68719476736) (w : World) :
    Calls Try.prog 14 #[.string s] w fun e w' => e = .returned (.tuple #[.string ⟨#[]⟩, .int .i64 4]) ∧ Below w.heap.size w w' := by
  have := hexDecode_any s w hs
  rw [show hdV s.data.toList = [] from by unfold hdV; rw [hq]; rfl, show hdE s.data.toList = 4 from by unfold hdE; rw [hq]; rfl] at this
  exact this
theorem ht_at (s q : ByteArray) (hq : q.data.toList = Ch.htmlDec s.data.toList) (hs : s.size ≤ 68719476736) (w : World) :
    Calls Try.prog 12 #[.string s] w fun e w' => e = .returned (.string q) ∧ Below w.heap.size w w' := by
  have := htmlDecode_any s w hs
  rwa [back_list q _ hq] at this
theorem ex_list (l : List UInt8) : ∃ q : ByteArray, q.data.toList = l := ⟨⟨l.toArray⟩, by simp⟩
theorem eq_of_lists {a b : ByteArray} (h : a.data.toList = b.data.toList) : a = b := by rw [Kb.eq_list h]
theorem cat_data (a b : ByteArray) : (a ++ b).data.toList = a.data.toList ++ b.data.toList := by simp
theorem len_data (a : ByteArray) : a.data.toList.length = a.size := by simp
end Go.Proofs.Ytejjbnbaholbbaa
