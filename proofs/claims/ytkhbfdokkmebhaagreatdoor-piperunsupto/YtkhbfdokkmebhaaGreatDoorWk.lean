/- The calls of base 64, told by texts of their own names. -/
import Derived.Test.YtkhbfdokkmebhaaGreatDoorWg
import Derived.Test.YtkhbfdokkmebhaaGreatDoorWj
namespace Go.Proofs.YtkhbfdokkmebhaaGreatDoor
open Go.RowKit Kb
set_option linter.unusedVariables false
set_option maxRecDepth 20000

theorem bd_at (s q : ByteArray) (hq : C6.dec64 s.data.toList = some q.data.toList) (hs : s.size ≤ 68719476736) (w : World) :
    Calls Tryz.prog 26 #[.string s] w fun e w' => e = .returned (.tuple #[.string q, .int .i64 0]) ∧ Below w.heap.size w w' := by
  have := b64dec_any s w hs
  rw [show bdV s.data.toList = q.data.toList from by unfold bdV; rw [hq]; rfl, show bdE s.data.toList = 0 from by unfold bdE; rw [hq]; rfl, back_list q _ rfl] at this
  exact this
theorem bd_bad (s : ByteArray) (hq : C6.dec64 s.data.toList = none) (hs : s.size ≤ 68719476736) (w : World) :
    Calls Tryz.prog 26 #[.string s] w fun e w' => e = .returned (.tuple #[.string ⟨#[]⟩, .int .i64 4]) ∧ Below w.heap.size w w' := by
  have := b64dec_any s w hs
  rw [show bdV s.data.toList = [] from by unfold bdV; rw [hq]; rfl, show bdE s.data.toList = 4 from by unfold bdE; rw [hq]; rfl] at this
  exact this
theorem plain_at (t : ByteArray) (h : t.data.toList.all Cd.plain = true) (k : Nat) (hk : k < t.size) : 33 ≤ t[k].toNat ∧ t[k].toNat ≤ 126 := by
  have hm : t[k] ∈ t.data.toList := by
    have h' : k < t.data.toList.length := by simpa using hk
    have := List.getElem_mem h'
    exact this
  have := List.all_eq_true.1 h _ hm
  unfold Cd.plain at this
  simp [UInt8.le_iff_toNat_le] at this
  exact this
theorem dec_len {l m : List UInt8} (h : C6.dec64 l = some m) : m.length ≤ l.length := by
  have := C6.enc_dec _ l m (Nat.le_refl _) h
  have h2 := C6.enc_len m
  rw [this] at h2; omega
end Go.Proofs.YtkhbfdokkmebhaaGreatDoor
