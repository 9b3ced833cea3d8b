/- The walk of Lower. -/
import Derived.Test.YtmgealcolofomaaDoorWs
import Derived.Lib.ConvBytes
namespace Go.Proofs.YtmgealcolofomaaDoor
open Go.RowKit
set_option linter.unusedVariables false
set_option maxRecDepth 20000

def low8 (c : UInt8) : UInt8 := if 65 ≤ c ∧ c ≤ 90 then c + 32 else c
def lower (l : List UInt8) : List UInt8 := l.map low8
theorem u8_all {p : UInt8 → Bool} (h : (List.range 256).all (fun n => p (UInt8.ofNat n)) = true) (c : UInt8) : p c = true := by
  have := List.all_eq_true.1 h c.toNat (List.mem_range.2 c.toNat_lt)
  simpa using this
theorem low8_int (c : UInt8) : smallOf c.toNat = (low8 c).toNat := by
  have := u8_all (p := fun c => smallOf c.toNat == (low8 c).toNat) (by decide +kernel) c
  simpa using this
theorem low8_low8 (c : UInt8) : low8 (low8 c) = low8 c := by
  have := u8_all (p := fun c => low8 (low8 c) == low8 c) (by decide +kernel) c
  simpa using this
theorem lower_lower (l : List UInt8) : lower (lower l) = lower l := by
  unfold lower; rw [List.map_map]; congr 1; funext c; exact low8_low8 c

theorem small8 (c : UInt8) (w : World) : Calls Tryd.prog 57 #[.int .u8 c.toNat] w fun e w' => e = .returned (.int .u8 (low8 c).toNat) ∧ w' = w := by
  have hc := c.toNat_lt
  have := small_any c.toNat w (by omega) (by omega)
  rwa [low8_int] at this

/-- what the row of the call's own holds when k of its bytes are turned -/
def rowAt (w : World) (b : Nat) (s : ByteArray) (k : Nat) : Prop :=
  ∀ j (hj : j < s.size), w.cell? ⟨b, j, none⟩ = some (.int .u8 ((if j < k then low8 s[j] else s[j]).toNat : Int)) ∧ w.frozen? ⟨b, j, none⟩ = false

theorem rowAt_next {w : World} {b k : Nat} {s : ByteArray} (h : rowAt w b s k) (hk : k < s.size) : rowAt (w.setCell ⟨b, k, none⟩ (.int .u8 (low8 s[k]).toNat)) b s (k + 1) := by
  intro j hj
  refine ⟨?_, by rw [World.frozen?_setCell]; exact (h j hj).2⟩
  by_cases e : j = k
  · subst e
    rw [if_pos (by omega)]
    exact World.cell?_setCell_same _ _ _ (h j hj).1
  · rw [World.cell?_setCell_other _ _ _ _ (by intro x; apply e; simpa using x.symm)]
    by_cases hlt : j < k
    · rw [if_pos (by omega)]; have := (h j hj).1; rwa [if_pos hlt] at this
    · rw [if_neg (by omega)]; have := (h j hj).1; rwa [if_neg hlt] at this

theorem below_bytes (w : World) (s : ByteArray) : Below w.heap.size w (Lib.bytesWorld w 5 s) :=
  ⟨rfl, rfl, rfl, by rw [Lib.bytesWorld_size]; omega, fun k hk => Lib.bytesWorld_at_old w 5 s k hk⟩

theorem rowAt_start (w : World) (s : ByteArray) : rowAt (Lib.bytesWorld w 5 s) w.heap.size s 0 := by
  intro j hj
  refine ⟨?_, ?_⟩
  · rw [Lib.bytesWorld_cell w 5 s j hj, if_neg (by omega)]
    have : s.data.toList.getD j 0 = s[j] := by
      simp [List.getD, List.getElem?_eq_getElem (show j < s.data.toList.length by simpa using hj)]; rfl
    rw [this]
  · have hsz : j < (Lib.bytesCells w 5 s).size := by simp [Lib.bytesCells]; omega
    simp [World.frozen?, Lib.bytesWorld_at_new]
    omega

theorem rowAt_end {w : World} {b : Nat} {s : ByteArray} (h : rowAt w b s s.size) (cap : Nat) : (convert 101 9 (.slice (some ⟨b, 0, none⟩) s.size cap)).run Tryd.prog w = .ok (.string ⟨(lower s.data.toList).toArray⟩) w := by
  have hl : (lower s.data.toList).length = s.size := by simp [lower]
  have := run_convert_bytes_back (P := Tryd.prog) w 101 9 5 ⟨b, 0, none⟩ cap (lower s.data.toList) Tryd.underlying101 Tryd.underlying5 Tryd.underlying9 (fun j hj => by
    have hj' : j < s.size := by omega
    rw [Addr.add_lit, Nat.zero_add, (h j hj').1, if_pos hj']
    simp [lower]; rfl)
  rwa [hl] at this

set_option maxHeartbeats 2000000 in
theorem lower_any (s : ByteArray) (w : World) (hs : s.size ≤ 140737488355328) :
    Calls Tryd.prog 30 #[.string s] w fun e w' => e = .returned (.string ⟨(lower s.data.toList).toArray⟩) ∧ Below w.heap.size w w' := by
  have hcv := Lib.run_convert_string_bytes (P := Tryd.prog) w 9 101 5 s Tryd.underlying9 Tryd.underlying101 Tryd.underlying5
  have hbw := hide (below_bytes w s)
  have hst := hide (rowAt_start w s)
  generalize Lib.bytesWorld w 5 s = wb at *
  generalize grownCap w s.size 0 5 = cap at *
  go_enter Tryd.func30, Tryd.ntmps30
  go_wp2
  go_loopw [10] (fun i wr => ∃ k : Nat, k ≤ s.size ∧ i = .int .i64 k ∧ rowAt wr w.heap.size s k ∧ Below w.heap.size w wr) (fun i _ => s.size - (intOf i).toNat)
  case atStart => exact ⟨0, Nat.zero_le _, rfl, unhide hst, unhide hbw⟩
  case round =>
    obtain ⟨k, hk, rfl, hrow, hbel⟩ := hrel
    have HB := hide hbel
    have HR := hide hrow
    clear hbel hrow hcv
    by_cases hlt : k < s.size
    · have hc := ((unhide HR) k hlt).1
      have hf := ((unhide HR) k hlt).2
      rw [if_neg (by omega)] at hc
      have HS := hide (small8 s[k])
      go_wp2_with (go_at_call 57; refine ((unhide HS) _).mono ?_; rintro e wx ⟨rfl, rfl⟩)
      exact ⟨⟨k + 1, by omega, by go_num, rowAt_next (unhide HR) hlt, (unhide HB).setCell (Nat.le_refl _) _⟩, by simp [intOf]; omega⟩
    · obtain rfl : k = s.size := by omega
      have hcv := rowAt_end (unhide HR) cap
      go_wp2
      go_ret
      exact ⟨rfl, unhide HB⟩
end Go.Proofs.YtmgealcolofomaaDoor
