/- Walks: Some (the program's); Find and Some where the list is wrong or the text too large. -/
import Derived.Test.YtmgealcolofomaaEj
namespace Go.Proofs.Ytmgealcolofomaa
open Go.RowKit Kb
set_option linter.unusedVariables false
set_option maxRecDepth 20000
theorem psome_bad (pv : Value) (p : List In) (s : ByteArray) (w : World) (r : Int) (hI : Insts w pv p) (hn : p.length ≤ 1099511627776) (hr : (if Pm.chk p ≠ 0 then Pm.chk p else if 8192 < s.size then 2 else 0) = r) (h0 : (r == 0) = false) :
    Calls Try.prog 6 #[pv, .string s] w fun e w' => e = .returned (.tuple #[.bool false, .int .i64 r]) ∧ w' = w := by
  have HRY := ready_any pv p s w hI hn
  rw [hr] at HRY
  have HR := hide HRY
  obtain ⟨o, c, rfl, hc⟩ := hI.form
  have hr0 : r ≠ 0 := by simpa using h0
  clear hI hr HRY
  go_enter Try.func6, Try.ntmps6
  go_wp2_with fail
  refine (unhide HR).mono ?_; rintro e wx ⟨rfl, hwx⟩; rw [hwx]; clear hwx wx
  go_wp2_with fail
  go_ret2
  exact ⟨rfl, rfl⟩
def SmP (p : List In) (s : ByteArray) (w : World) (e : Ending) (w' : World) : Prop := ∃ b : Bool, e = .returned (.tuple #[.bool b, .int .i64 0]) ∧ (b = true ↔ ∃ i j, Pm.Span p s.data.toList i j) ∧ Below w.heap.size w w'
set_option maxHeartbeats 1000000 in
theorem psome_any (pv : Value) (p : List In) (s : ByteArray) (w : World) (hI : Insts w pv p) (hn : p.length ≤ 1099511627776) (hz : Pm.chk p = 0) (hs : s.size ≤ 8192) :
    Calls Try.prog 6 #[pv, .string s] w fun e w' => SmP p s w e w' := by
  have HRY := ready_any pv p s w hI hn
  rw [hz] at HRY
  have h8 : ¬ 8192 < s.size := by omega
  rw [if_neg (by simp), if_neg h8] at HRY
  obtain ⟨o, c, rfl, hc⟩ := hI.form
  have g := Pm.good_of_chk hz
  have hinv : Pm.Inv p s.data.toList 0 st0 := Pm.inv_zero p s.data.toList 400 g.small
  have HIN := hide hI
  have HR := hide HRY
  clear HRY hI
  go_enter Try.func6, Try.ntmps6
  go_wp2_with fail
  refine (unhide HR).mono ?_; rintro e wx ⟨rfl, hwx⟩; rw [hwx]; clear hwx wx
  have hz0 := zeroM w
  have hzs := zm_size
  have hzn : (zm = #[]) = False := eq_false zm_ne
  have hst := store_m0 o p.length c s w
  have MN := hide (MX.new w (.slice o p.length c) s)
  obtain ⟨N, hN⟩ : ∃ N, w.heap.size = N := ⟨_, rfl⟩
  obtain ⟨W1, hW1⟩ : ∃ W, w.alloc (.cells (m0 (.slice o p.length c) s) 45) = W := ⟨_, rfl⟩
  rw [hW1] at MN hst
  rw [hN] at MN hst
  have HI := hide hinv
  clear hinv h8
  go_wp2_with fail
  clear hst hW1 hzs hzn hz0
  go_loopw [8] (fun x wr => ∃ (k : Nat) (st : Pm.St) (nv : Value) (nl : List (Nat × Nat)) (xv : Value), x = .int .i64 k ∧ k ≤ s.size + 1 ∧ MX w wr N (.slice o p.length c) s st nv nl xv ∧ Pm.Inv p s.data.toList k st ∧ st.next.length ≤ 400) (fun x _ => s.size + 1 - (intOf x).toNat)
  case atStart => exact ⟨0, st0, _, _, _, rfl, Nat.zero_le _, unhide MN, unhide HI, by decide⟩
  case round =>
    obtain ⟨k, st, nv, nl, xv, rfl, hk, hM, hinv, hnl⟩ := hrel
    have HINV := hide hinv
    have MR := hide hM
    have HEND : Hid (s.size < k ∨ st.found ≠ none → (st.found.isSome = true ↔ ∃ i j, Pm.Span p s.data.toList i j)) := hide (fun h => Pm.some_of_inv (unhide HINV) (by rw [len_data]; exact h))
    obtain ⟨_, _, _, _, k4, k5, k6⟩ := hM.fields
    have BF : Hid (Below w.heap.size w wr) := hide hM.bel
    obtain ⟨b, hb⟩ : ∃ b, st.found.isSome = b := ⟨_, rfl⟩
    rw [hb] at k6 HEND
    have f6 := hM.froz 406
    clear hM hinv
    by_cases hkn : k ≤ s.size
    case neg =>
      have hknI : ¬ ((k : Int) ≤ s.size) := by omega
      have HFI := hide ((unhide HEND) (.inl (by omega)))
      clear HEND hb
      go_wp2_with fail
      go_ret2
      exact ⟨b, rfl, unhide HFI, unhide BF⟩
    have hknI : (k : Int) ≤ s.size := by omega
    cases b
    · have HS := hide (step_any w N _ p s (unhide HIN) g hs k st nv nl xv wr (unhide MR) hkn (fun e he => by
        have h1 := (unhide HINV).nsound e he
        exact ⟨g.come h1.2, by omega⟩) (by omega))
      have HI2 := hide (Pm.step_inv g (unhide HINV) (by rw [len_data]; exact hkn))
      clear BF HEND k4 k5 hb
      go_wp2_with fail
      refine (unhide HS).mono ?_; rintro e w5 ⟨⟨v5, rfl⟩, ⟨nv5, nl5, xv5, M5⟩, hnl5⟩
      go_wp2_with fail
      exact ⟨⟨k + 1, _, nv5, nl5, xv5, by go_num, by omega, M5, unhide HI2, hnl5⟩, by simp [intOf]; omega⟩
    · have HFI := hide ((unhide HEND) (.inr (fun e => by rw [e] at hb; cases hb)))
      clear HEND hb
      go_wp2_with fail
      go_ret2
      exact ⟨true, rfl, by simpa using unhide HFI, unhide BF⟩
theorem pfind_bad (pv : Value) (p : List In) (s : ByteArray) (w : World) (r : Int) (hI : Insts w pv p) (hn : p.length ≤ 1099511627776) (hr : (if Pm.chk p ≠ 0 then Pm.chk p else if 8192 < s.size then 2 else 0) = r) (h0 : (r == 0) = false) :
    Calls Try.prog 5 #[pv, .string s] w fun e w' => e = .returned (.tuple #[.agg #[.int .i64 0, .int .i64 0], .bool false, .int .i64 r]) ∧ Below w.heap.size w w' := by
  have HRY : Hid (∀ W : World, Below w.heap.size w W → Calls Try.prog 10 #[pv, .string s] W fun e w' => e = .returned (.int .i64 r) ∧ w' = W) := hide (fun W h => by
    have := ready_any pv p s W (hI.below h) hn
    rw [hr] at this
    exact this)
  obtain ⟨o, c, rfl, hc⟩ := hI.form
  have bb := (Below.refl w.heap.size w).alloc (Nat.le_refl _) (.cells #[.int .i64 0, .int .i64 0] 26)
  have OWN := World.ownsRow_lit (e := 26) (size := 2) (base := w.heap.size) w #[.int .i64 0, .int .i64 0] 1 (Nat.le_refl _) (by unfold maxLen; omega) rfl
  obtain ⟨W0, hW0⟩ : ∃ W, w.alloc (.cells #[.int .i64 0, .int .i64 0] 26) = W := ⟨_, rfl⟩
  rw [hW0] at bb OWN
  have B0 := hide bb
  have y0 := OWN.cellAt 0 (by omega)
  have y1 := OWN.cellAt 1 (by omega)
  have f0 := OWN.frozenAt 0
  have f1 := OWN.frozenAt 1
  obtain ⟨v0, m0'⟩ := World.ownsRow.stored OWN 0 (.int .i64 0)
  obtain ⟨v1, m1'⟩ := v0.stored 1 (.int .i64 0)
  have LD : Hid ((loadVar 26 ⟨w.heap.size, 0, none⟩).run Try.prog (((W0.setCell ⟨w.heap.size, 0, none⟩ (.int .i64 0)).setCell ⟨w.heap.size, 1, none⟩ (.int .i64 0))) = .ok (.agg #[.int .i64 0, .int .i64 0]) (((W0.setCell ⟨w.heap.size, 0, none⟩ (.int .i64 0)).setCell ⟨w.heap.size, 1, none⟩ (.int .i64 0)))) := hide (by
      obtain ⟨fr, hh⟩ := own_one' v1
      exact run_loadVar_row _ w.heap.size 26 26 #[.int .i64 0, .int .i64 0] fr _ hh Try.underlying26 rfl (by kernel_rfl))
  have BF : Hid (Below w.heap.size w ((W0.setCell ⟨w.heap.size, 0, none⟩ (.int .i64 0)).setCell ⟨w.heap.size, 1, none⟩ (.int .i64 0))) := hide (bb.grown (m0'.trans m1') bb.size (fun q hq => by have := Option.some.inj hq; omega))
  have hr0 : r ≠ 0 := by simpa using h0
  clear hI hr v0 v1 m0' m1' OWN bb
  go_enter Try.func5, Try.ntmps5
  go_wp2_with fail
  refine ((unhide HRY) W0 (unhide B0)).mono ?_; rintro e wx ⟨rfl, hwx⟩; rw [hwx]; clear hwx wx
  go_wp2_with fail
  (try simp only [Exit.inBlock, Exit.then])
  refine bodyPost_ret_by (v := .tuple #[.agg #[.int .i64 0, .int .i64 0], .bool false, .int .i64 r]) ?_ rfl ⟨rfl, unhide BF⟩
  refine results_ctt9' (p := 4) (u := 5) (u' := 6) (ty := 26) ?_ _ _ w.heap.size _ ?_ (unhide LD) _ ?_ _ ?_ <;> rfl
end Go.Proofs.Ytmgealcolofomaa
