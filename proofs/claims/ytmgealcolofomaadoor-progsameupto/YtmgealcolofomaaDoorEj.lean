/- Walks: Find (the program's), begun. -/
import Derived.Test.YtmgealcolofomaaDoorEi
import Derived.Deep.WholeRow
namespace Go.Proofs.YtmgealcolofomaaDoor
open Go.RowKit Kb
set_option linter.unusedVariables false
set_option maxRecDepth 20000
/-- the machine's cells ahead of all -/
def zm : Array Value := (mCells (.slice none 0 0) ByteArray.empty (List.replicate 400 0) (.slice none 0 0) (.slice none 0 0) 0 0 false).toArray
theorem zeroM : ∀ w, (zeroValue 92).run Tryd.prog w = .ok (.agg zm) w := (Go.zero_of_info (n := 407) (by kernel_rfl)).1
theorem zm_size : zm.size = 407 := by decide +kernel
theorem zm_ne : zm ≠ #[] := by intro e; have := congrArg Array.size e; rw [zm_size] at this; cases this
theorem own_one' {w : World} {B e size g : Nat} {xs : List Value} (h : w.ownsRow B e size (.slice (some ⟨g, 0, none⟩) 1 1) 1 xs) : ∃ fr, w.heap[g]? = some (.cells xs.toArray e fr) := by
  rcases h.2 with ⟨h0, _⟩ | ⟨g', cap, cur, h0, h1, h2, h3, h4, h5, h6⟩
  · cases h0
  · cases h0
    have : cur = xs.toArray := by
      rw [← h6, List.take_of_length_le (by simp; omega)]
    rw [← this]; exact ⟨_, h2⟩
theorem results_ctt9' {fn : Func} {p u u' : Tmp} {ty : TypeId} (h : fn.results = #[.cell p ty, .tmp u, .tmp u']) (tmps : Array Value) (w : World) (g : Nat) (v : Value)
    (hp : tmps.getD p undef = .pointer (some ⟨g, 0, none⟩)) (hl : (loadVar ty ⟨g, 0, none⟩).run Tryd.prog w = .ok v w) (x : Value) (hx : tmps.getD u undef = x) (y : Value) (hy : tmps.getD u' undef = y) :
    (results fn tmps).run Tryd.prog w = .ok (.tuple #[v, x, y]) w := by
  have hp' : tmps[p]?.getD undef = .pointer (some ⟨g, 0, none⟩) := by simpa using hp
  have hx' : tmps[u]?.getD undef = x := by simpa using hx
  have hy' : tmps[u']?.getD undef = y := by simpa using hy
  simp [results, h, hp', hx', hy', asAddr, hl]
def m0 (pv : Value) (s : ByteArray) : Array Value := (mCells pv s (List.replicate 400 0) (.slice none 0 0) (.slice none 0 0) 0 0 false).toArray
theorem m0_list (pv : Value) (s : ByteArray) : (zm.toList.set 0 pv).set 1 (.string s) = (m0 pv s).toList := rfl
theorem m0_size (pv : Value) (s : ByteArray) : (m0 pv s).size = 407 := by unfold m0 mCells; simp
theorem infoM : (Tryd.prog.info? 92).map (·.size) = some 407 := (Go.zero_of_info (n := 407) (v := .agg zm) (by kernel_rfl)).2
theorem m0_one (o : Option Addr) (n c : Nat) (s : ByteArray) : (m0 (.slice o n c) s).all (·.oneCell') = true := by
  unfold m0 mCells
  simp [Value.oneCell']
theorem store_m0 (o : Option Addr) (n c : Nat) (s : ByteArray) (W : World) : (storeCells ⟨W.heap.size, 0, none⟩ ((zm.toList.set 0 (.slice o n c)).set 1 (.string s))).run Tryd.prog (W.alloc (.cells zm 92)) = .ok () (W.alloc (.cells (m0 (.slice o n c) s) 92)) := by
  rw [m0_list]
  exact run_storeCells_new W 92 zm (m0 (.slice o n c) s) (by rw [m0_size]; exact infoM) (by rw [m0_size, zm_size]) (m0_one o n c s)
def st0 : Pm.St := ⟨List.replicate 400 0, [], none⟩
theorem MX.new (W0 : World) (pv : Value) (s : ByteArray) : MX W0 (W0.alloc (.cells (m0 pv s) 92)) W0.heap.size pv s st0 (.slice none 0 0) [] (.slice none 0 0) := by
  refine ⟨(Below.refl _ _).alloc (Nat.le_refl _) _, ?_, by simp [st0], World.ownsRow_nil _ _ _ _, World.ownsRow_nil _ _ _ _, .inl rfl⟩
  exact World.ownsRow_lit (e := 92) (size := 407) (base := W0.heap.size) W0 (m0 pv s) 1 (Nat.le_refl _) (by unfold maxLen; omega) (by rw [m0_size])
set_option maxHeartbeats 1000000 in
theorem pfind_any (pv : Value) (p : List In) (s : ByteArray) (w : World) (hI : Insts w pv p) (hn : p.length ≤ 1099511627776) (hz : Pm.chk p = 0) (hs : s.size ≤ 8192) :
    Calls Tryd.prog 15 #[pv, .string s] w fun e w' => ∃ o : Option (Nat × Nat), e = .returned (.tuple #[.agg #[.int .i64 (fF o), .int .i64 (fT o)], .bool o.isSome, .int .i64 0]) ∧ Sp.First (Pm.spanB p s.data.toList) o ∧ Below w.heap.size w w' := by
  have HRY := hide (fun W (h : Below w.heap.size w W) => ready_any pv p s W (hI.below h) hn)
  rw [hz] at HRY
  obtain ⟨o, c, rfl, hc⟩ := hI.form
  have bb := (Below.refl w.heap.size w).alloc (Nat.le_refl _) (.cells #[.int .i64 0, .int .i64 0] 45)
  obtain ⟨W0, hW0⟩ : ∃ W, w.alloc (.cells #[.int .i64 0, .int .i64 0] 45) = W := ⟨_, rfl⟩
  rw [hW0] at bb
  have B0 := hide bb
  have h8 : ¬ 8192 < s.size := by omega
  have g := Pm.good_of_chk hz
  have hinv : Pm.Inv p s.data.toList 0 st0 := Pm.inv_zero p s.data.toList 400 g.small
  have OWN : Hid (W0.ownsRow w.heap.size 45 2 (.slice (some ⟨w.heap.size, 0, none⟩) 1 1) 1 [.int .i64 0, .int .i64 0]) := hide (by
    rw [← hW0]
    exact World.ownsRow_lit (e := 45) (size := 2) (base := w.heap.size) w #[.int .i64 0, .int .i64 0] 1 (Nat.le_refl _) (by unfold maxLen; omega) rfl)
  have HIN := hide (hI.below bb)
  have bb0 := bb
  rw [if_neg (by simp), if_neg h8] at HRY
  clear hI bb
  go_enter Tryd.func15, Tryd.ntmps15
  go_wp2_with fail
  refine ((unhide HRY) W0 (unhide B0)).mono ?_; rintro e wx ⟨rfl, hwx⟩; rw [hwx]; clear hwx wx
  have hz0 := zeroM W0
  have hzs := zm_size
  have hzn : (zm = #[]) = False := eq_false zm_ne
  have hst := store_m0 o p.length c s W0
  have MN := hide (MX.new W0 (.slice o p.length c) s)
  obtain ⟨N, hN⟩ : ∃ N, W0.heap.size = N := ⟨_, rfl⟩
  obtain ⟨W1, hW1⟩ : ∃ W, W0.alloc (.cells (m0 (.slice o p.length c) s) 92) = W := ⟨_, rfl⟩
  rw [hW1] at MN hst
  rw [hN] at MN hst
  have HI := hide hinv
  clear hinv h8 bb0
  go_wp2_with fail
  clear hst hW0 hW1 hN hzs hzn hz0
  go_loopw [9] (fun x wr => ∃ (k : Nat) (st : Pm.St) (nv : Value) (nl : List (Nat × Nat)) (xv : Value), x = .int .i64 k ∧ k ≤ s.size + 1 ∧ MX W0 wr N (.slice o p.length c) s st nv nl xv ∧ Pm.Inv p s.data.toList k st ∧ st.next.length ≤ 400) (fun x _ => s.size + 1 - (intOf x).toNat)
  case atStart => exact ⟨0, st0, _, _, _, rfl, Nat.zero_le _, unhide MN, unhide HI, by decide⟩
  case round =>
    obtain ⟨k, st, nv, nl, xv, rfl, hk, hM, hinv, hnl⟩ := hrel
    have HINV := hide hinv
    have MR := hide hM
    have HEND : Hid (s.size < k ∨ (st.found ≠ none ∧ st.next = []) → Sp.First (Pm.spanB p s.data.toList) st.found) := hide (fun h => Pm.first_of_inv (unhide HINV) (by rw [len_data]; exact h))
    obtain ⟨_, _, _, _, k4, k5, k6⟩ := hM.fields
    have own1 := own_below (unhide OWN) hM.bel
    have y0 := own1.cellAt 0 (by omega)
    have y1 := own1.cellAt 1 (by omega)
    have f0 := own1.frozenAt 0
    have f1 := own1.frozenAt 1
    obtain ⟨v0, m0'⟩ := World.ownsRow.stored own1 0 (.int .i64 (fF st.found))
    obtain ⟨v1, m1'⟩ := v0.stored 1 (.int .i64 (fT st.found))
    have LD : Hid ((loadVar 45 ⟨w.heap.size, 0, none⟩).run Tryd.prog ((wr.setCell ⟨w.heap.size, 0, none⟩ (.int .i64 (fF st.found))).setCell ⟨w.heap.size, 1, none⟩ (.int .i64 (fT st.found))).drew = .ok (.agg #[.int .i64 (fF st.found), .int .i64 (fT st.found)]) ((wr.setCell ⟨w.heap.size, 0, none⟩ (.int .i64 (fF st.found))).setCell ⟨w.heap.size, 1, none⟩ (.int .i64 (fT st.found))).drew) := hide (by
      obtain ⟨fr, hh⟩ := own_one' (own_below v1 (Below.refl _ _).drew)
      exact run_loadVar_row _ w.heap.size 45 45 #[.int .i64 (fF st.found), .int .i64 (fT st.found)] fr _ hh Tryd.underlying45 rfl (by kernel_rfl))
    have BF : Hid (Below w.heap.size w ((wr.setCell ⟨w.heap.size, 0, none⟩ (.int .i64 (fF st.found))).setCell ⟨w.heap.size, 1, none⟩ (.int .i64 (fT st.found))).drew) := hide (((bel_trans (unhide B0) hM.bel).grown (m0'.trans m1') (Nat.le_trans (unhide B0).size hM.bel.size) (fun q hq => by have := Option.some.inj hq; omega)).drew)
    clear v0 v1 m0' m1' own1 hM hinv
    have HD := hide (done_any W0 N _ s st nv nl xv wr (unhide MR))
    have fin : ∀ W : World, True := fun _ => trivial
    by_cases hkn : k ≤ s.size
    case neg =>
      have hknI : ¬ ((k : Int) ≤ s.size) := by omega
      have HFI := hide ((unhide HEND) (.inl (by omega)))
      clear HD HEND fin
      go_wp2_with fail
      go_region
      go_wp2_with fail
      (try simp only [Exit.inBlock, Exit.then])
      refine bodyPost_ret_by (v := .tuple #[.agg #[.int .i64 (fF st.found), .int .i64 (fT st.found)], .bool st.found.isSome, .int .i64 0]) ?_ rfl ⟨st.found, rfl, unhide HFI, unhide BF⟩
      refine results_ctt9' (p := 4) (u := 5) (u' := 6) (ty := 45) ?_ _ _ w.heap.size _ ?_ (unhide LD) _ ?_ _ ?_ <;> rfl
    have hknI : (k : Int) ≤ s.size := by omega
    obtain ⟨b, hb⟩ : ∃ b, (st.found.isSome && decide (st.next = [])) = b := ⟨_, rfl⟩
    rw [hb] at HD
    cases b
    · have HS := hide (step_any W0 N _ p s (unhide HIN) g hs k st nv nl xv wr (unhide MR) hkn (fun e he => by
        have h1 := (unhide HINV).nsound e he
        exact ⟨g.come h1.2, by omega⟩) (by omega))
      have HI2 := hide (Pm.step_inv g (unhide HINV) (by rw [len_data]; exact hkn))
      clear LD BF HEND y0 y1 f0 f1 k4 k5 k6 hb fin
      go_wp2_with fail
      refine (unhide HD).mono ?_; rintro e wx ⟨rfl, hwx⟩; rw [hwx]; clear hwx wx
      go_wp2_with fail
      refine (unhide HS).mono ?_; rintro e w5 ⟨⟨v5, rfl⟩, ⟨nv5, nl5, xv5, M5⟩, hnl5⟩
      go_wp2_with fail
      exact ⟨⟨k + 1, _, nv5, nl5, xv5, by go_num, by omega, M5, unhide HI2, hnl5⟩, by simp [intOf]; omega⟩
    · have HFI := hide ((unhide HEND) (.inr (by
        rw [Bool.and_eq_true] at hb
        exact ⟨fun e => by rw [e] at hb; exact absurd hb.1 (by simp), of_decide_eq_true hb.2⟩)))
      clear HEND hb fin
      go_wp2_with fail
      refine (unhide HD).mono ?_; rintro e wx ⟨rfl, hwx⟩; rw [hwx]; clear hwx wx
      go_wp2_with fail
      go_region
      go_wp2_with fail
      (try simp only [Exit.inBlock, Exit.then])
      refine bodyPost_ret_by (v := .tuple #[.agg #[.int .i64 (fF st.found), .int .i64 (fT st.found)], .bool st.found.isSome, .int .i64 0]) ?_ rfl ⟨st.found, rfl, unhide HFI, unhide BF⟩
      refine results_ctt9' (p := 4) (u := 5) (u' := 6) (ty := 45) ?_ _ _ w.heap.size _ ?_ (unhide LD) _ ?_ _ ?_ <;> rfl
end Go.Proofs.YtmgealcolofomaaDoor
