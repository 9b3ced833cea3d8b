/- The program's Find. -/
import Derived.Test.YtmgealcolofomaaDoorZl
import Derived.Test.YtmgealcolofomaaDoorJe
import Derived.Deep.MidRow
namespace Go.Proofs.YtmgealcolofomaaDoor
open Go.RowKit Kb
set_option linter.unusedVariables false
set_option maxRecDepth 20000
open Sp

theorem results_ctt' {fn : Func} {p u u' : Tmp} {ty : TypeId} (h : fn.results = #[.cell p ty, .tmp u, .tmp u']) (tmps : Array Value) (w : World) (g : Nat) (cs : Array Value)
    (hp : tmps.getD p undef = .pointer (some ⟨g, 0, none⟩)) (hl : (loadVar ty ⟨g, 0, none⟩).run Tryd.prog w = .ok (.agg cs) w) (x : Value) (hx : tmps.getD u undef = x) (y : Value) (hy : tmps.getD u' undef = y) :
    (results fn tmps).run Tryd.prog w = .ok (.tuple #[.agg cs, x, y]) w := by
  have hp' : tmps[p]?.getD undef = .pointer (some ⟨g, 0, none⟩) := by simpa using hp
  have hx' : tmps[u]?.getD undef = x := by simpa using hx
  have hy' : tmps[u']?.getD undef = y := by simpa using hy
  simp [results, h, hp', hx', hy', asAddr, hl]
namespace Sp
theorem plc_last (f : Nat → Bool) : ∀ n, (lastI (plc f n) = -1 ∧ ∀ k, k < n → f k = false) ∨ ∃ j, j < n ∧ lastI (plc f n) = (j : Int) ∧ f j = true ∧ ∀ k, k < n → f k = true → k ≤ j := by
  intro n
  induction n with
  | zero => exact .inl ⟨rfl, fun k hk => by omega⟩
  | succ n ih =>
    rw [plc_succ]
    cases h : f n with
    | true =>
      rw [if_pos rfl, lastI_snoc]
      exact .inr ⟨n, by omega, rfl, h, fun k hk _ => by omega⟩
    | false =>
      rw [if_neg (by simp), List.append_nil]
      rcases ih with ⟨h1, h2⟩ | ⟨j, h1, h2, h3, h4⟩
      · exact .inl ⟨h1, fun k hk => by
          by_cases e : k = n
          · rw [e]; exact h
          · exact h2 k (by omega)⟩
      · exact .inr ⟨j, by omega, h2, h3, fun k hk hf => by
          by_cases e : k = n
          · rw [e, h] at hf; cases hf
          · exact h4 k (by omega) hf⟩
end Sp
def spanV (a b : Int) : Value := .agg #[.int .i64 a, .int .i64 b]
/-- what Find hands back of a span, or of none -/
def foundV : Option (Nat × Nat) → Value
  | none => .tuple #[spanV 0 0, .bool false, .int .i64 0]
  | some (i, j) => .tuple #[spanV i j, .bool true, .int .i64 0]
/-- what Find answers -/
def FindP (r : Rx) (s : ByteArray) (v : Value) : Prop :=
  (chkR r ≠ 0 ∧ v = .tuple #[spanV 0 0, .bool false, .int .i64 (chkR r)]) ∨ (chkR r = 0 ∧ 300 < s.size ∧ v = .tuple #[spanV 0 0, .bool false, .int .i64 2]) ∨
  (chkR r = 0 ∧ s.size ≤ 300 ∧ ∃ (x : Ex) (o : Option (Nat × Nat)), r = x.rx ∧ x.Full ∧ First (M s.data.toList x) o ∧ v = foundV o)
theorem load_span {w : World} {g : Nat} {a b : Int} (h0 : w.cell? ⟨g, 0, none⟩ = some (.int .i64 a)) (h1 : w.cell? ⟨g, 1, none⟩ = some (.int .i64 b)) : (loadVar 45 ⟨g, 0, none⟩).run Tryd.prog w = .ok (spanV a b) w := by
  refine run_loadVar_mid w g 0 45 [.int .i64 a, .int .i64 b] _ (fun j v hj => ?_) Tryd.underlying45 rfl (by kernel_rfl)
  match j, hj with
  | 0, hj => simp at hj; rw [← hj]; exact h0
  | 1, hj => simp at hj; rw [← hj]; exact h1
  | j + 2, hj => simp at hj
set_option maxHeartbeats 4000000 in
theorem Find_any (r : Rx) (v : Value) (s : ByteArray) (w : World) (hV : RexV w v r) (hT : TZ w) :
    Calls Tryd.prog 14 #[v, .string s] w fun e w' => ∃ u, e = .returned u ∧ FindP r s u ∧ Below w.heap.size w w' := by
  have HC := hide (fun W b => Check_any r v W (hV.below b))
  have HT := hide (fun (W : World) (k : Below w.heap.size w W) => hT.below hT.lt k)
  obtain ⟨FP, hFP⟩ : ∃ FP : Value → Prop, FindP r s = FP := ⟨_, rfl⟩
  obtain ⟨ck, hck⟩ : ∃ ck, chkR r = ck := ⟨_, rfl⟩
  have HF1 : Hid (ck ≠ 0 → FP (.tuple #[spanV 0 0, .bool false, .int .i64 ck])) := hide (fun h => by rw [← hFP]; exact .inl ⟨by rw [hck]; exact h, by rw [hck]⟩)
  have HF2 : Hid (ck = 0 → 300 < s.size → FP (.tuple #[spanV 0 0, .bool false, .int .i64 2])) := hide (fun h h2 => by rw [← hFP]; exact .inr (.inl ⟨hck.trans h, h2, rfl⟩))
  have HX : Hid (ck = 0 → s.size ≤ 300 → ∃ T : Nat → Nat → Bool, (∀ o, First T o → FP (foundV o)) ∧ Ok s.size T ∧ ∀ W, Below w.heap.size w W → Calls Tryd.prog 40 #[v, .string s] W fun e w' => ∃ u, e = .returned u ∧ PR w' u (s.size + 1) T ∧ Below W.heap.size W w') := hide (fun h hs => by
    obtain ⟨x, h1, _, _, h4⟩ := chk_ex (hck.trans h) hV
    refine ⟨M s.data.toList x, fun o ho => ?_, fun i j h => M_okm s x i j h, fun W b => mp_any x v s W ?_ (h4) hs (hT.below hT.lt b)⟩
    · rw [← hFP]; exact .inr (.inr ⟨hck.trans h, hs, x, o, h1, h4, ho, rfl⟩)
    · rw [← h1]
      exact hV.below b)
  rw [hFP]
  rw [hck] at HC
  obtain ⟨t, ht, hk⟩ := hV.val
  obtain ⟨o, c, rfl, _⟩ := hk.form
  obtain ⟨k, ⟨s1, s2, s3, s4⟩, ks⟩ := r
  subst ht
  unfold rexV at *
  simp only [Rx.k, Rx.s, Rx.ks] at *
  obtain ⟨W1, hW1⟩ : ∃ W1, (w.alloc (.cells #[.int .i64 k, .int .u64 s1, .int .u64 s2, .int .u64 s3, .int .u64 s4, .slice o ks.length c] 38)).alloc (.cells #[.int .i64 0, .int .i64 0] 45) = W1 := ⟨_, rfl⟩
  have hsz : W1.heap.size = w.heap.size + 1 + 1 := by rw [← hW1]; simp
  have hb1 : Below w.heap.size w W1 := by rw [← hW1]; exact ((Below.refl _ w).alloc (Nat.le_refl _) _).alloc (by simp) _
  have hbx : ∀ j x, (#[.int .i64 k, .int .u64 s1, .int .u64 s2, .int .u64 s3, .int .u64 s4, .slice o ks.length c] : Array Value)[j]? = some x → W1.cell? ⟨w.heap.size, j, none⟩ = some x := fun j x h => by
    rw [← hW1, World.cell?_alloc_lt _ _ _ (by simp), World.cell?_alloc_new]; exact h
  have hsp : ∀ j x, (#[.int .i64 0, .int .i64 0] : Array Value)[j]? = some x → W1.cell? ⟨w.heap.size + 1, j, none⟩ = some x := fun j x h => by
    rw [← hW1]
    have h2 := World.cell?_alloc_new (w.alloc (.cells #[.int .i64 k, .int .u64 s1, .int .u64 s2, .int .u64 s3, .int .u64 s4, .slice o ks.length c] 38)) #[.int .i64 0, .int .i64 0] 45 j
    rw [World.size_alloc] at h2
    exact h2.trans h
  have hfr : ∀ j, W1.frozen? ⟨w.heap.size + 1, j, none⟩ = false := fun j => by
    rw [← hW1]
    have h2 := World.frozen?_alloc_new (w.alloc (.cells #[.int .i64 k, .int .u64 s1, .int .u64 s2, .int .u64 s3, .int .u64 s4, .slice o ks.length c] 38)) #[.int .i64 0, .int .i64 0] 45 j
    rwa [World.size_alloc] at h2
  have HM : Hid (∀ W, Below W1.heap.size W1 W → (W.cell? ⟨w.heap.size, 0, none⟩ = some (.int .i64 k) ∧ W.cell? ⟨w.heap.size, 1, none⟩ = some (.int .u64 s1) ∧ W.cell? ⟨w.heap.size, 2, none⟩ = some (.int .u64 s2) ∧ W.cell? ⟨w.heap.size, 3, none⟩ = some (.int .u64 s3) ∧ W.cell? ⟨w.heap.size, 4, none⟩ = some (.int .u64 s4) ∧ W.cell? ⟨w.heap.size, 5, none⟩ = some (.slice o ks.length c)) ∧
      (W.cell? ⟨w.heap.size + 1, 0, none⟩ = some (.int .i64 0) ∧ W.cell? ⟨w.heap.size + 1, 1, none⟩ = some (.int .i64 0) ∧ W.frozen? ⟨w.heap.size + 1, 0, none⟩ = false ∧ W.frozen? ⟨w.heap.size + 1, 1, none⟩ = false) ∧ Below w.heap.size w W) := hide (fun W b => by
    have e0 : w.heap.size < W1.heap.size := by omega
    have e1 : w.heap.size + 1 < W1.heap.size := by omega
    refine ⟨⟨(b.cell (p := ⟨w.heap.size, 0, none⟩) e0).trans (hbx 0 _ rfl), (b.cell (p := ⟨w.heap.size, 1, none⟩) e0).trans (hbx 1 _ rfl), (b.cell (p := ⟨w.heap.size, 2, none⟩) e0).trans (hbx 2 _ rfl), (b.cell (p := ⟨w.heap.size, 3, none⟩) e0).trans (hbx 3 _ rfl), (b.cell (p := ⟨w.heap.size, 4, none⟩) e0).trans (hbx 4 _ rfl), (b.cell (p := ⟨w.heap.size, 5, none⟩) e0).trans (hbx 5 _ rfl)⟩, ⟨(b.cell (p := ⟨w.heap.size + 1, 0, none⟩) e1).trans (hsp 0 _ rfl), (b.cell (p := ⟨w.heap.size + 1, 1, none⟩) e1).trans (hsp 1 _ rfl), (b.frozen (p := ⟨w.heap.size + 1, 0, none⟩) e1).trans (hfr 0), (b.frozen (p := ⟨w.heap.size + 1, 1, none⟩) e1).trans (hfr 1)⟩, bel_trans hb1 b⟩)
  -- what stands behind a store of a span
  have HPUT : Hid (∀ (W : World) (a b : Int), Below W1.heap.size W1 W → (loadVar 45 ⟨w.heap.size + 1, 0, none⟩).run Tryd.prog ((W.setCell ⟨w.heap.size + 1, 0, none⟩ (.int .i64 a)).setCell ⟨w.heap.size + 1, 1, none⟩ (.int .i64 b)) = .ok (spanV a b) ((W.setCell ⟨w.heap.size + 1, 0, none⟩ (.int .i64 a)).setCell ⟨w.heap.size + 1, 1, none⟩ (.int .i64 b)) ∧ Below w.heap.size w ((W.setCell ⟨w.heap.size + 1, 0, none⟩ (.int .i64 a)).setCell ⟨w.heap.size + 1, 1, none⟩ (.int .i64 b))) := hide (fun W a b hb => by
    obtain ⟨_, ⟨c0, c1, _, _⟩, hbw⟩ := (unhide HM) W hb
    refine ⟨load_span ?_ ?_, (hbw.setCell (p := ⟨w.heap.size + 1, 0, none⟩) (by simp) _).setCell (p := ⟨w.heap.size + 1, 1, none⟩) (by simp) _⟩
    · rw [World.cell?_setCell_other _ _ _ _ (by simp)]
      exact World.cell?_setCell_same' _ _ _ (by rw [c0]; rfl)
    · refine World.cell?_setCell_same' _ _ _ ?_
      rw [World.cell?_setCell_other _ _ _ _ (by simp), c1]; rfl)
  obtain ⟨⟨z0, z1, z2, z3, z4, z5⟩, ⟨e0, e1, e2, e3⟩, _⟩ := (unhide HM) W1 (Below.refl _ _)
  clear hbx hsp hfr hb1 hsz hV hk hT hck hFP
  have HB1 := hide (((unhide HM) W1 (Below.refl _ _)).2.2)
  go_enter Tryd.func14, Tryd.ntmps14
  go_wp2_with fail
  clear hW1
  refine ((unhide HC) W1 (unhide HB1)).mono ?_
  rintro e w2 ⟨rfl, b2⟩
  have B2 := hide b2
  clear b2 z0 z1 z2 z3 z4 z5 e0 e1 e2 e3 HC
  obtain ⟨⟨z0, z1, z2, z3, z4, z5⟩, ⟨e0, e1, e2, e3⟩, _⟩ := (unhide HM) w2 (unhide B2)
  by_cases h0 : ck = 0
  · subst h0
    by_cases hs : 300 < s.size
    · have hI : (s.size : Int) > 300 := by omega
      clear HX
      go_wp2_with fail
      obtain ⟨hl, hbw⟩ := (unhide HPUT) w2 0 0 (unhide B2)
      refine bodyPost_ret (results_ctt' (p := 4) (u := 5) (u' := 6) (ty := 45) rfl _ _ (w.heap.size + 1) _ rfl hl _ rfl _ rfl) rfl ?_
      exact ⟨_, rfl, by first | exact (unhide HF2) rfl hs | exact (unhide HF2) trivial hs, hbw⟩
    · have hI : ¬ ((s.size : Int) > 300) := by omega
      obtain ⟨T, hf, hok, hx3⟩ := (unhide HX) rfl (by omega)
      have HF3 := hide hf
      have HOK := hide hok
      have HMT := hide (hx3 w2 (bel_trans (unhide HB1) (unhide B2)))
      clear HX hx3 hf hok HF1 HF2
      go_wp2_with fail
      refine (unhide HMT).mono ?_
      rintro e w3 ⟨u, rfl, p3, b3⟩
      have P3 := hide p3
      have B3 := hide (bel_trans (unhide B2) b3)
      clear b3 HMT z0 z1 z2 z3 z4 z5 e0 e1 e2 e3
      obtain ⟨gu, cu, rfl, hcu, _⟩ := p3
      have HSP : Hid (∀ W, Below w3.heap.size w3 W → SP W gu (s.size + 1) T) := hide (fun W b => by
        obtain ⟨g, c, h1, _, h3⟩ := unhide P3
        cases h1
        exact h3.below b)
      clear P3
      go_wp2_with fail
      go_loopw [25] (fun x wr => ∃ i : Nat, x = .int .i64 i ∧ i ≤ s.size + 1 ∧ (∀ h k, h < i → T h k = false) ∧ Below w3.heap.size w3 wr) (fun x _ => s.size + 1 - (intOf x).toNat)
      case atStart => exact ⟨0, rfl, by omega, fun h k hh => by omega, Below.refl _ _⟩
      case round =>
        obtain ⟨i, rfl, hi, hno, hb⟩ := hrel
        have HNO := hide hno
        have BR := hide hb
        clear hno hb
        by_cases hlt : i < s.size + 1
        · have hI2 : (i : Int) < s.size + 1 := by omega
          have hI3 : (i : Int) < ((s.size + 1 : Nat) : Int) := by omega
          obtain ⟨a0, a1, a2, a3, a4⟩ := ((unhide HSP) wr (unhide BR)).words hlt
          have HL := hide (fun (W : World) (b : Below wr.heap.size wr W) => last_any (T i) W ((unhide HT) W (bel_trans (bel_trans (bel_trans (unhide HB1) (unhide B3)) (unhide BR)) b)))
          obtain ⟨z, hz⟩ : ∃ z, lastI (plc (T i) 320) = z := ⟨_, rfl⟩
          rw [hz] at HL
          have HZ := hide hz
          unfold plV at HL
          clear hz
          go_wp2_with fail
          refine ((unhide HL) _ ((Below.refl _ wr).alloc (Nat.le_refl _) _)).mono ?_
          rintro e w4 ⟨rfl, b4⟩
          have B4 := hide (bel_trans (bel_trans (unhide BR) ((Below.refl _ wr).alloc (Nat.le_refl _) _)) b4)
          clear b4 HL a0 a1 a2 a3 a4
          have hpl := plc_last (T i) 320
          rw [unhide HZ] at hpl
          rcases hpl with ⟨rfl, hnone⟩ | ⟨j, hj, rfl, htj, hmax⟩
          · have HN2 : Hid (∀ h k, h < i + 1 → T h k = false) := hide (fun h k hh => by
              by_cases e : h < i
              · exact (unhide HNO) h k e
              · obtain rfl : h = i := by omega
                by_cases e2 : k < 320
                · exact hnone k e2
                · cases ht : T h k with
                  | false => rfl
                  | true => have := (unhide HOK) h k ht; omega)
            clear hnone HZ
            go_wp2_with fail
            exact ⟨⟨i + 1, by go_num, by omega, unhide HN2, unhide B4⟩, by simp [intOf]; omega⟩
          · have hF : Hid (First T (some (i, j))) := hide ⟨htj, fun k hk => hmax k (by have := (unhide HOK) i k hk; omega) hk, fun h k hh => (unhide HNO) h k hh⟩
            have hj0 : (0 : Int) ≤ (j : Int) := by omega
            obtain ⟨_, ⟨e0, e1, e2, e3⟩, _⟩ := (unhide HM) w4 (bel_trans (unhide B3) (unhide B4))
            clear htj hmax HZ
            go_wp2_with fail
            obtain ⟨hl, hbw⟩ := (unhide HPUT) w4 i j (bel_trans (unhide B3) (unhide B4))
            refine bodyPost_ret (results_ctt' (p := 4) (u := 5) (u' := 6) (ty := 45) rfl _ _ (w.heap.size + 1) _ rfl hl _ rfl _ rfl) rfl ?_
            exact ⟨_, rfl, (unhide HF3) (some (i, j)) (unhide hF), hbw⟩
        · have hI2 : ¬ ((i : Int) < s.size + 1) := by omega
          have hNone : Hid (First T none) := hide (fun a b => by
            by_cases e : a < i
            · exact (unhide HNO) a b e
            · cases ht : T a b with
              | false => rfl
              | true => have := (unhide HOK) a b ht; omega)
          obtain ⟨_, ⟨e0, e1, e2, e3⟩, _⟩ := (unhide HM) wr (bel_trans (unhide B3) (unhide BR))
          go_wp2_with fail
          obtain ⟨hl, hbw⟩ := (unhide HPUT) wr 0 0 (bel_trans (unhide B3) (unhide BR))
          refine bodyPost_ret (results_ctt' (p := 4) (u := 5) (u' := 6) (ty := 45) rfl _ _ (w.heap.size + 1) _ rfl hl _ rfl _ rfl) rfl ?_
          exact ⟨_, rfl, (unhide HF3) none (unhide hNone), hbw⟩
  · have hne : (ck != 0) = true := bne_iff_ne.2 h0
    have H0 := hide h0
    clear h0 HX
    go_wp2_with fail
    obtain ⟨hl, hbw⟩ := (unhide HPUT) w2 0 0 (unhide B2)
    refine bodyPost_ret (results_ctt' (p := 4) (u := 5) (u' := 6) (ty := 45) rfl _ _ (w.heap.size + 1) _ rfl hl _ rfl _ rfl) rfl ?_
    exact ⟨_, rfl, (unhide HF1) (unhide H0), hbw⟩
end Go.Proofs.YtmgealcolofomaaDoor
