/- The document's First, without the texts of rex's own Find (Zu, in a seat without it; Zta is Zt there). -/
import Derived.Test.YtmgealcolofomaaZta
import Derived.Deep.MidRow
namespace Go.Proofs.Ytmgealcolofomaa
open Go.RowKit Kb
set_option linter.unusedVariables false
set_option maxRecDepth 20000
open Sp
def spanV (a b : Int) : Value := .agg #[.int .i64 a, .int .i64 b]
theorem load_span {w : World} {g : Nat} {a b : Int} (h0 : w.cell? ⟨g, 0, none⟩ = some (.int .i64 a)) (h1 : w.cell? ⟨g, 1, none⟩ = some (.int .i64 b)) : (loadVar 26 ⟨g, 0, none⟩).run Try.prog w = .ok (spanV a b) w := by
  refine run_loadVar_mid w g 0 26 [.int .i64 a, .int .i64 b] _ (fun j v hj => ?_) Try.underlying26 rfl (by kernel_rfl)
  match j, hj with
  | 0, hj => simp at hj; rw [← hj]; exact h0
  | 1, hj => simp at hj; rw [← hj]; exact h1
  | j + 2, hj => simp at hj

theorem results_ct' {fn : Func} {p u : Tmp} {ty : TypeId} (h : fn.results = #[.cell p ty, .tmp u]) (tmps : Array Value) (w : World) (g : Nat) (cs : Array Value)
    (hp : tmps.getD p undef = .pointer (some ⟨g, 0, none⟩)) (hl : (loadVar ty ⟨g, 0, none⟩).run Try.prog w = .ok (.agg cs) w) (x : Value) (hx : tmps.getD u undef = x) :
    (results fn tmps).run Try.prog w = .ok (.tuple #[.agg cs, x]) w := by
  have hp' : tmps[p]?.getD undef = .pointer (some ⟨g, 0, none⟩) := by simpa using hp
  have hx' : tmps[u]?.getD undef = x := by simpa using hx
  simp [results, h, hp', hx', asAddr, hl]
/-- what the document's First hands back -/
def firstV : Option (Nat × Nat) → Value
  | none => .tuple #[spanV 0 0, .bool false]
  | some (i, j) => .tuple #[spanV i j, .bool true]
set_option maxHeartbeats 2000000 in
theorem dfirst_any (g h n : Nat) (T : Nat → Nat → Bool) (hn : n ≤ 100000) (hok : Ok n T) (w : World) (hT : TB w g h n T) :
    Calls Try.prog 8 #[.slice (some ⟨g, 0, none⟩) (n + 1) (n + 1)] w fun e w' => ∃ o, e = .returned (firstV o) ∧ First T o ∧ Below w.heap.size w w' := by
  obtain ⟨W1, hW1⟩ : ∃ W1, w.alloc (.cells #[.int .i64 0, .int .i64 0] 26) = W1 := ⟨_, rfl⟩
  have hb1 : Below w.heap.size w W1 := by rw [← hW1]; exact (Below.refl _ w).alloc (Nat.le_refl _) _
  have c0 : W1.cell? ⟨w.heap.size, 0, none⟩ = some (.int .i64 0) := by rw [← hW1, World.cell?_alloc_new]; rfl
  have c1 : W1.cell? ⟨w.heap.size, 1, none⟩ = some (.int .i64 0) := by rw [← hW1, World.cell?_alloc_new]; rfl
  have d0 : W1.frozen? ⟨w.heap.size, 0, none⟩ = false := by rw [← hW1]; exact World.frozen?_alloc_new _ _ _ _
  have d1 : W1.frozen? ⟨w.heap.size, 1, none⟩ = false := by rw [← hW1]; exact World.frozen?_alloc_new _ _ _ _
  have hl1 : w.heap.size < W1.heap.size := by rw [← hW1]; simp
  have hT1 := hT.below hb1
  have HC : Hid (W1.cell? ⟨w.heap.size, 0, none⟩ = some (.int .i64 0) ∧ W1.cell? ⟨w.heap.size, 1, none⟩ = some (.int .i64 0) ∧ W1.frozen? ⟨w.heap.size, 0, none⟩ = false ∧ W1.frozen? ⟨w.heap.size, 1, none⟩ = false) := hide ⟨c0, c1, d0, d1⟩
  have HPUT : Hid (∀ (a b : Int), (loadVar 26 ⟨w.heap.size, 0, none⟩).run Try.prog ((W1.setCell ⟨w.heap.size, 0, none⟩ (.int .i64 a)).setCell ⟨w.heap.size, 1, none⟩ (.int .i64 b)) = .ok (spanV a b) ((W1.setCell ⟨w.heap.size, 0, none⟩ (.int .i64 a)).setCell ⟨w.heap.size, 1, none⟩ (.int .i64 b)) ∧ Below w.heap.size w ((W1.setCell ⟨w.heap.size, 0, none⟩ (.int .i64 a)).setCell ⟨w.heap.size, 1, none⟩ (.int .i64 b))) := hide (fun a b => by
    refine ⟨load_span ?_ ?_, (hb1.setCell (p := ⟨w.heap.size, 0, none⟩) (Nat.le_refl _) _).setCell (p := ⟨w.heap.size, 1, none⟩) (Nat.le_refl _) _⟩
    · rw [World.cell?_setCell_other _ _ _ _ (by simp)]
      exact World.cell?_setCell_same' _ _ _ (by rw [c0]; rfl)
    · refine World.cell?_setCell_same' _ _ _ ?_
      rw [World.cell?_setCell_other _ _ _ _ (by simp), c1]; rfl)
  have HT := hide hT1
  have HOK := hide hok
  clear hb1 c0 c1 d0 d1 hT hT1 hok
  go_enter Try.func8, Try.ntmps8
  go_wp2_with fail
  clear hW1
  go_loop [4] (fun x => ∃ i : Nat, x = .int .i64 i ∧ i ≤ n + 1 ∧ ∀ a b, a < i → T a b = false) (fun x => n + 1 - (intOf x).toNat)
  case atStart => exact ⟨0, rfl, by omega, fun a b ha => by omega⟩
  case round =>
    obtain ⟨i, rfl, hi, hno⟩ := hrel
    have HNO := hide hno
    clear hno
    by_cases hlt : i ≤ n
    · have hI : (i : Int) < n + 1 := by omega
      go_wp2_with fail
      go_loop [5] (fun x => ∃ p : Nat, x = .int .i64 ((p : Int) - 1) ∧ i ≤ p ∧ p ≤ n + 1 ∧ ∀ b, p ≤ b → T i b = false) (fun x => (intOf x + 1).toNat)
      case atStart =>
        refine ⟨n + 1, ?_, by omega, by omega, fun b hb => ?_⟩
        · exact congrArg (Value.int .i64) (by omega)
        · cases ht : T i b with
          | false => rfl
          | true => have := (unhide HOK) i b ht; omega
      case round =>
        obtain ⟨p, rfl, hip, hpn, hnk⟩ := hrel
        have HNK := hide hnk
        clear hnk
        by_cases hgt : i < p
        · obtain ⟨t, rfl⟩ : ∃ t, p = t + 1 := ⟨p - 1, by omega⟩
          rw [show ((t + 1 : Nat) : Int) - 1 = (t : Int) by omega]
          have hI2 : (t : Int) ≥ i := by omega
          have hI3 : (t : Int) < n + 1 := by omega
          have htop := (unhide HT).top i hlt
          have hcell := (unhide HT).cell i t hlt (by omega)
          obtain ⟨mt, hmt⟩ : ∃ mt, T i t = mt := ⟨_, rfl⟩
          rw [hmt] at hcell
          have HMT := hide hmt
          clear hmt
          cases mt with
          | true =>
            have hF : Hid (First T (some (i, t))) := hide ⟨unhide HMT, fun k hk => by
              rcases Nat.lt_or_ge t k with e | e
              · rw [(unhide HNK) k e] at hk; cases hk
              · exact e, fun a k ha => (unhide HNO) a k ha⟩
            obtain ⟨c0, c1, d0, d1⟩ := unhide HC
            clear HMT HNK HNO
            go_wp2_with fail
            obtain ⟨hl, hbw⟩ := (unhide HPUT) i t
            refine bodyPost_ret (results_ct' (p := 2) (u := 3) (ty := 26) rfl _ _ w.heap.size _ rfl hl _ rfl) rfl ?_
            exact ⟨some (i, t), rfl, unhide hF, hbw⟩
          | false =>
            have HN2 : Hid (∀ b, t ≤ b → T i b = false) := hide (fun b hb => by
              by_cases e : b = t
              · rw [e]; exact unhide HMT
              · exact (unhide HNK) b (by omega))
            clear HMT HNK
            go_wp2_with fail
            exact ⟨⟨t, rfl, by omega, by omega, unhide HN2⟩, by simp [intOf]; try omega⟩
        · have hpi : p = i := by omega
          subst hpi
          have hI2 : ¬ ((p : Int) - 1 ≥ p) := by omega
          have HN2 : Hid (∀ a b, a < p + 1 → T a b = false) := hide (fun a b ha => by
            by_cases e : a < p
            · exact (unhide HNO) a b e
            · obtain rfl : a = p := by omega
              by_cases e2 : a ≤ b
              · exact (unhide HNK) b e2
              · cases ht : T a b with
                | false => rfl
                | true => have := (unhide HOK) a b ht; omega)
          clear HNK HNO
          go_wp2_with fail
          exact ⟨⟨p + 1, by go_num, by omega, unhide HN2⟩, by simp [intOf]; omega⟩
    · have hI : ¬ ((i : Int) < n + 1) := by omega
      have hF : Hid (First T none) := hide (fun a b => by
        cases ht : T a b with
        | false => rfl
        | true =>
          have := (unhide HOK) a b ht
          rw [(unhide HNO) a b (by omega)] at ht; cases ht)
      obtain ⟨c0, c1, d0, d1⟩ := unhide HC
      go_wp2_with fail
      obtain ⟨hl, hbw⟩ := (unhide HPUT) 0 0
      refine bodyPost_ret (results_ct' (p := 2) (u := 3) (ty := 26) rfl _ _ w.heap.size _ rfl hl _ rfl) rfl ?_
      exact ⟨none, rfl, unhide hF, hbw⟩
end Go.Proofs.Ytmgealcolofomaa
