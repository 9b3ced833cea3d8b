/- The walk of the document's Utf8. -/
import Derived.Test.YtemkbobofoimaaaDoorRg
import Derived.Test.YtemkbobofoimaaaDoorRc
import Derived.Test.YtemkbobofoimaaaDoorWx
namespace Go.Proofs.YtemkbobofoimaaaDoor
open Go.RowKit
set_option linter.unusedVariables false

theorem wr64f (z : Int) (h0 : -9223372036854775808 ≤ z) (h1 : z ≤ 9223372036854775807) : IntKind.i64.wrap z = z := by
  simp [IntKind.wrap, IntKind.signed, IntKind.bits]; omega
theorem at_intf (s : ByteArray) (k j : Nat) (h : k + j < s.size) (hb : ((k : Int) + (j : Int)).toNat < s.size) : s[((k : Int) + (j : Int)).toNat] = s[k + j] := by
  have e : ((k : Int) + (j : Int)).toNat = k + j := by omega
  simp only [e]

/-- the world with the table laid -/
def tabWorld (w : World) : World := ((((((((((w.alloc (.cells #[.int .u8 0, .int .u8 127] 5)).alloc (.cells #[.int .u8 194, .int .u8 223, .int .u8 128, .int .u8 191] 5)).alloc (.cells #[.int .u8 224, .int .u8 224, .int .u8 160, .int .u8 191, .int .u8 128, .int .u8 191] 5)).alloc (.cells #[.int .u8 225, .int .u8 236, .int .u8 128, .int .u8 191, .int .u8 128, .int .u8 191] 5)).alloc (.cells #[.int .u8 238, .int .u8 239, .int .u8 128, .int .u8 191, .int .u8 128, .int .u8 191] 5)).alloc (.cells #[.int .u8 237, .int .u8 237, .int .u8 128, .int .u8 159, .int .u8 128, .int .u8 191] 5)).alloc (.cells #[.int .u8 240, .int .u8 240, .int .u8 144, .int .u8 191, .int .u8 128, .int .u8 191, .int .u8 128, .int .u8 191] 5)).alloc (.cells #[.int .u8 241, .int .u8 243, .int .u8 128, .int .u8 191, .int .u8 128, .int .u8 191, .int .u8 128, .int .u8 191] 5)).alloc (.cells #[.int .u8 244, .int .u8 244, .int .u8 128, .int .u8 143, .int .u8 128, .int .u8 191, .int .u8 128, .int .u8 191] 5)).alloc (.cells #[.slice (some ⟨w.heap.size, 0, none⟩) 2 2, .slice (some ⟨w.heap.size + 1, 0, none⟩) 4 4, .slice (some ⟨w.heap.size + 1 + 1, 0, none⟩) 6 6, .slice (some ⟨w.heap.size + 1 + 1 + 1, 0, none⟩) 6 6, .slice (some ⟨w.heap.size + 1 + 1 + 1 + 1, 0, none⟩) 6 6, .slice (some ⟨w.heap.size + 1 + 1 + 1 + 1 + 1, 0, none⟩) 6 6, .slice (some ⟨w.heap.size + 1 + 1 + 1 + 1 + 1 + 1, 0, none⟩) 8 8, .slice (some ⟨w.heap.size + 1 + 1 + 1 + 1 + 1 + 1 + 1, 0, none⟩) 8 8, .slice (some ⟨w.heap.size + 1 + 1 + 1 + 1 + 1 + 1 + 1 + 1, 0, none⟩) 8 8] 37))

/-- the table lies in block t -/
def tabAt (t : Nat) (wr : World) : Prop :=
  ∀ k, k < 9 → ∃ b, wr.cell? ⟨t, k, none⟩ = some (.slice (some ⟨b, 0, none⟩) (2 * Tb.m k) (2 * Tb.m k)) ∧ ∀ i, i < Tb.m k → wr.cell? ⟨b, 2 * i, none⟩ = some (.int .u8 (Tb.lo k i)) ∧ wr.cell? ⟨b, 2 * i + 1, none⟩ = some (.int .u8 (Tb.hi k i))

theorem look_old {w : World} {o : Obj} {b j : Nat} (h : b < w.heap.size) : (w.alloc o).cell? ⟨b, j, none⟩ = w.cell? ⟨b, j, none⟩ :=
  ((Below.refl w.heap.size w).alloc (Nat.le_refl _) o).cell (p := ⟨b, j, none⟩) h
theorem look_new {w : World} {c : Array Value} {t : TypeId} {b j : Nat} (h : b = w.heap.size) : (w.alloc (.cells c t)).cell? ⟨b, j, none⟩ = c[j]? := by
  subst h; exact World.cell?_alloc_new w _ _ j
theorem tab_start (w : World) : tabAt (w.heap.size + 1 + 1 + 1 + 1 + 1 + 1 + 1 + 1 + 1) (tabWorld w) := by
  intro k hk
  have hd : k = 0 ∨ k = 1 ∨ k = 2 ∨ k = 3 ∨ k = 4 ∨ k = 5 ∨ k = 6 ∨ k = 7 ∨ k = 8 := by omega
  rcases hd with rfl | rfl | rfl | rfl | rfl | rfl | rfl | rfl | rfl
  · refine ⟨w.heap.size, by unfold tabWorld; rw [look_new (by simp only [World.size_alloc])]; rfl, fun i hi => ?_⟩
    have hi' : i < 1 := hi
    have hd : i = 0 := by omega
    unfold tabWorld
    rw [look_old (by simp only [World.size_alloc]; omega), look_old (by simp only [World.size_alloc]; omega), look_old (by simp only [World.size_alloc]; omega), look_old (by simp only [World.size_alloc]; omega), look_old (by simp only [World.size_alloc]; omega), look_old (by simp only [World.size_alloc]; omega), look_old (by simp only [World.size_alloc]; omega), look_old (by simp only [World.size_alloc]; omega), look_old (by simp only [World.size_alloc]; omega), look_new rfl, look_old (by simp only [World.size_alloc]; omega), look_old (by simp only [World.size_alloc]; omega), look_old (by simp only [World.size_alloc]; omega), look_old (by simp only [World.size_alloc]; omega), look_old (by simp only [World.size_alloc]; omega), look_old (by simp only [World.size_alloc]; omega), look_old (by simp only [World.size_alloc]; omega), look_old (by simp only [World.size_alloc]; omega), look_old (by simp only [World.size_alloc]; omega), look_new rfl]
    rcases hd with rfl
    all_goals exact ⟨rfl, rfl⟩
  · refine ⟨w.heap.size + 1, by unfold tabWorld; rw [look_new (by simp only [World.size_alloc])]; rfl, fun i hi => ?_⟩
    have hi' : i < 2 := hi
    have hd : i = 0 ∨ i = 1 := by omega
    unfold tabWorld
    rw [look_old (by simp only [World.size_alloc]; omega), look_old (by simp only [World.size_alloc]; omega), look_old (by simp only [World.size_alloc]; omega), look_old (by simp only [World.size_alloc]; omega), look_old (by simp only [World.size_alloc]; omega), look_old (by simp only [World.size_alloc]; omega), look_old (by simp only [World.size_alloc]; omega), look_old (by simp only [World.size_alloc]; omega), look_new (by simp only [World.size_alloc]), look_old (by simp only [World.size_alloc]; omega), look_old (by simp only [World.size_alloc]; omega), look_old (by simp only [World.size_alloc]; omega), look_old (by simp only [World.size_alloc]; omega), look_old (by simp only [World.size_alloc]; omega), look_old (by simp only [World.size_alloc]; omega), look_old (by simp only [World.size_alloc]; omega), look_old (by simp only [World.size_alloc]; omega), look_new (by simp only [World.size_alloc])]
    rcases hd with rfl | rfl
    all_goals exact ⟨rfl, rfl⟩
  · refine ⟨w.heap.size + 1 + 1, by unfold tabWorld; rw [look_new (by simp only [World.size_alloc])]; rfl, fun i hi => ?_⟩
    have hi' : i < 3 := hi
    have hd : i = 0 ∨ i = 1 ∨ i = 2 := by omega
    unfold tabWorld
    rw [look_old (by simp only [World.size_alloc]; omega), look_old (by simp only [World.size_alloc]; omega), look_old (by simp only [World.size_alloc]; omega), look_old (by simp only [World.size_alloc]; omega), look_old (by simp only [World.size_alloc]; omega), look_old (by simp only [World.size_alloc]; omega), look_old (by simp only [World.size_alloc]; omega), look_new (by simp only [World.size_alloc]), look_old (by simp only [World.size_alloc]; omega), look_old (by simp only [World.size_alloc]; omega), look_old (by simp only [World.size_alloc]; omega), look_old (by simp only [World.size_alloc]; omega), look_old (by simp only [World.size_alloc]; omega), look_old (by simp only [World.size_alloc]; omega), look_old (by simp only [World.size_alloc]; omega), look_new (by simp only [World.size_alloc])]
    rcases hd with rfl | rfl | rfl
    all_goals exact ⟨rfl, rfl⟩
  · refine ⟨w.heap.size + 1 + 1 + 1, by unfold tabWorld; rw [look_new (by simp only [World.size_alloc])]; rfl, fun i hi => ?_⟩
    have hi' : i < 3 := hi
    have hd : i = 0 ∨ i = 1 ∨ i = 2 := by omega
    unfold tabWorld
    rw [look_old (by simp only [World.size_alloc]; omega), look_old (by simp only [World.size_alloc]; omega), look_old (by simp only [World.size_alloc]; omega), look_old (by simp only [World.size_alloc]; omega), look_old (by simp only [World.size_alloc]; omega), look_old (by simp only [World.size_alloc]; omega), look_new (by simp only [World.size_alloc]), look_old (by simp only [World.size_alloc]; omega), look_old (by simp only [World.size_alloc]; omega), look_old (by simp only [World.size_alloc]; omega), look_old (by simp only [World.size_alloc]; omega), look_old (by simp only [World.size_alloc]; omega), look_old (by simp only [World.size_alloc]; omega), look_new (by simp only [World.size_alloc])]
    rcases hd with rfl | rfl | rfl
    all_goals exact ⟨rfl, rfl⟩
  · refine ⟨w.heap.size + 1 + 1 + 1 + 1, by unfold tabWorld; rw [look_new (by simp only [World.size_alloc])]; rfl, fun i hi => ?_⟩
    have hi' : i < 3 := hi
    have hd : i = 0 ∨ i = 1 ∨ i = 2 := by omega
    unfold tabWorld
    rw [look_old (by simp only [World.size_alloc]; omega), look_old (by simp only [World.size_alloc]; omega), look_old (by simp only [World.size_alloc]; omega), look_old (by simp only [World.size_alloc]; omega), look_old (by simp only [World.size_alloc]; omega), look_new (by simp only [World.size_alloc]), look_old (by simp only [World.size_alloc]; omega), look_old (by simp only [World.size_alloc]; omega), look_old (by simp only [World.size_alloc]; omega), look_old (by simp only [World.size_alloc]; omega), look_old (by simp only [World.size_alloc]; omega), look_new (by simp only [World.size_alloc])]
    rcases hd with rfl | rfl | rfl
    all_goals exact ⟨rfl, rfl⟩
  · refine ⟨w.heap.size + 1 + 1 + 1 + 1 + 1, by unfold tabWorld; rw [look_new (by simp only [World.size_alloc])]; rfl, fun i hi => ?_⟩
    have hi' : i < 3 := hi
    have hd : i = 0 ∨ i = 1 ∨ i = 2 := by omega
    unfold tabWorld
    rw [look_old (by simp only [World.size_alloc]; omega), look_old (by simp only [World.size_alloc]; omega), look_old (by simp only [World.size_alloc]; omega), look_old (by simp only [World.size_alloc]; omega), look_new (by simp only [World.size_alloc]), look_old (by simp only [World.size_alloc]; omega), look_old (by simp only [World.size_alloc]; omega), look_old (by simp only [World.size_alloc]; omega), look_old (by simp only [World.size_alloc]; omega), look_new (by simp only [World.size_alloc])]
    rcases hd with rfl | rfl | rfl
    all_goals exact ⟨rfl, rfl⟩
  · refine ⟨w.heap.size + 1 + 1 + 1 + 1 + 1 + 1, by unfold tabWorld; rw [look_new (by simp only [World.size_alloc])]; rfl, fun i hi => ?_⟩
    have hi' : i < 4 := hi
    have hd : i = 0 ∨ i = 1 ∨ i = 2 ∨ i = 3 := by omega
    unfold tabWorld
    rw [look_old (by simp only [World.size_alloc]; omega), look_old (by simp only [World.size_alloc]; omega), look_old (by simp only [World.size_alloc]; omega), look_new (by simp only [World.size_alloc]), look_old (by simp only [World.size_alloc]; omega), look_old (by simp only [World.size_alloc]; omega), look_old (by simp only [World.size_alloc]; omega), look_new (by simp only [World.size_alloc])]
    rcases hd with rfl | rfl | rfl | rfl
    all_goals exact ⟨rfl, rfl⟩
  · refine ⟨w.heap.size + 1 + 1 + 1 + 1 + 1 + 1 + 1, by unfold tabWorld; rw [look_new (by simp only [World.size_alloc])]; rfl, fun i hi => ?_⟩
    have hi' : i < 4 := hi
    have hd : i = 0 ∨ i = 1 ∨ i = 2 ∨ i = 3 := by omega
    unfold tabWorld
    rw [look_old (by simp only [World.size_alloc]; omega), look_old (by simp only [World.size_alloc]; omega), look_new (by simp only [World.size_alloc]), look_old (by simp only [World.size_alloc]; omega), look_old (by simp only [World.size_alloc]; omega), look_new (by simp only [World.size_alloc])]
    rcases hd with rfl | rfl | rfl | rfl
    all_goals exact ⟨rfl, rfl⟩
  · refine ⟨w.heap.size + 1 + 1 + 1 + 1 + 1 + 1 + 1 + 1, by unfold tabWorld; rw [look_new (by simp only [World.size_alloc])]; rfl, fun i hi => ?_⟩
    have hi' : i < 4 := hi
    have hd : i = 0 ∨ i = 1 ∨ i = 2 ∨ i = 3 := by omega
    unfold tabWorld
    rw [look_old (by simp only [World.size_alloc]; omega), look_new (by simp only [World.size_alloc]), look_old (by simp only [World.size_alloc]; omega), look_new (by simp only [World.size_alloc])]
    rcases hd with rfl | rfl | rfl | rfl
    all_goals exact ⟨rfl, rfl⟩
theorem tab_below (w : World) : Below w.heap.size w (tabWorld w) := by
  unfold tabWorld
  repeat (refine Below.alloc ?_ (by first | exact Nat.le_refl _ | (simp only [World.size_alloc]; omega)) _)
  exact Below.refl _ _
theorem tab_drewN {t : Nat} {wr : World} (h : tabAt t wr) (j : Nat) : tabAt t (wr.drewN j) := fun k hk => h k hk
theorem n_yes {l : List UInt8} {k m : Nat} (hm : Tb.m k = m) (h : Tb.ok l k m = true) : m = Tb.n l (k + 1) := by
  subst hm; simp only [Tb.n, h, if_pos]
theorem n_no {l : List UInt8} {k m n : Nat} (hm : Tb.m k = m) (hn : n = Tb.n l k) (h : Tb.ok l k m = false) : n = Tb.n l (k + 1) := by
  subst hm; simp only [Tb.n, h]; exact hn
theorem ok_next {l : List UInt8} {k i : Nat} {x : UInt8} (h : Tb.ok l k i = true) (hx : l.getD i 0 = x) : Tb.ok l k (i + 1) = (decide (Tb.lo k i ≤ x.toNat) && decide (x.toNat ≤ Tb.hi k i)) := by
  simp only [Tb.ok, h, hx, Bool.true_and]

set_option maxRecDepth 100000 in
set_option maxHeartbeats 4000000 in
theorem rutf8_any (s : ByteArray) (w : World) (hs : s.size ≤ 68719476736) :
    Calls Tryd.prog 15 #[.string s] w fun e w' => e = .returned (.tuple #[.bool (U8.isV s.data.toList), .int .i64 (U8.atV s.data.toList)]) ∧ Below w.heap.size w w' := by
  have HT := hide (tab_start w)
  have HB0 := hide (tab_below w)
  go_enter Tryd.func15, Tryd.ntmps15
  go_wp2
  rw [show ((((((((((w.alloc (.cells #[.int .u8 0, .int .u8 127] 5)).alloc (.cells #[.int .u8 194, .int .u8 223, .int .u8 128, .int .u8 191] 5)).alloc (.cells #[.int .u8 224, .int .u8 224, .int .u8 160, .int .u8 191, .int .u8 128, .int .u8 191] 5)).alloc (.cells #[.int .u8 225, .int .u8 236, .int .u8 128, .int .u8 191, .int .u8 128, .int .u8 191] 5)).alloc (.cells #[.int .u8 238, .int .u8 239, .int .u8 128, .int .u8 191, .int .u8 128, .int .u8 191] 5)).alloc (.cells #[.int .u8 237, .int .u8 237, .int .u8 128, .int .u8 159, .int .u8 128, .int .u8 191] 5)).alloc (.cells #[.int .u8 240, .int .u8 240, .int .u8 144, .int .u8 191, .int .u8 128, .int .u8 191, .int .u8 128, .int .u8 191] 5)).alloc (.cells #[.int .u8 241, .int .u8 243, .int .u8 128, .int .u8 191, .int .u8 128, .int .u8 191, .int .u8 128, .int .u8 191] 5)).alloc (.cells #[.int .u8 244, .int .u8 244, .int .u8 128, .int .u8 143, .int .u8 128, .int .u8 191, .int .u8 128, .int .u8 191] 5)).alloc (.cells #[.slice (some ⟨w.heap.size, 0, none⟩) 2 2, .slice (some ⟨w.heap.size + 1, 0, none⟩) 4 4, .slice (some ⟨w.heap.size + 1 + 1, 0, none⟩) 6 6, .slice (some ⟨w.heap.size + 1 + 1 + 1, 0, none⟩) 6 6, .slice (some ⟨w.heap.size + 1 + 1 + 1 + 1, 0, none⟩) 6 6, .slice (some ⟨w.heap.size + 1 + 1 + 1 + 1 + 1, 0, none⟩) 6 6, .slice (some ⟨w.heap.size + 1 + 1 + 1 + 1 + 1 + 1, 0, none⟩) 8 8, .slice (some ⟨w.heap.size + 1 + 1 + 1 + 1 + 1 + 1 + 1, 0, none⟩) 8 8, .slice (some ⟨w.heap.size + 1 + 1 + 1 + 1 + 1 + 1 + 1 + 1, 0, none⟩) 8 8] 37)) = tabWorld w from rfl]
  generalize tabWorld w = W0 at *
  generalize w.heap.size + 1 + 1 + 1 + 1 + 1 + 1 + 1 + 1 + 1 = t0 at *
  go_loopw [5] (fun v wr => ∃ a : Nat, v = .int .i64 a ∧ a ≤ s.size ∧ U8.bad s.data.toList = (U8.bad (s.data.toList.drop a)).map (· + a) ∧ tabAt t0 wr ∧ Below w.heap.size w wr) (fun v _ => s.size - (intOf v).toNat)
  case atStart => exact ⟨0, rfl, Nat.zero_le _, by simp, unhide HT, unhide HB0⟩
  case round =>
    clear HT HB0
    obtain ⟨a, rfl, ha, hu, ht, hb⟩ := hrel
    have HU := hide hu
    have HT := hide ht
    have HB := hide hb
    clear hu ht hb
    by_cases hlt : a < s.size
    · obtain ⟨l, hl⟩ : ∃ l, s.data.toList.drop a = l := ⟨_, rfl⟩
      have hll : l.length = s.size - a := by rw [← hl]; simp
      have hget : ∀ i (h : a + i < s.size), l.getD i 0 = s[a + i] := fun i h => by
        rw [← hl]; simp [List.getD, List.getElem?_eq_getElem (show a + i < s.data.toList.length by simpa using h)]; rfl
      have HL := hide hl
      have HG := hide hget
      clear hl hget
      go_wp2
      go_loopw [6, 7] (fun nv kv wr => ∃ (k n : Nat), k ≤ 9 ∧ kv = .int .i64 k ∧ nv = .int .i64 n ∧ n = Tb.n l k ∧ n ≤ 4 ∧ tabAt t0 wr ∧ Below w.heap.size w wr) (fun _ kv _ => 9 - (intOf kv).toNat)
      case atStart => exact ⟨0, 0, by omega, rfl, rfl, rfl, by omega, unhide HT, unhide HB⟩
      case round =>
        clear HT HB
        obtain ⟨k, n, hk, rfl, rfl, hn, hn4, ht, hb⟩ := hrel
        have HN := hide hn
        have HT := hide ht
        have HB := hide hb
        clear hn ht hb
        by_cases hk9 : k < 9
        · obtain ⟨b, hc, hr⟩ := (unhide HT) k hk9
          have hm := Tb.m_bd ⟨k, hk9⟩
          simp only at hm
          have HR := hide hr
          clear hr
          obtain ⟨m, hmm⟩ : ∃ m, Tb.m k = m := ⟨_, rfl⟩
          obtain ⟨L, hL⟩ : ∃ L, 2 * m = L := ⟨_, rfl⟩
          rw [hmm] at hm hc
          rw [hL] at hc
          have HM := hide hmm
          have hL2 : (L : Int) / 2 = m := by omega
          have hL3 : 2 * (m : Int) = L := by omega
          have HLL := hide hL
          clear hmm hL
          have hok0 : decide ((m : Int) ≤ (s.size : Int) - (a : Int)) = Tb.ok l k 0 := by
            unfold Tb.ok; rw [unhide HM, hll]
            by_cases h : m ≤ s.size - a
            · rw [decide_eq_true h, decide_eq_true (by omega)]
            · rw [decide_eq_false h, decide_eq_false (by omega)]
          have HK0 := hide hok0
          clear hok0
          go_wp2
          go_loopw [9, 10] (fun okv iv wr2 => ∃ (i j : Nat) (q : Bool), i ≤ m ∧ iv = .int .i64 i ∧ okv = .bool q ∧ q = Tb.ok l k i ∧ wr2 = wr.drewN j) (fun _ iv _ => m - (intOf iv).toNat)
          case atStart => exact ⟨0, 0, _, by omega, rfl, rfl, unhide HK0, rfl⟩
          case round =>
            clear HK0
            obtain ⟨i, j, q, him, rfl, rfl, hq, rfl⟩ := hrel
            by_cases hgo : i < m ∧ q = true
            · obtain ⟨hi, rfl⟩ := hgo
              have hlen := Tb.ok_len hq.symm
              rw [unhide HM, hll] at hlen
              have hai : a + i < s.size := by omega
              obtain ⟨x, hx⟩ : ∃ x, s[a + i] = x := ⟨_, rfl⟩
              have HNX := hide (ok_next hq.symm (((unhide HG) i hai).trans hx))
              have hx' : s[((a : Int) + (i : Int)).toNat]'(by omega) = x := (at_intf s a i hai (by omega)).trans hx
              have w1 := wr64f ((a : Int) + (i : Int)) (by omega) (by omega)
              have w2 := wr64f (2 * (i : Int)) (by omega) (by omega)
              have w3 := wr64f (2 * (i : Int) + 1) (by omega) (by omega)
              have i1 : 0 ≤ (a : Int) + (i : Int) ∧ (a : Int) + (i : Int) < (s.size : Int) := by omega
              have i2 : 0 ≤ 2 * (i : Int) ∧ 2 * (i : Int) < (L : Int) := by omega
              have i3 : 0 ≤ 2 * (i : Int) + 1 ∧ 2 * (i : Int) + 1 < (L : Int) := by omega
              have hlo := ((unhide HR) i (by rw [unhide HM]; exact hi)).1
              have hhi := ((unhide HR) i (by rw [unhide HM]; exact hi)).2
              have hxb := x.toNat_lt
              generalize Tb.lo k i = lo at *
              generalize Tb.hi k i = hii at *
              clear hq hlen
              by_cases hcmp : lo ≤ x.toNat
              · have hcmp' : (lo : Int) ≤ (x.toNat : Int) := by omega
                go_wp2
                go_quiet (fail)
                go_wp2
                exact ⟨⟨i + 1, _, _, by omega, by go_num, rfl, by rw [unhide HNX, decide_eq_true hcmp, Bool.true_and], rfl⟩, by simp [intOf]; omega⟩
              · have hcmp' : decide ((lo : Int) ≤ (x.toNat : Int)) = false := by simp; omega
                go_wp2
                go_quiet (fail)
                go_wp2
                exact ⟨⟨i + 1, _, _, by omega, by go_num, rfl, by rw [unhide HNX, decide_eq_false hcmp, Bool.false_and], rfl⟩, by simp [intOf]; omega⟩
            · have hfin : Tb.ok l k m = q := by
                by_cases e : i = m
                · rw [← e]; exact hq.symm
                · have hqf : q = false := by
                    rcases hb : q with _ | _
                    · rfl
                    · exact absurd ⟨by omega, hb⟩ hgo
                  rw [hqf] at hq ⊢
                  exact Tb.ok_false hq.symm him
              have hst : (¬ i < m) ∨ (i < m ∧ q = false) := by
                by_cases e : i < m
                · right; refine ⟨e, ?_⟩
                  rcases hb : q with _ | _
                  · rfl
                  · exact absurd ⟨e, hb⟩ hgo
                · exact .inl e
              clear hgo hq
              rcases q with _ | _
              · have HE := hide (n_no (unhide HM) (unhide HN) hfin)
                clear hfin
                rcases hst with hst | ⟨hst, _⟩
                all_goals
                  go_wp2
                  exact ⟨⟨k + 1, n, by omega, by go_num, rfl, unhide HE, hn4, tab_drewN (unhide HT) _, Go.below_drewN (unhide HB) _⟩, by simp [intOf]; omega⟩
              · have HE := hide (n_yes (unhide HM) hfin)
                have hst' : ¬ i < m := by
                  rcases hst with h | ⟨_, h⟩
                  · exact h
                  · cases h
                clear hfin hst
                go_wp2
                exact ⟨⟨k + 1, m, by omega, by go_num, rfl, unhide HE, hm.2, tab_drewN (unhide HT) _, Go.below_drewN (unhide HB) _⟩, by simp [intOf]; omega⟩
        · obtain rfl : k = 9 := by omega
          have hne : s.data.toList.drop a ≠ [] := by rw [unhide HL]; intro e; rw [e] at hll; simp at hll; omega
          have hsl : n = U8.sl (s.data.toList.drop a) := by rw [unhide HN, unhide HL]; exact Tb.n_sl l (by rw [← unhide HL]; exact hne)
          by_cases hn0 : n = 0
          · have HR := hide (bad_at (unhide HU) hne (by omega))
            subst hn0
            clear hne hsl
            go_wp2
            go_ret2
            exact ⟨ret_bool_int (unhide HR).1.symm (by rw [(unhide HR).2]), unhide HB⟩
          · have HR := hide (bad_on (unhide HU) (by omega))
            rw [← hsl] at HR
            have hle := U8.sl_le (s.data.toList.drop a)
            rw [← hsl, List.length_drop, show s.data.toList.length = s.size from by simp] at hle
            have hn0' : ((n : Int) == 0) = false := by rw [beq_eq_false_iff_ne]; omega
            clear hne hsl
            go_wp2
            exact ⟨⟨a + n, by go_num, by omega, unhide HR, unhide HT, unhide HB⟩, by simp [intOf]; omega⟩
    · have HR := hide (bad_end (unhide HU) (by rw [List.drop_eq_nil_iff]; simp; omega))
      go_wp2
      go_ret2
      exact ⟨ret_bool_int (unhide HR).1.symm (by rw [(unhide HR).2]; rfl), unhide HB⟩
end Go.Proofs.YtemkbobofoimaaaDoor
