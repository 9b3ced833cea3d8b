/- The document's making of nodes. -/
import Derived.Test.YtjecopdbcaojcaaHd
namespace Go.Proofs.Ytjecopdbcaojcaa
open Go.RowKit Kb
set_option linter.unusedVariables false
set_option maxRecDepth 20000

set_option maxHeartbeats 1000000 in
theorem node_any (k : Int) (o : Option Addr) (n c : Nat) (w : World) :
    Calls Try.prog 34 #[.int .i64 k, .slice o n c] w fun e w' => e = .returned (.agg #[.int .i64 k, .int .u64 0, .int .u64 0, .int .u64 0, .int .u64 0, .slice o n c]) ∧ Below w.heap.size w w' := by
  go_enter Try.func34, Try.ntmps34
  go_wp2_with fail
  refine bodyPost_ret_by (v := .agg #[.int .i64 k, .int .u64 0, .int .u64 0, .int .u64 0, .int .u64 0, .slice o n c]) ?_ rfl ⟨rfl, (Below.refl _ _).alloc (Nat.le_refl _) _⟩
  exact results_cell_row (ty := 27) rfl _ _ w.heap.size _ #[.int .i64 k, .int .u64 0, .int .u64 0, .int .u64 0, .int .u64 0, .slice o n c] _ _ rfl (heap_alloc_new w _) Try.underlying27 rfl (by kernel_rfl)
/-- how many nodes, up to 81 and the last one's -/
def wtR : Rx → Nat → Nat
  | .mk _ _ ks, n => wtL ks (n + 1)
where
  wtL : List Rx → Nat → Nat
    | [], n => n
    | x :: xs, n => if n ≤ 81 then wtL xs (wtR x n) else n
theorem wtL_full {l : List Rx} {m : Nat} (h : ¬ m ≤ 81) : wtR.wtL l m = m := by
  cases l with
  | nil => rw [wtR.wtL]
  | cons x xs => rw [wtR.wtL, if_neg h]
set_option maxHeartbeats 1000000 in
theorem weight_any (r : Rx) : ∀ (v : Value) (n : Nat) (w : World), RexV w v r → n ≤ 81 →
    Calls Try.prog 47 #[v, .int .i64 n] w fun e w' => e = .returned (.int .i64 (wtR r n)) ∧ Below w.heap.size w w' ∧ wtR r n ≤ 82 := by
  induction r using Rx.ind with
  | h k s ks ih =>
    intro v n w h1 hn
    obtain ⟨e1, rfl, hk1⟩ := h1.val
    obtain ⟨o1, c1, rfl, _⟩ := hk1.form
    obtain ⟨s1, s2, s3, s4⟩ := s
    have IH := hide ih
    have K1 := hide hk1
    have hroom := hk1.room
    obtain ⟨res, hres⟩ : ∃ res, wtR (.mk k ⟨s1, s2, s3, s4⟩ ks) n = res := ⟨_, rfl⟩
    rw [hres]
    have HRES : Hid (res = wtR.wtL ks (n + 1)) := hide (by rw [← hres, wtR])
    clear ih hk1 h1 hres
    unfold rexV
    simp only [Rx.k, Rx.s, Rx.ks] at *
    obtain ⟨W0, hW0⟩ : ∃ W0, w.alloc (.cells #[.int .i64 k, .int .u64 s1, .int .u64 s2, .int .u64 s3, .int .u64 s4, .slice o1 ks.length c1] 27) = W0 := ⟨_, rfl⟩
    have BB : Hid (Below w.heap.size w W0) := hide (by rw [← hW0]; exact (Below.refl _ _).alloc (Nat.le_refl _) _)
    have HCA : Hid (W0.cell? ⟨w.heap.size, 5, none⟩ = some (.slice o1 ks.length c1)) := hide (by rw [← hW0, World.cell?_alloc_new]; rfl)
    have HWS : Hid (w.heap.size < W0.heap.size) := hide (by rw [← hW0]; simp)
    go_enter Try.func47, Try.ntmps47
    go_wp2_with fail
    clear hW0
    go_loopw [5, 1] (fun x y wr => ∃ i m : Nat, x = .int .i64 i ∧ y = .int .i64 m ∧ i ≤ ks.length ∧ m ≤ 82 ∧ Below W0.heap.size W0 wr ∧ res = wtR.wtL (ks.drop i) m) (fun x _ _ => ks.length - (intOf x).toNat)
    case atStart => exact ⟨0, n + 1, rfl, by go_num, Nat.zero_le _, by omega, Below.refl _ _, unhide HRES⟩
    case round =>
      obtain ⟨i, m, rfl, rfl, hi, hm, hbel, hres⟩ := hrel
      have B := hide hbel
      have RES := hide hres
      clear hbel hres
      have ca := cell_below (unhide HCA) (unhide HWS) (unhide B)
      by_cases hlt : i < ks.length
      · have hiI : (i : Int) < ks.length := by omega
        by_cases h81 : m ≤ 81
        · have hmI : (m : Int) ≤ 81 := by omega
          have BW := hide (bel_trans (unhide BB) (unhide B))
          obtain ⟨x, hx⟩ : ∃ x, ks[i]? = some x := ⟨ks[i], List.getElem?_eq_getElem _⟩
          have hkx := Kd.below (unhide BW) _ _ _ (Nat.le_refl _) (unhide K1)
          obtain ⟨g1, f1, d1, e1, he1, hg1, fx, a0, a1, a2, a3, a4, a5, kx⟩ := hkx.at_ hx
          have HR := hide (fun W (b : Below wr.heap.size wr W) => (unhide IH) x (List.mem_of_getElem? hx) (rexV x e1) m W (RexV.below ⟨⟨e1, rfl, kx⟩, fx⟩ b) h81)
          unfold rexV at HR
          have HDR : Hid (ks.drop i = x :: ks.drop (i + 1)) := hide (by
            rw [List.drop_eq_getElem_cons hlt, (List.getElem?_eq_some_iff.1 hx).2])
          obtain ⟨oe1, ce1, hfe1, _⟩ := kx.form
          subst hfe1
          clear hkx kx fx hx
          cases he1
          have hib : 0 ≤ (i : Int) ∧ (i : Int) < ks.length := by omega
          obtain ⟨l1, hl1⟩ : ∃ l1, x.ks.length = l1 := ⟨_, rfl⟩
          obtain ⟨x0, hx0⟩ : ∃ z, x.k = z := ⟨_, rfl⟩
          obtain ⟨⟨x1, x2, x3, x4⟩, hx1⟩ : ∃ z, x.s = z := ⟨_, rfl⟩
          obtain ⟨pr, hpr⟩ : ∃ pr, wtR x m = pr := ⟨_, rfl⟩
          rw [hl1] at a5
          rw [hx0] at a0
          rw [hx1] at a1 a2 a3 a4
          rw [hl1, hx0, hx1, hpr] at HR
          dsimp only at a1 a2 a3 a4 HR
          have HRS : Hid (res = wtR.wtL (ks.drop (i + 1)) pr) := hide (by rw [unhide RES, unhide HDR, wtR.wtL, if_pos h81, hpr])
          clear hl1 hx0 hx1 hpr
          go_wp2_with fail
          refine ((unhide HR) _ (Below.refl _ _)).mono ?_
          rintro e w3 ⟨rfl, b3, h82⟩
          have B3 := hide (bel_trans (unhide B) b3)
          clear b3
          go_wp2_with fail
          exact ⟨⟨i + 1, pr, by go_num, rfl, by omega, h82, unhide B3, unhide HRS⟩, by simp [intOf]; omega⟩
        · have hmI : ¬ ((m : Int) ≤ 81) := by omega
          have HRS : Hid (res = m) := hide (by rw [unhide RES, wtL_full h81])
          go_wp2_with fail
          go_ret
          obtain rfl := unhide HRS
          exact ⟨rfl, bel_trans (unhide BB) (unhide B), hm⟩
      · obtain rfl : i = ks.length := by omega
        have HRS : Hid (res = m) := hide (by rw [unhide RES, List.drop_length, wtR.wtL])
        go_wp2_with fail
        go_ret
        obtain rfl := unhide HRS
        exact ⟨rfl, bel_trans (unhide BB) (unhide B), hm⟩
end Go.Proofs.Ytjecopdbcaojcaa
