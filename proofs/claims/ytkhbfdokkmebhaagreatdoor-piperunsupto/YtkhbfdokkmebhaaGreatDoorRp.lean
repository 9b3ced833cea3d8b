/- Walks of the document's bits and numbers. -/
import Derived.Test.YtkhbfdokkmebhaaGreatDoorKc
import Derived.Test.YtkhbfdokkmebhaaGreatDoorRk
import Derived.Test.YtkhbfdokkmebhaaGreatDoorC7
import Derived.Test.YtkhbfdokkmebhaaGreatDoorWj
namespace Go.Proofs.YtkhbfdokkmebhaaGreatDoor
open Go.RowKit Kb
set_option linter.unusedVariables false
set_option maxRecDepth 20000

/-- numbers as cells -/
def cellsI (l : List Nat) : List Value := l.map fun (n : Nat) => Value.int .i64 (n : Int)
theorem cellsI_append (a b : List Nat) : cellsI (a ++ b) = cellsI a ++ cellsI b := by simp [cellsI]
theorem cellsI_length (l : List Nat) : (cellsI l).length = l.length := by simp [cellsI]
def sv64 (c : UInt8) : Int := match C6.sv c with | some n => (n : Int) | none => -1
theorem find64 (c : UInt8) : Fnd.find tab64.data.toList [c] 0 = sv64 c := by
  have := Kb.u8_all (p := fun c => Fnd.find tab64.data.toList [c] 0 == sv64 c) (by decide +kernel) c
  simpa using this
theorem of8_any (c : UInt8) (w : World) :
    Calls Tryz.prog 59 #[.int .u8 c.toNat] w fun e w' => e = .returned (.int .i64 c.toNat) ∧ w' = w := by
  have hc := c.toNat_lt
  go_enter Tryz.func59, Tryz.ntmps59
  go_wp2
  go_ret
  exact ⟨rfl, rfl⟩
set_option maxHeartbeats 1000000 in
theorem of6_any (c : UInt8) (w : World) :
    Calls Tryz.prog 35 #[.int .u8 c.toNat] w fun e w' => e = .returned (.int .i64 (sv64 c)) ∧ Below w.heap.size w w' := by
  have hcv : ∀ (W : World) (b : Nat), W.cell? ⟨b, 0, none⟩ = some (.int .u8 c.toNat) → (convert 36 9 (.slice (some ⟨b, 0, none⟩) 1 1)).run Tryz.prog W = .ok (.string ⟨[c].toArray⟩) W := fun W b h => Kb.conv_one W b _ h
  have HF : Hid (∀ W, Calls Tryz.prog 36 #[.string tab64, .string ⟨[c].toArray⟩, .int .i64 0] W fun e w' => e = .returned (.int .i64 (sv64 c)) ∧ w' = W) := hide (fun W => by
    have := rfind_any tab64 ⟨[c].toArray⟩ 0 W (by decide) (by show 1 ≤ maxLen; decide) (by omega) (by omega)
    rwa [show (⟨[c].toArray⟩ : ByteArray).data.toList = [c] from rfl, find64] at this)
  unfold tab64 at HF
  generalize (⟨[c].toArray⟩ : ByteArray) = y at *
  go_enter Tryz.func35, Tryz.ntmps35
  go_wp2_with fail
  refine ((unhide HF) _).mono ?_; rintro e wx ⟨rfl, hwx⟩; rw [hwx]; clear hwx wx
  go_wp2_with fail
  go_ret
  exact ⟨rfl, (Below.refl _ _).alloc (Nat.le_refl _) _⟩

/-- the bits of the first k bytes -/
def Bt (wide : Nat) (f : UInt8 → Nat) (s : ByteArray) (k : Nat) : List Nat := (s.data.toList.take k).flatMap fun c => C7.bt wide (f c)
theorem Bt_succ (wide : Nat) (f : UInt8 → Nat) (s : ByteArray) (k : Nat) (h : k < s.size) : Bt wide f s (k + 1) = Bt wide f s k ++ C7.bt wide (f s[k]) := by
  unfold Bt; rw [Kb.take_snoc s k h]; simp
theorem Bt_all (wide : Nat) (f : UInt8 → Nat) (s : ByteArray) (k : Nat) (h : s.size ≤ k) : Bt wide f s k = s.data.toList.flatMap fun c => C7.bt wide (f c) := by
  unfold Bt; rw [Kb.take_all s k h]
theorem Bt_len (wide : Nat) (f : UInt8 → Nat) (s : ByteArray) : ∀ k, k ≤ s.size → (Bt wide f s k).length = wide * k := by
  intro k
  induction k with
  | zero => intro _; simp [Bt]
  | succ k ih => intro h; rw [Bt_succ wide f s k h, List.length_append, ih (by omega), C7.bt_len, Nat.mul_succ]
def svN (c : UInt8) : Nat := (C6.sv c).getD 0
theorem ret_vbool {v : Value} {a b : Bool} (h : a = b) : Ending.returned (.tuple #[v, .bool a]) = .returned (.tuple #[v, .bool b]) := by rw [h]
theorem allS_take (s : ByteArray) (k : Nat) (h : k < s.size) : C7.allS (s.data.toList.take (k + 1)) = (C7.allS (s.data.toList.take k) && (C6.sv s[k]).isSome) := by
  rw [Kb.take_snoc s k h, C7.allS_app]; simp [C7.allS]

set_option maxRecDepth 100000 in
set_option maxHeartbeats 8000000 in
theorem bits8_any (s : ByteArray) (w : World) (hs : s.size ≤ 1099511627776) :
    Calls Tryz.prog 34 #[.string s, .func (.func 59) #[] #[], .int .i64 8] w fun e w' => ∃ v, e = .returned (.tuple #[v, .bool true]) ∧ (w'.ownsRow w.heap.size 3 1 v (8 * s.size) (cellsI (s.data.toList.flatMap fun c => C7.bt 8 (UInt8.toNat c)))) ∧ Below w.heap.size w w' := by
  obtain ⟨i0, hi, hz0, hz1, hz2⟩ := info_parts infoI64
  go_enter Tryz.func34, Tryz.ntmps34
  go_wp2
  go_loopw [8, 9] (fun v i wr => ∃ (k : Nat), k ≤ s.size ∧ i = .int .i64 k ∧ wr.ownsRow w.heap.size 3 1 v (8 * k) (cellsI (Bt 8 UInt8.toNat s k)) ∧ Below w.heap.size w wr) (fun _ i _ => s.size - (intOf i).toNat)
  case atStart => exact ⟨0, Nat.zero_le _, rfl, World.ownsRow_nil _ _ _ _, Below.refl _ _⟩
  case round =>
    obtain ⟨k, hk, rfl, hown, hbel⟩ := hrel
    have HB := hide hbel
    have OWN := hide hown
    clear hbel hown
    by_cases hlt : k < s.size
    · have hc := s[k].toNat_lt
      have HS := hide (Bt_succ 8 UInt8.toNat s k hlt)
      obtain ⟨x, hxx⟩ : ∃ x, s[k].toNat = x := ⟨_, rfl⟩
      have HF : Hid (∀ W, Calls Tryz.prog 59 #[.int .u8 s[k].toNat] W fun e w' => e = .returned (.int .i64 (x : Int)) ∧ Below W.heap.size W w') := hide (fun W => by
        rw [← hxx]; refine (of8_any s[k] W).mono ?_; rintro e w' ⟨rfl, rfl⟩; exact ⟨rfl, Below.refl _ _⟩)
      have HXX := hide hxx
      have hx : x < 256 := by omega
      clear hxx
      go_wp2_with fail
      refine ((unhide HF) _).mono ?_; rintro e w1 ⟨rfl, b1⟩
      have HB1 := hide ((unhide HB).trans (b1.mono (unhide HB).size))
      have OW1 := hide (own_below (unhide OWN) b1)
      clear b1 HB OWN
      go_wp2_with fail
      go_loopw [8, 11] (fun v i wq => ∃ (j : Nat), j ≤ 8 ∧ i = .int .i64 (7 - (j : Int)) ∧ wq.ownsRow w.heap.size 3 1 v (8 * k + j) (cellsI (Bt 8 UInt8.toNat s k ++ (C7.bt 8 x).take j)) ∧ Below w.heap.size w wq) (fun _ i _ => (intOf i + 1).toNat)
      case atStart => exact ⟨0, by omega, rfl, by simpa using unhide OW1, unhide HB1⟩
      case round =>
        obtain ⟨j, hj, rfl, hown, hbel⟩ := hrel
        have hB := hbel.size
        have HB2 := hide hbel
        have OW2 := hide hown
        clear hbel hown HB1 OW1
        have b3 : 8 * k + j + 1 ≤ maxLen := by unfold maxLen; omega
        have b4 : (8 * k + j + 1) * 8 ≤ 140737488355328 := by omega
        match j, hj with
        | 0, _ =>
          have hr : Int.tmod ((x : Int) / 128) 2 = ((x / 128 % 2 : Nat) : Int) := by rw [Int.tmod_eq_emod_of_nonneg (by omega)]; omega
          have hr2 : ((x : Int) / 128) % 2 = ((x / 128 % 2 : Nat) : Int) := by omega
          have HT : Hid (Value.int IntKind.i64 (((x : Int) / 128) % 2) = Value.int IntKind.i64 ((x / 128 % 2 : Nat) : Int)) := hide (by rw [hr2])
          clear hr hr2
          go_wp2_with (at_builtin; refine wpList_append_own _ rfl _ _ 22 rfl w.heap.size 3 i0 (.int .i64 0) 1 8 Tryz.underlying22 hi hz0 hz1 hz2 rfl (by decide) _ (8 * k + 0) (cellsI (Bt 8 UInt8.toNat s k ++ (C7.bt 8 x).take 0)) rfl ((unhide OW2).alloc _) _ 1 1 _ rfl rfl (cell_one_new _ _ _) (by simp [Value.oneCell']) b3 b4 (by simp; omega) ?_; intro v1 w1 own1 grow1 _)
          refine ⟨⟨1, by omega, by first | rfl | go_num, ?_, ((unhide HB2).alloc hB _).grown grow1 (by simp; omega) (own_lt (unhide OW2))⟩, by simp [intOf]⟩
          rw [show (C7.bt 8 x).take 1 = (C7.bt 8 x).take 0 ++ [x / 128 % 2] from rfl, ← List.append_assoc, cellsI_append]
          show World.ownsRow _ _ _ _ _ _ (cellsI (Bt 8 UInt8.toNat s k ++ (C7.bt 8 x).take 0) ++ [Value.int IntKind.i64 ((x / 128 % 2 : Nat) : Int)])
          rw [← unhide HT]; exact own1
        | 1, _ =>
          have hr : Int.tmod ((x : Int) / 64) 2 = ((x / 64 % 2 : Nat) : Int) := by rw [Int.tmod_eq_emod_of_nonneg (by omega)]; omega
          have hr2 : ((x : Int) / 64) % 2 = ((x / 64 % 2 : Nat) : Int) := by omega
          have HT : Hid (Value.int IntKind.i64 (((x : Int) / 64) % 2) = Value.int IntKind.i64 ((x / 64 % 2 : Nat) : Int)) := hide (by rw [hr2])
          clear hr hr2
          go_wp2_with (at_builtin; refine wpList_append_own _ rfl _ _ 22 rfl w.heap.size 3 i0 (.int .i64 0) 1 8 Tryz.underlying22 hi hz0 hz1 hz2 rfl (by decide) _ (8 * k + 1) (cellsI (Bt 8 UInt8.toNat s k ++ (C7.bt 8 x).take 1)) rfl ((unhide OW2).alloc _) _ 1 1 _ rfl rfl (cell_one_new _ _ _) (by simp [Value.oneCell']) b3 b4 (by simp; omega) ?_; intro v1 w1 own1 grow1 _)
          refine ⟨⟨2, by omega, by first | rfl | go_num, ?_, ((unhide HB2).alloc hB _).grown grow1 (by simp; omega) (own_lt (unhide OW2))⟩, by simp [intOf]⟩
          rw [show (C7.bt 8 x).take 2 = (C7.bt 8 x).take 1 ++ [x / 64 % 2] from rfl, ← List.append_assoc, cellsI_append]
          show World.ownsRow _ _ _ _ _ _ (cellsI (Bt 8 UInt8.toNat s k ++ (C7.bt 8 x).take 1) ++ [Value.int IntKind.i64 ((x / 64 % 2 : Nat) : Int)])
          rw [← unhide HT]; exact own1
        | 2, _ =>
          have hr : Int.tmod ((x : Int) / 32) 2 = ((x / 32 % 2 : Nat) : Int) := by rw [Int.tmod_eq_emod_of_nonneg (by omega)]; omega
          have hr2 : ((x : Int) / 32) % 2 = ((x / 32 % 2 : Nat) : Int) := by omega
          have HT : Hid (Value.int IntKind.i64 (((x : Int) / 32) % 2) = Value.int IntKind.i64 ((x / 32 % 2 : Nat) : Int)) := hide (by rw [hr2])
          clear hr hr2
          go_wp2_with (at_builtin; refine wpList_append_own _ rfl _ _ 22 rfl w.heap.size 3 i0 (.int .i64 0) 1 8 Tryz.underlying22 hi hz0 hz1 hz2 rfl (by decide) _ (8 * k + 2) (cellsI (Bt 8 UInt8.toNat s k ++ (C7.bt 8 x).take 2)) rfl ((unhide OW2).alloc _) _ 1 1 _ rfl rfl (cell_one_new _ _ _) (by simp [Value.oneCell']) b3 b4 (by simp; omega) ?_; intro v1 w1 own1 grow1 _)
          refine ⟨⟨3, by omega, by first | rfl | go_num, ?_, ((unhide HB2).alloc hB _).grown grow1 (by simp; omega) (own_lt (unhide OW2))⟩, by simp [intOf]⟩
          rw [show (C7.bt 8 x).take 3 = (C7.bt 8 x).take 2 ++ [x / 32 % 2] from rfl, ← List.append_assoc, cellsI_append]
          show World.ownsRow _ _ _ _ _ _ (cellsI (Bt 8 UInt8.toNat s k ++ (C7.bt 8 x).take 2) ++ [Value.int IntKind.i64 ((x / 32 % 2 : Nat) : Int)])
          rw [← unhide HT]; exact own1
        | 3, _ =>
          have hr : Int.tmod ((x : Int) / 16) 2 = ((x / 16 % 2 : Nat) : Int) := by rw [Int.tmod_eq_emod_of_nonneg (by omega)]; omega
          have hr2 : ((x : Int) / 16) % 2 = ((x / 16 % 2 : Nat) : Int) := by omega
          have HT : Hid (Value.int IntKind.i64 (((x : Int) / 16) % 2) = Value.int IntKind.i64 ((x / 16 % 2 : Nat) : Int)) := hide (by rw [hr2])
          clear hr hr2
          go_wp2_with (at_builtin; refine wpList_append_own _ rfl _ _ 22 rfl w.heap.size 3 i0 (.int .i64 0) 1 8 Tryz.underlying22 hi hz0 hz1 hz2 rfl (by decide) _ (8 * k + 3) (cellsI (Bt 8 UInt8.toNat s k ++ (C7.bt 8 x).take 3)) rfl ((unhide OW2).alloc _) _ 1 1 _ rfl rfl (cell_one_new _ _ _) (by simp [Value.oneCell']) b3 b4 (by simp; omega) ?_; intro v1 w1 own1 grow1 _)
          refine ⟨⟨4, by omega, by first | rfl | go_num, ?_, ((unhide HB2).alloc hB _).grown grow1 (by simp; omega) (own_lt (unhide OW2))⟩, by simp [intOf]⟩
          rw [show (C7.bt 8 x).take 4 = (C7.bt 8 x).take 3 ++ [x / 16 % 2] from rfl, ← List.append_assoc, cellsI_append]
          show World.ownsRow _ _ _ _ _ _ (cellsI (Bt 8 UInt8.toNat s k ++ (C7.bt 8 x).take 3) ++ [Value.int IntKind.i64 ((x / 16 % 2 : Nat) : Int)])
          rw [← unhide HT]; exact own1
        | 4, _ =>
          have hr : Int.tmod ((x : Int) / 8) 2 = ((x / 8 % 2 : Nat) : Int) := by rw [Int.tmod_eq_emod_of_nonneg (by omega)]; omega
          have hr2 : ((x : Int) / 8) % 2 = ((x / 8 % 2 : Nat) : Int) := by omega
          have HT : Hid (Value.int IntKind.i64 (((x : Int) / 8) % 2) = Value.int IntKind.i64 ((x / 8 % 2 : Nat) : Int)) := hide (by rw [hr2])
          clear hr hr2
          go_wp2_with (at_builtin; refine wpList_append_own _ rfl _ _ 22 rfl w.heap.size 3 i0 (.int .i64 0) 1 8 Tryz.underlying22 hi hz0 hz1 hz2 rfl (by decide) _ (8 * k + 4) (cellsI (Bt 8 UInt8.toNat s k ++ (C7.bt 8 x).take 4)) rfl ((unhide OW2).alloc _) _ 1 1 _ rfl rfl (cell_one_new _ _ _) (by simp [Value.oneCell']) b3 b4 (by simp; omega) ?_; intro v1 w1 own1 grow1 _)
          refine ⟨⟨5, by omega, by first | rfl | go_num, ?_, ((unhide HB2).alloc hB _).grown grow1 (by simp; omega) (own_lt (unhide OW2))⟩, by simp [intOf]⟩
          rw [show (C7.bt 8 x).take 5 = (C7.bt 8 x).take 4 ++ [x / 8 % 2] from rfl, ← List.append_assoc, cellsI_append]
          show World.ownsRow _ _ _ _ _ _ (cellsI (Bt 8 UInt8.toNat s k ++ (C7.bt 8 x).take 4) ++ [Value.int IntKind.i64 ((x / 8 % 2 : Nat) : Int)])
          rw [← unhide HT]; exact own1
        | 5, _ =>
          have hr : Int.tmod ((x : Int) / 4) 2 = ((x / 4 % 2 : Nat) : Int) := by rw [Int.tmod_eq_emod_of_nonneg (by omega)]; omega
          have hr2 : ((x : Int) / 4) % 2 = ((x / 4 % 2 : Nat) : Int) := by omega
          have HT : Hid (Value.int IntKind.i64 (((x : Int) / 4) % 2) = Value.int IntKind.i64 ((x / 4 % 2 : Nat) : Int)) := hide (by rw [hr2])
          clear hr hr2
          go_wp2_with (at_builtin; refine wpList_append_own _ rfl _ _ 22 rfl w.heap.size 3 i0 (.int .i64 0) 1 8 Tryz.underlying22 hi hz0 hz1 hz2 rfl (by decide) _ (8 * k + 5) (cellsI (Bt 8 UInt8.toNat s k ++ (C7.bt 8 x).take 5)) rfl ((unhide OW2).alloc _) _ 1 1 _ rfl rfl (cell_one_new _ _ _) (by simp [Value.oneCell']) b3 b4 (by simp; omega) ?_; intro v1 w1 own1 grow1 _)
          refine ⟨⟨6, by omega, by first | rfl | go_num, ?_, ((unhide HB2).alloc hB _).grown grow1 (by simp; omega) (own_lt (unhide OW2))⟩, by simp [intOf]⟩
          rw [show (C7.bt 8 x).take 6 = (C7.bt 8 x).take 5 ++ [x / 4 % 2] from rfl, ← List.append_assoc, cellsI_append]
          show World.ownsRow _ _ _ _ _ _ (cellsI (Bt 8 UInt8.toNat s k ++ (C7.bt 8 x).take 5) ++ [Value.int IntKind.i64 ((x / 4 % 2 : Nat) : Int)])
          rw [← unhide HT]; exact own1
        | 6, _ =>
          have hr : Int.tmod ((x : Int) / 2) 2 = ((x / 2 % 2 : Nat) : Int) := by rw [Int.tmod_eq_emod_of_nonneg (by omega)]; omega
          have hr2 : ((x : Int) / 2) % 2 = ((x / 2 % 2 : Nat) : Int) := by omega
          have HT : Hid (Value.int IntKind.i64 (((x : Int) / 2) % 2) = Value.int IntKind.i64 ((x / 2 % 2 : Nat) : Int)) := hide (by rw [hr2])
          clear hr hr2
          go_wp2_with (at_builtin; refine wpList_append_own _ rfl _ _ 22 rfl w.heap.size 3 i0 (.int .i64 0) 1 8 Tryz.underlying22 hi hz0 hz1 hz2 rfl (by decide) _ (8 * k + 6) (cellsI (Bt 8 UInt8.toNat s k ++ (C7.bt 8 x).take 6)) rfl ((unhide OW2).alloc _) _ 1 1 _ rfl rfl (cell_one_new _ _ _) (by simp [Value.oneCell']) b3 b4 (by simp; omega) ?_; intro v1 w1 own1 grow1 _)
          refine ⟨⟨7, by omega, by first | rfl | go_num, ?_, ((unhide HB2).alloc hB _).grown grow1 (by simp; omega) (own_lt (unhide OW2))⟩, by simp [intOf]⟩
          rw [show (C7.bt 8 x).take 7 = (C7.bt 8 x).take 6 ++ [x / 2 % 2] from rfl, ← List.append_assoc, cellsI_append]
          show World.ownsRow _ _ _ _ _ _ (cellsI (Bt 8 UInt8.toNat s k ++ (C7.bt 8 x).take 6) ++ [Value.int IntKind.i64 ((x / 2 % 2 : Nat) : Int)])
          rw [← unhide HT]; exact own1
        | 7, _ =>
          have hr : Int.tmod ((x : Int)) 2 = ((x / 1 % 2 : Nat) : Int) := by rw [Int.tmod_eq_emod_of_nonneg (by omega)]; omega
          have hr2 : ((x : Int)) % 2 = ((x / 1 % 2 : Nat) : Int) := by omega
          have HT : Hid (Value.int IntKind.i64 (((x : Int)) % 2) = Value.int IntKind.i64 ((x / 1 % 2 : Nat) : Int)) := hide (by rw [hr2])
          clear hr hr2
          go_wp2_with (at_builtin; refine wpList_append_own _ rfl _ _ 22 rfl w.heap.size 3 i0 (.int .i64 0) 1 8 Tryz.underlying22 hi hz0 hz1 hz2 rfl (by decide) _ (8 * k + 7) (cellsI (Bt 8 UInt8.toNat s k ++ (C7.bt 8 x).take 7)) rfl ((unhide OW2).alloc _) _ 1 1 _ rfl rfl (cell_one_new _ _ _) (by simp [Value.oneCell']) b3 b4 (by simp; omega) ?_; intro v1 w1 own1 grow1 _)
          refine ⟨⟨8, by omega, by first | rfl | go_num, ?_, ((unhide HB2).alloc hB _).grown grow1 (by simp; omega) (own_lt (unhide OW2))⟩, by simp [intOf]⟩
          rw [show (C7.bt 8 x).take 8 = (C7.bt 8 x).take 7 ++ [x / 1 % 2] from rfl, ← List.append_assoc, cellsI_append]
          show World.ownsRow _ _ _ _ _ _ (cellsI (Bt 8 UInt8.toNat s k ++ (C7.bt 8 x).take 7) ++ [Value.int IntKind.i64 ((x / 1 % 2 : Nat) : Int)])
          rw [← unhide HT]; exact own1
        | 8, _ =>
          go_wp2_with fail
          refine ⟨⟨k + 1, by omega, by go_num, ?_, unhide HB2⟩, by simp [intOf]; omega⟩
          rw [unhide HS, show UInt8.toNat s[k] = x from unhide HXX]
          have := unhide OW2
          rwa [show (C7.bt 8 x).take 8 = C7.bt 8 x from rfl, show 8 * k + 8 = 8 * (k + 1) from by omega] at this
    · have HE := hide (Bt_all 8 UInt8.toNat s k (by omega))
      obtain rfl : k = s.size := by omega
      go_wp2
      go_ret2
      refine ⟨_, rfl, ?_, unhide HB⟩
      have := unhide OWN
      rwa [unhide HE] at this

set_option maxRecDepth 100000 in
set_option maxHeartbeats 8000000 in
theorem bits6_any (s : ByteArray) (w : World) (hs : s.size ≤ 1099511627776) :
    Calls Tryz.prog 34 #[.string s, .func (.func 35) #[] #[], .int .i64 6] w fun e w' => ∃ v, e = .returned (.tuple #[v, .bool (C7.allS s.data.toList)]) ∧ (C7.allS s.data.toList = true → w'.ownsRow w.heap.size 3 1 v (6 * s.size) (cellsI (s.data.toList.flatMap fun c => C7.bt 6 (svN c)))) ∧ Below w.heap.size w w' := by
  obtain ⟨i0, hi, hz0, hz1, hz2⟩ := info_parts infoI64
  go_enter Tryz.func34, Tryz.ntmps34
  go_wp2
  go_loopw [8, 9] (fun v i wr => ∃ (k : Nat), k ≤ s.size ∧ i = .int .i64 k ∧ wr.ownsRow w.heap.size 3 1 v (6 * k) (cellsI (Bt 6 svN s k)) ∧ Below w.heap.size w wr ∧ C7.allS (s.data.toList.take k) = true) (fun _ i _ => s.size - (intOf i).toNat)
  case atStart => exact ⟨0, Nat.zero_le _, rfl, World.ownsRow_nil _ _ _ _, Below.refl _ _, rfl⟩
  case round =>
    obtain ⟨k, hk, rfl, hown, hbel, hall⟩ := hrel
    have HA := hide hall
    clear hall
    have HB := hide hbel
    have OWN := hide hown
    clear hbel hown
    by_cases hlt : k < s.size
    · have hc := s[k].toNat_lt
      have HS := hide (Bt_succ 6 svN s k hlt)
      have HSA := hide (allS_take s k hlt)
      rcases hsv : C6.sv s[k] with _ | x
      · have HN : Hid (C7.allS s.data.toList = false) := hide (by
          rw [← List.take_append_drop (k + 1) s.data.toList, C7.allS_app, unhide HSA, hsv]; simp)
        have HF : Hid (∀ W, Calls Tryz.prog 35 #[.int .u8 s[k].toNat] W fun e w' => e = .returned (.int .i64 (-1)) ∧ Below W.heap.size W w') := hide (fun W => by
          have := of6_any s[k] W
          rwa [show sv64 s[k] = -1 from by unfold sv64; rw [hsv]] at this)
        clear hsv
        go_wp2_with fail
        refine ((unhide HF) _).mono ?_; rintro e w1 ⟨rfl, b1⟩
        go_wp2_with fail
        go_ret2
        exact ⟨_, ret_vbool (by rw [unhide HN]), fun h => (by rw [unhide HN] at h; cases h), (unhide HB).trans (b1.mono (unhide HB).size)⟩
      have hxx := hsv
      have HF : Hid (∀ W, Calls Tryz.prog 35 #[.int .u8 s[k].toNat] W fun e w' => e = .returned (.int .i64 (x : Int)) ∧ Below W.heap.size W w') := hide (fun W => by
        have := of6_any s[k] W
        rwa [show sv64 s[k] = (x : Int) from by unfold sv64; rw [hxx]] at this)
      have HA2 : Hid (C7.allS (s.data.toList.take (k + 1)) = true) := hide (by rw [unhide HSA, unhide HA, hxx]; rfl)
      have HXX := hide hxx
      have hx : x < 64 := by have := (C6.sg_sv _ _ hxx).2; exact this
      clear hxx hsv
      go_wp2_with fail
      refine ((unhide HF) _).mono ?_; rintro e w1 ⟨rfl, b1⟩
      have HB1 := hide ((unhide HB).trans (b1.mono (unhide HB).size))
      have OW1 := hide (own_below (unhide OWN) b1)
      clear b1 HB OWN
      go_wp2_with fail
      go_loopw [8, 11] (fun v i wq => ∃ (j : Nat), j ≤ 6 ∧ i = .int .i64 (5 - (j : Int)) ∧ wq.ownsRow w.heap.size 3 1 v (6 * k + j) (cellsI (Bt 6 svN s k ++ (C7.bt 6 x).take j)) ∧ Below w.heap.size w wq) (fun _ i _ => (intOf i + 1).toNat)
      case atStart => exact ⟨0, by omega, rfl, by simpa using unhide OW1, unhide HB1⟩
      case round =>
        obtain ⟨j, hj, rfl, hown, hbel⟩ := hrel
        have hB := hbel.size
        have HB2 := hide hbel
        have OW2 := hide hown
        clear hbel hown HB1 OW1
        have b3 : 6 * k + j + 1 ≤ maxLen := by unfold maxLen; omega
        have b4 : (6 * k + j + 1) * 8 ≤ 140737488355328 := by omega
        match j, hj with
        | 0, _ =>
          have hr : Int.tmod ((x : Int) / 32) 2 = ((x / 32 % 2 : Nat) : Int) := by rw [Int.tmod_eq_emod_of_nonneg (by omega)]; omega
          have hr2 : ((x : Int) / 32) % 2 = ((x / 32 % 2 : Nat) : Int) := by omega
          have HT : Hid (Value.int IntKind.i64 (((x : Int) / 32) % 2) = Value.int IntKind.i64 ((x / 32 % 2 : Nat) : Int)) := hide (by rw [hr2])
          clear hr hr2
          go_wp2_with (at_builtin; refine wpList_append_own _ rfl _ _ 22 rfl w.heap.size 3 i0 (.int .i64 0) 1 8 Tryz.underlying22 hi hz0 hz1 hz2 rfl (by decide) _ (6 * k + 0) (cellsI (Bt 6 svN s k ++ (C7.bt 6 x).take 0)) rfl ((unhide OW2).alloc _) _ 1 1 _ rfl rfl (cell_one_new _ _ _) (by simp [Value.oneCell']) b3 b4 (by simp; omega) ?_; intro v1 w1 own1 grow1 _)
          refine ⟨⟨1, by omega, by first | rfl | go_num, ?_, ((unhide HB2).alloc hB _).grown grow1 (by simp; omega) (own_lt (unhide OW2))⟩, by simp [intOf]⟩
          rw [show (C7.bt 6 x).take 1 = (C7.bt 6 x).take 0 ++ [x / 32 % 2] from rfl, ← List.append_assoc, cellsI_append]
          show World.ownsRow _ _ _ _ _ _ (cellsI (Bt 6 svN s k ++ (C7.bt 6 x).take 0) ++ [Value.int IntKind.i64 ((x / 32 % 2 : Nat) : Int)])
          rw [← unhide HT]; exact own1
        | 1, _ =>
          have hr : Int.tmod ((x : Int) / 16) 2 = ((x / 16 % 2 : Nat) : Int) := by rw [Int.tmod_eq_emod_of_nonneg (by omega)]; omega
          have hr2 : ((x : Int) / 16) % 2 = ((x / 16 % 2 : Nat) : Int) := by omega
          have HT : Hid (Value.int IntKind.i64 (((x : Int) / 16) % 2) = Value.int IntKind.i64 ((x / 16 % 2 : Nat) : Int)) := hide (by rw [hr2])
          clear hr hr2
          go_wp2_with (at_builtin; refine wpList_append_own _ rfl _ _ 22 rfl w.heap.size 3 i0 (.int .i64 0) 1 8 Tryz.underlying22 hi hz0 hz1 hz2 rfl (by decide) _ (6 * k + 1) (cellsI (Bt 6 svN s k ++ (C7.bt 6 x).take 1)) rfl ((unhide OW2).alloc _) _ 1 1 _ rfl rfl (cell_one_new _ _ _) (by simp [Value.oneCell']) b3 b4 (by simp; omega) ?_; intro v1 w1 own1 grow1 _)
          refine ⟨⟨2, by omega, by first | rfl | go_num, ?_, ((unhide HB2).alloc hB _).grown grow1 (by simp; omega) (own_lt (unhide OW2))⟩, by simp [intOf]⟩
          rw [show (C7.bt 6 x).take 2 = (C7.bt 6 x).take 1 ++ [x / 16 % 2] from rfl, ← List.append_assoc, cellsI_append]
          show World.ownsRow _ _ _ _ _ _ (cellsI (Bt 6 svN s k ++ (C7.bt 6 x).take 1) ++ [Value.int IntKind.i64 ((x / 16 % 2 : Nat) : Int)])
          rw [← unhide HT]; exact own1
        | 2, _ =>
          have hr : Int.tmod ((x : Int) / 8) 2 = ((x / 8 % 2 : Nat) : Int) := by rw [Int.tmod_eq_emod_of_nonneg (by omega)]; omega
          have hr2 : ((x : Int) / 8) % 2 = ((x / 8 % 2 : Nat) : Int) := by omega
          have HT : Hid (Value.int IntKind.i64 (((x : Int) / 8) % 2) = Value.int IntKind.i64 ((x / 8 % 2 : Nat) : Int)) := hide (by rw [hr2])
          clear hr hr2
          go_wp2_with (at_builtin; refine wpList_append_own _ rfl _ _ 22 rfl w.heap.size 3 i0 (.int .i64 0) 1 8 Tryz.underlying22 hi hz0 hz1 hz2 rfl (by decide) _ (6 * k + 2) (cellsI (Bt 6 svN s k ++ (C7.bt 6 x).take 2)) rfl ((unhide OW2).alloc _) _ 1 1 _ rfl rfl (cell_one_new _ _ _) (by simp [Value.oneCell']) b3 b4 (by simp; omega) ?_; intro v1 w1 own1 grow1 _)
          refine ⟨⟨3, by omega, by first | rfl | go_num, ?_, ((unhide HB2).alloc hB _).grown grow1 (by simp; omega) (own_lt (unhide OW2))⟩, by simp [intOf]⟩
          rw [show (C7.bt 6 x).take 3 = (C7.bt 6 x).take 2 ++ [x / 8 % 2] from rfl, ← List.append_assoc, cellsI_append]
          show World.ownsRow _ _ _ _ _ _ (cellsI (Bt 6 svN s k ++ (C7.bt 6 x).take 2) ++ [Value.int IntKind.i64 ((x / 8 % 2 : Nat) : Int)])
          rw [← unhide HT]; exact own1
        | 3, _ =>
          have hr : Int.tmod ((x : Int) / 4) 2 = ((x / 4 % 2 : Nat) : Int) := by rw [Int.tmod_eq_emod_of_nonneg (by omega)]; omega
          have hr2 : ((x : Int) / 4) % 2 = ((x / 4 % 2 : Nat) : Int) := by omega
          have HT : Hid (Value.int IntKind.i64 (((x : Int) / 4) % 2) = Value.int IntKind.i64 ((x / 4 % 2 : Nat) : Int)) := hide (by rw [hr2])
          clear hr hr2
          go_wp2_with (at_builtin; refine wpList_append_own _ rfl _ _ 22 rfl w.heap.size 3 i0 (.int .i64 0) 1 8 Tryz.underlying22 hi hz0 hz1 hz2 rfl (by decide) _ (6 * k + 3) (cellsI (Bt 6 svN s k ++ (C7.bt 6 x).take 3)) rfl ((unhide OW2).alloc _) _ 1 1 _ rfl rfl (cell_one_new _ _ _) (by simp [Value.oneCell']) b3 b4 (by simp; omega) ?_; intro v1 w1 own1 grow1 _)
          refine ⟨⟨4, by omega, by first | rfl | go_num, ?_, ((unhide HB2).alloc hB _).grown grow1 (by simp; omega) (own_lt (unhide OW2))⟩, by simp [intOf]⟩
          rw [show (C7.bt 6 x).take 4 = (C7.bt 6 x).take 3 ++ [x / 4 % 2] from rfl, ← List.append_assoc, cellsI_append]
          show World.ownsRow _ _ _ _ _ _ (cellsI (Bt 6 svN s k ++ (C7.bt 6 x).take 3) ++ [Value.int IntKind.i64 ((x / 4 % 2 : Nat) : Int)])
          rw [← unhide HT]; exact own1
        | 4, _ =>
          have hr : Int.tmod ((x : Int) / 2) 2 = ((x / 2 % 2 : Nat) : Int) := by rw [Int.tmod_eq_emod_of_nonneg (by omega)]; omega
          have hr2 : ((x : Int) / 2) % 2 = ((x / 2 % 2 : Nat) : Int) := by omega
          have HT : Hid (Value.int IntKind.i64 (((x : Int) / 2) % 2) = Value.int IntKind.i64 ((x / 2 % 2 : Nat) : Int)) := hide (by rw [hr2])
          clear hr hr2
          go_wp2_with (at_builtin; refine wpList_append_own _ rfl _ _ 22 rfl w.heap.size 3 i0 (.int .i64 0) 1 8 Tryz.underlying22 hi hz0 hz1 hz2 rfl (by decide) _ (6 * k + 4) (cellsI (Bt 6 svN s k ++ (C7.bt 6 x).take 4)) rfl ((unhide OW2).alloc _) _ 1 1 _ rfl rfl (cell_one_new _ _ _) (by simp [Value.oneCell']) b3 b4 (by simp; omega) ?_; intro v1 w1 own1 grow1 _)
          refine ⟨⟨5, by omega, by first | rfl | go_num, ?_, ((unhide HB2).alloc hB _).grown grow1 (by simp; omega) (own_lt (unhide OW2))⟩, by simp [intOf]⟩
          rw [show (C7.bt 6 x).take 5 = (C7.bt 6 x).take 4 ++ [x / 2 % 2] from rfl, ← List.append_assoc, cellsI_append]
          show World.ownsRow _ _ _ _ _ _ (cellsI (Bt 6 svN s k ++ (C7.bt 6 x).take 4) ++ [Value.int IntKind.i64 ((x / 2 % 2 : Nat) : Int)])
          rw [← unhide HT]; exact own1
        | 5, _ =>
          have hr : Int.tmod ((x : Int)) 2 = ((x / 1 % 2 : Nat) : Int) := by rw [Int.tmod_eq_emod_of_nonneg (by omega)]; omega
          have hr2 : ((x : Int)) % 2 = ((x / 1 % 2 : Nat) : Int) := by omega
          have HT : Hid (Value.int IntKind.i64 (((x : Int)) % 2) = Value.int IntKind.i64 ((x / 1 % 2 : Nat) : Int)) := hide (by rw [hr2])
          clear hr hr2
          go_wp2_with (at_builtin; refine wpList_append_own _ rfl _ _ 22 rfl w.heap.size 3 i0 (.int .i64 0) 1 8 Tryz.underlying22 hi hz0 hz1 hz2 rfl (by decide) _ (6 * k + 5) (cellsI (Bt 6 svN s k ++ (C7.bt 6 x).take 5)) rfl ((unhide OW2).alloc _) _ 1 1 _ rfl rfl (cell_one_new _ _ _) (by simp [Value.oneCell']) b3 b4 (by simp; omega) ?_; intro v1 w1 own1 grow1 _)
          refine ⟨⟨6, by omega, by first | rfl | go_num, ?_, ((unhide HB2).alloc hB _).grown grow1 (by simp; omega) (own_lt (unhide OW2))⟩, by simp [intOf]⟩
          rw [show (C7.bt 6 x).take 6 = (C7.bt 6 x).take 5 ++ [x / 1 % 2] from rfl, ← List.append_assoc, cellsI_append]
          show World.ownsRow _ _ _ _ _ _ (cellsI (Bt 6 svN s k ++ (C7.bt 6 x).take 5) ++ [Value.int IntKind.i64 ((x / 1 % 2 : Nat) : Int)])
          rw [← unhide HT]; exact own1
        | 6, _ =>
          go_wp2_with fail
          refine ⟨⟨k + 1, by omega, by go_num, ?_, unhide HB2, unhide HA2⟩, by simp [intOf]; omega⟩
          rw [unhide HS, show svN s[k] = x from by unfold svN; rw [unhide HXX]; rfl]
          have := unhide OW2
          rwa [show (C7.bt 6 x).take 6 = C7.bt 6 x from rfl, show 6 * k + 6 = 6 * (k + 1) from by omega] at this
    · have HE := hide (Bt_all 6 svN s k (by omega))
      obtain rfl : k = s.size := by omega
      go_wp2
      go_ret2
      refine ⟨_, ret_vbool (by rw [← unhide HA, Kb.take_all s s.size (Nat.le_refl _)]), fun _ => ?_, unhide HB⟩
      have := unhide OWN
      rwa [unhide HE] at this


/-- what stands at a place of a row -/
theorem nth_cell {w : World} {B n g cap : Nat} {L : List Nat} (h : w.ownsRow B 3 1 (.slice (some ⟨g, 0, none⟩) n cap) n (cellsI L)) (j : Nat) (hj : j < L.length) : w.cell? ⟨g, j, none⟩ = some (.int .i64 ((L[j]'hj : Nat) : Int)) := by
  have := h.cells rfl j (.int .i64 ((L[j]'hj : Nat) : Int)) (by simp [cellsI, List.getElem?_eq_getElem hj])
  rwa [Addr.add_lit, Nat.zero_add] at this
theorem own_small {w : World} {B n g cap : Nat} {xs : List Value} (h : w.ownsRow B 3 1 (.slice (some ⟨g, 0, none⟩) n cap) n xs) : g < w.heap.size := (h.lt g rfl).2
theorem take_succ_nat (L : List Nat) (j : Nat) (h : j < L.length) : L.take (j + 1) = L.take j ++ [L[j]] := List.take_succ_eq_append_getElem h
theorem drop_take_snoc (L : List Nat) (i j : Nat) (h : i + j < L.length) : (L.drop i).take (j + 1) = (L.drop i).take j ++ [L[i + j]] := by
  rw [List.take_succ_eq_append_getElem (by rw [List.length_drop]; omega)]
  simp

set_option maxRecDepth 100000 in
set_option maxHeartbeats 8000000 in
theorem numbers_any (vin : Value) (B0 n : Nat) (L : List Nat) (wide : Nat) (w : World) (hw1 : 1 ≤ wide) (hw8 : wide ≤ 8) (hn : n = L.length) (hL : L.length ≤ 1099511627776) (h2 : ∀ b ∈ L, b < 2) (hrow : w.ownsRow B0 3 1 vin n (cellsI L)) :
    Calls Tryz.prog 37 #[vin, .int .i64 wide] w fun e w' => ∃ v, e = .returned v ∧ w'.ownsRow w.heap.size 3 1 v (C7.nm wide L).length (cellsI (C7.nm wide L)) ∧ Below w.heap.size w w' := by
  obtain ⟨i0, hi, hz0, hz1, hz2⟩ := info_parts infoI64
  subst hn
  rcases hrow.2 with ⟨rfl, h0⟩ | ⟨g, cap, cur, rfl, _⟩
  · have HE : Hid (C7.nm wide L = []) := hide (C7.nm_end (by omega))
    have hw1' : ¬ (wide : Int) ≤ 0 := by omega
    clear hrow
    go_enter Tryz.func37, Tryz.ntmps37
    go_wp2
    go_loopw [5, 6] (fun v i wr => v = .slice none 0 0 ∧ i = .int .i64 0 ∧ wr = w) (fun _ _ _ => 0)
    case atStart => exact ⟨rfl, rfl, rfl⟩
    case round =>
      obtain ⟨rfl, rfl, rfl⟩ := hrel
      go_wp2
      go_ret
      refine ⟨_, rfl, ?_, Below.refl _ _⟩
      rw [unhide HE]; exact World.ownsRow_nil _ _ _ _
  · have hg := own_small hrow
    have HC := hide (fun j hj => nth_cell hrow j hj)
    have H2 := hide h2
    have HN0 : Hid (∀ i, i ≤ L.length → (C7.nm wide (L.drop i)).length ≤ L.length) := hide (fun i hi => by
      have := C7.nm_len_le wide (by omega) _ (L.drop i) (Nat.le_refl _)
      rw [List.length_drop] at this; omega)
    clear hrow h2
    go_enter Tryz.func37, Tryz.ntmps37
    go_wp2
    go_loopw [5, 6] (fun v i wr => ∃ (k : Nat) (out : List Nat), k ≤ L.length ∧ out.length ≤ k ∧ i = .int .i64 k ∧ C7.nm wide L = out ++ C7.nm wide (L.drop k) ∧ wr.ownsRow w.heap.size 3 1 v out.length (cellsI out) ∧ Below w.heap.size w wr) (fun _ i _ => L.length - (intOf i).toNat)
    case atStart => exact ⟨0, [], Nat.zero_le _, Nat.zero_le _, rfl, by simp, World.ownsRow_nil _ _ _ _, Below.refl _ _⟩
    case round =>
      obtain ⟨k, out, hk, hok, rfl, hu, hown, hbel⟩ := hrel
      have HB := hide hbel
      have OWN := hide hown
      have HU := hide hu
      have hB := hbel.size
      clear hbel hown hu
      by_cases hle : k + wide ≤ L.length
      · have HR : Hid (C7.nm wide L = (out ++ [C7.val ((L.drop k).take wide)]) ++ C7.nm wide (L.drop (k + wide))) := hide (by
          rw [unhide HU, C7.nm_step (l := L.drop k) (by omega) (by rw [List.length_drop]; omega), List.drop_drop]; simp)
        have HV : Hid (∀ j, j ≤ wide → C7.val ((L.drop k).take j) < 256) := hide (fun j hj => by
          have h1 := C7.val_lt j ((L.drop k).take j) (by rw [List.length_take, List.length_drop]; omega) (fun b hb => (unhide H2) b (List.mem_of_mem_drop (List.mem_of_mem_take hb)))
          have h2 : 2 ^ j ≤ 2 ^ 8 := Nat.pow_le_pow_right (by decide) (by omega)
          omega)
        have hle' : (k : Int) + (wide : Int) ≤ (L.length : Int) := by omega
        have hkb : (k : Int) + (wide : Int) ≤ 1099511627776 := by omega
        clear HU
        go_wp2_with fail
        go_loopw [7, 8] (fun v i wq => ∃ (j : Nat), j ≤ wide ∧ i = .int .i64 j ∧ v = .int .i64 ((C7.val ((L.drop k).take j) : Nat) : Int) ∧ wq = wr) (fun _ i _ => wide - (intOf i).toNat)
        case atStart => exact ⟨0, by omega, rfl, rfl, rfl⟩
        case round =>
          obtain ⟨j, hj, rfl, rfl, hww⟩ := hrel
          rw [hww]
          clear hww
          by_cases hjl : j < wide
          · have hcell := cell_below ((unhide HC) (k + j) (by omega)) hg (unhide HB)
            have hv := (unhide HV) j hj
            have hbit := (unhide H2) _ (List.getElem_mem (show k + j < L.length by omega))
            have HT := hide (drop_take_snoc L k j (by omega))
            obtain ⟨x, hx⟩ : ∃ x, L[k + j]'(by omega) = x := ⟨_, rfl⟩
            rw [hx] at hcell hbit HT
            clear hx
            have HS : Hid (C7.val ((L.drop k).take (j + 1)) = 2 * C7.val ((L.drop k).take j) + x) := hide (by rw [unhide HT, C7.val_snoc])
            generalize C7.val ((L.drop k).take j) = y at *
            have hkj : (k : Int) + (j : Int) < (L.length : Int) := by omega
            have hkj0 : 0 ≤ (k : Int) + (j : Int) := by omega
            have hkt : ((k : Int) + (j : Int)).toNat = k + j := by omega
            go_wp2_with fail
            refine ⟨⟨j + 1, by omega, by go_num, ?_, by first | trivial | rfl⟩, by simp [intOf]; omega⟩
            rw [unhide HS]; simp
          · obtain rfl : j = wide := by omega
            have hv := (unhide HV) j hj
            generalize C7.val ((L.drop k).take j) = y at *
            have b3 : out.length + 1 ≤ maxLen := by unfold maxLen; omega
            have b4 : (out.length + 1) * 8 ≤ 140737488355328 := by omega
            go_wp2_with (at_builtin; refine wpList_append_own _ rfl _ _ 22 rfl w.heap.size 3 i0 (.int .i64 0) 1 8 Tryz.underlying22 hi hz0 hz1 hz2 rfl (by decide) _ out.length (cellsI out) rfl ((unhide OWN).alloc _) _ 1 1 _ rfl rfl (cell_one_new _ _ _) (by simp [Value.oneCell']) b3 b4 (by simp; omega) ?_; intro v1 w1 own1 grow1 _)
            refine ⟨⟨k + j, out ++ [y], by omega, by simp; omega, by go_num, unhide HR, ?_, ((unhide HB).alloc hB _).grown grow1 (by simp; omega) (own_lt (unhide OWN))⟩, by simp [intOf]; omega⟩
            rw [List.length_append, cellsI_append]; exact own1
      · have HR : Hid (C7.nm wide L = out) := hide (by rw [unhide HU, C7.nm_end (l := L.drop k) (by rw [List.length_drop]; omega)]; simp)
        have hle' : ¬ (k : Int) + (wide : Int) ≤ (L.length : Int) := by omega
        have hkb : (k : Int) + (wide : Int) ≤ 1099511627785 := by omega
        go_wp2
        go_ret
        refine ⟨_, rfl, ?_, unhide HB⟩
        rw [unhide HR]; exact unhide OWN
end Go.Proofs.YtkhbfdokkmebhaaGreatDoor
