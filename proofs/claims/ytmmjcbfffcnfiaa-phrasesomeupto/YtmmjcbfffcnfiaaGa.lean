/- What the calls answer of a made tree. -/
import Derived.Test.YtmmjcbfffcnfiaaFz
import Derived.Test.YtmmjcbfffcnfiaaFf
namespace Go.Proofs.Ytmmjcbfffcnfiaa
open Go.RowKit Kb Ph
set_option linter.unusedVariables false
set_option maxRecDepth 20000

theorem made_ends {ws : List ByteArray} {T : List Nd} {X : List (List UInt8)} (hn : ws.length ≤ 30) : ∀ i, i < (made ws T X).length → (nd (made ws T X) i).ends.length ≤ 1048576 := by
  intro i hi
  rw [made_len] at hi
  rw [made_nd hi]
  have := En_len ws (xt X i)
  dsimp only; omega
theorem Wt.rdy {ws : List ByteArray} {T : List Nd} {at_ : List Nat} {X : List (List UInt8)} (h : Wt ws T at_ X) (hT : T.length ≤ 400) (hn : ws.length ≤ 30) {n : Nat} (hs : n ≤ 8192) : rdy (made ws T X) (ws.length : Int) n = 0 := by
  have := h.chk hT hn
  unfold Go.Proofs.Ytmmjcbfffcnfiaa.rdy
  rw [if_neg (by omega), this]
theorem stands_len (ws : List ByteArray) (s : List UInt8) (k : Nat) : (stands ws s k).length ≤ k * ws.length := by
  induction k with
  | zero => simp [stands]
  | succ k ih =>
    have := En_len ws (s.take (k + 1))
    rw [stands, List.length_append, List.length_map, Nat.succ_mul]; omega
theorem hits_made (w : World) (x : Value) (ws : List ByteArray) (T : List Nd) (at_ : List Nat) (X : List (List UInt8)) (hx : Tree w x (made ws T X)) (h : Wt ws T at_ X) (hT : T.length ≤ 400) (hn : ws.length ≤ 30) (s : ByteArray) (hs : s.size ≤ 8192) :
    Calls Try.prog 12 #[x, .int .i64 ws.length, .string s] w fun e w' => ∃ y, e = .returned (.tuple #[y, .int .i64 0]) ∧ Below w.heap.size w w' ∧
      w'.ownsRow w.heap.size 38 2 y (stands ws s.data.toList s.size).length (cellsH (stands ws s.data.toList s.size)) := by
  have hr := h.rdy hT hn hs
  refine (hits_t w x _ (ws.length : Int) s hx ⟨by omega, by omega⟩ (by omega) (made_ends hn)).mono ?_
  rintro e w' ⟨y, rfl, b, hy, _⟩
  have hy := hy hr
  rw [h.hits s.data.toList s.size (by simp)] at hy
  exact ⟨y, by rw [hr], b, hy⟩
theorem some_made (w : World) (x : Value) (ws : List ByteArray) (T : List Nd) (at_ : List Nat) (X : List (List UInt8)) (hx : Tree w x (made ws T X)) (h : Wt ws T at_ X) (hT : T.length ≤ 400) (hn : ws.length ≤ 30) (s : ByteArray) (hs : s.size ≤ 8192) :
    Calls Try.prog 13 #[x, .int .i64 ws.length, .string s] w fun e w' => e = .returned (.tuple #[.bool (decide (0 < (stands ws s.data.toList s.size).length)), .int .i64 0]) ∧ Below w.heap.size w w' := by
  have hr := h.rdy hT hn hs
  refine (some_t w x _ (ws.length : Int) s hx ⟨by omega, by omega⟩ (by omega)).mono ?_
  rintro e w' ⟨rfl, b⟩
  refine ⟨?_, b⟩
  rw [hr, ← h.hits s.data.toList s.size (by simp)]
  congr 3
  unfold smB
  rw [hr]
  cases Ph.hits (made ws T X) s.data.toList s.size <;> simp
theorem check_made (w : World) (x : Value) (ws : List ByteArray) (T : List Nd) (at_ : List Nat) (X : List (List UInt8)) (hx : Tree w x (made ws T X)) (h : Wt ws T at_ X) (hT : T.length ≤ 400) (hn : ws.length ≤ 30) :
    Calls Try.prog 14 #[x, .int .i64 ws.length] w fun e w' => e = .returned (.int .i64 0) ∧ Below w.heap.size w w' := by
  have := check_t w x _ (ws.length : Int) hx ⟨by omega, by omega⟩
  rwa [h.chk hT hn] at this
theorem tree_made (w : World) (v : Value) (ws : List ByteArray) (hv : Strs w v ws) (h0 : cw ws = 0) (hb : (begs ws).length ≤ 400) :
    Calls Try.prog 17 #[v] w fun e w' => ∃ x T at_ X, e = .returned x ∧ Wt ws T at_ X ∧ T.length ≤ 400 ∧ Below w.heap.size w w' ∧ Tree w' x (made ws T X) := by
  have HM := hide (make_any w v ws hv)
  obtain ⟨o, c, rfl, hc⟩ := hv.form
  clear hv
  go_enter Try.func17, Try.ntmps17
  go_wp2_with fail
  refine (unhide HM).mono ?_
  rintro e w1 ⟨b1, h1⟩
  rcases h1 with ⟨g, _⟩ | ⟨_, T, at_, X, lev, hgi, hwt, _, ⟨g, _⟩ | ⟨g, x, rfl, hx⟩⟩
  · exact absurd h0 g
  · exact absurd (Nat.le_trans hgi.begs hb) (by omega)
  · obtain ⟨ox, cx, rfl, _⟩ := hx.form
    have HX := hide hx
    clear hx
    go_wp2_with fail
    go_ret
    exact ⟨_, T, at_, X, rfl, hwt, g, b1, unhide HX⟩
theorem strs_two (w : World) (a b : ByteArray) : Strs (w.alloc (.cells #[.string a, .string b] 9)) (.slice (some ⟨w.heap.size, 0, none⟩) 2 2) [a, b] := by
  refine ⟨⟨_, 2, rfl, Nat.le_refl _⟩, by simp, .inr ⟨_, _, rfl⟩, fun _ => ⟨w.heap.size, 0, 2, rfl, by simp, ?_⟩⟩
  intro j z hj
  match j, hj with
  | 0, hj => cases hj; rw [World.cell?_alloc_new]; rfl
  | 1, hj => cases hj; rw [World.cell?_alloc_new]; rfl
theorem strs_one (w : World) (a : ByteArray) : Strs (w.alloc (.cells #[.string a] 9)) (.slice (some ⟨w.heap.size, 0, none⟩) 1 1) [a] := by
  refine ⟨⟨_, 1, rfl, Nat.le_refl _⟩, by simp, .inr ⟨_, _, rfl⟩, fun _ => ⟨w.heap.size, 0, 1, rfl, by simp, ?_⟩⟩
  intro j z hj
  match j, hj with
  | 0, hj => cases hj; rw [World.cell?_alloc_new]; rfl
end Go.Proofs.Ytmmjcbfffcnfiaa
