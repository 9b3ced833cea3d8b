/- Regular expressions as trees, and how they lie in memory; the document's comparing of two. -/
import Derived.Test.YtjecopdbcaojcaaFi
import Derived.Laws.StructEq
namespace Go.Proofs.Ytjecopdbcaojcaa
open Go.RowKit Kb
set_option linter.unusedVariables false
set_option maxRecDepth 20000

/-- a set of bytes: four words -/
structure Se where
  a : Int
  b : Int
  c : Int
  d : Int
deriving DecidableEq
inductive Rx where
  | mk (k : Int) (s : Se) (ks : List Rx)
namespace Rx
def k : Rx → Int | mk k _ _ => k
def s : Rx → Se | mk _ s _ => s
def ks : Rx → List Rx | mk _ _ ks => ks
theorem eta (r : Rx) : r = mk r.k r.s r.ks := by cases r; rfl
theorem ind {P : Rx → Prop} (h : ∀ k s ks, (∀ x ∈ ks, P x) → P (mk k s ks)) : ∀ r, P r
  | mk k s ks => h k s ks (fun x hx => ind h x)
decreasing_by
  have := List.sizeOf_lt_of_mem hx
  simp; omega
theorem ks_lt {l : List Rx} {i : Nat} (h : i < l.length) : SizeOf.sizeOf l[i].ks < SizeOf.sizeOf l := by
  have := List.sizeOf_lt_of_mem (List.getElem_mem h)
  have h2 : SizeOf.sizeOf l[i].ks < SizeOf.sizeOf l[i] := by
    rcases hl : l[i] with ⟨k, s, ks⟩
    simp [Rx.ks]; omega
  omega
end Rx
def Fit (r : Rx) : Prop := (-9223372036854775808 ≤ r.k ∧ r.k ≤ 9223372036854775807) ∧ (0 ≤ r.s.a ∧ r.s.a ≤ 18446744073709551615) ∧ (0 ≤ r.s.b ∧ r.s.b ≤ 18446744073709551615) ∧ (0 ≤ r.s.c ∧ r.s.c ≤ 18446744073709551615) ∧ (0 ≤ r.s.d ∧ r.s.d ≤ 18446744073709551615)
/-- a slice of expressions -/
def Kd (w : World) (l : List Rx) (v : Value) : Prop :=
  (∃ o c, v = .slice o l.length c ∧ l.length ≤ c) ∧ l.length ≤ 140737488355328 ∧
  (l ≠ [] → ∃ g off c, v = .slice (some ⟨g, off, none⟩) l.length c ∧ g < w.heap.size ∧ ∀ (i : Nat) (h : i < l.length), Fit l[i] ∧
    w.cell? ⟨g, off + i * 6, none⟩ = some (.int .i64 l[i].k) ∧ w.cell? ⟨g, off + i * 6 + 1, none⟩ = some (.int .u64 l[i].s.a) ∧ w.cell? ⟨g, off + i * 6 + 2, none⟩ = some (.int .u64 l[i].s.b) ∧
    w.cell? ⟨g, off + i * 6 + 3, none⟩ = some (.int .u64 l[i].s.c) ∧ w.cell? ⟨g, off + i * 6 + 4, none⟩ = some (.int .u64 l[i].s.d) ∧ ∃ e, w.cell? ⟨g, off + i * 6 + 5, none⟩ = some e ∧ Kd w l[i].ks e)
termination_by SizeOf.sizeOf l
decreasing_by exact Rx.ks_lt h
theorem Kd.form {w : World} {l : List Rx} {v : Value} (h : Kd w l v) : ∃ o c, v = .slice o l.length c ∧ l.length ≤ c := by rw [Kd] at h; exact h.1
theorem Kd.room {w : World} {l : List Rx} {v : Value} (h : Kd w l v) : l.length ≤ 140737488355328 := by rw [Kd] at h; exact h.2.1
theorem Kd.at_ {w : World} {l : List Rx} {v : Value} (h : Kd w l v) {i : Nat} {x : Rx} (hi : l[i]? = some x) : ∃ g off c e, v = .slice (some ⟨g, off, none⟩) l.length c ∧ g < w.heap.size ∧ Fit x ∧
    w.cell? ⟨g, off + i * 6, none⟩ = some (.int .i64 x.k) ∧ w.cell? ⟨g, off + i * 6 + 1, none⟩ = some (.int .u64 x.s.a) ∧ w.cell? ⟨g, off + i * 6 + 2, none⟩ = some (.int .u64 x.s.b) ∧
    w.cell? ⟨g, off + i * 6 + 3, none⟩ = some (.int .u64 x.s.c) ∧ w.cell? ⟨g, off + i * 6 + 4, none⟩ = some (.int .u64 x.s.d) ∧ w.cell? ⟨g, off + i * 6 + 5, none⟩ = some e ∧ Kd w x.ks e := by
  rw [Kd] at h
  obtain ⟨hil, hx⟩ := List.getElem?_eq_some_iff.1 hi
  obtain ⟨g, off, c, h1, h2, h3⟩ := h.2.2 (by intro e; rw [e] at hil; cases hil)
  obtain ⟨h4, k0, k1, k2, k3, k4, e, k5, h5⟩ := h3 i hil
  rw [hx] at h4 k0 k1 k2 k3 k4 h5
  exact ⟨g, off, c, e, h1, h2, h4, k0, k1, k2, k3, k4, k5, h5⟩
theorem Kd.nil (w : World) : Kd w [] (.slice none 0 0) := by
  rw [Kd]; exact ⟨⟨none, 0, rfl, Nat.le_refl _⟩, by show 0 ≤ _; omega, fun h => absurd rfl h⟩
theorem Kd.below {w w' : World} (b : Below w.heap.size w w') : ∀ (n : Nat) (l : List Rx) (v : Value), SizeOf.sizeOf l ≤ n → Kd w l v → Kd w' l v := by
  intro n
  induction n with
  | zero => intro l v hn h; cases l <;> simp at hn
  | succ n ih =>
    intro l v hn h
    rw [Kd] at h ⊢
    refine ⟨h.1, h.2.1, fun hne => ?_⟩
    obtain ⟨g, off, c, h1, h2, h3⟩ := h.2.2 hne
    refine ⟨g, off, c, h1, Nat.lt_of_lt_of_le h2 b.size, fun i hi => ?_⟩
    obtain ⟨h4, k0, k1, k2, k3, k4, e, k5, h5⟩ := h3 i hi
    have := Rx.ks_lt hi
    exact ⟨h4, cell_below k0 h2 b, cell_below k1 h2 b, cell_below k2 h2 b, cell_below k3 h2 b, cell_below k4 h2 b, e, cell_below k5 h2 b, ih _ _ (by omega) h5⟩
/-- an expression as a value -/
def rexV (r : Rx) (e : Value) : Value := .agg #[.int .i64 r.k, .int .u64 r.s.a, .int .u64 r.s.b, .int .u64 r.s.c, .int .u64 r.s.d, e]
structure RexV (w : World) (v : Value) (r : Rx) : Prop where
  val : ∃ e, v = rexV r e ∧ Kd w r.ks e
  fit : Fit r
theorem RexV.below {w w' : World} {v : Value} {r : Rx} (h : RexV w v r) (b : Below w.heap.size w w') : RexV w' v r := by
  obtain ⟨e, h1, h2⟩ := h.val
  exact ⟨⟨e, h1, Kd.below b _ _ _ (Nat.le_refl _) h2⟩, h.fit⟩
theorem eqSet (a b c d a' b' c' d' : Int) (w : World) : (Op.equalIn 10000 24 (.agg #[.int .u64 a, .int .u64 b, .int .u64 c, .int .u64 d]) (.agg #[.int .u64 a', .int .u64 b', .int .u64 c', .int .u64 d'])).run Try.prog w = .ok (decide ((⟨a, b, c, d⟩ : Se) = ⟨a', b', c', d'⟩)) w := by
  have he := Try.underlying22
  have hsz : ∀ w, (Go.sizeOf 22).run Try.prog w = .ok 1 w := fun w => by kernel_rfl
  have pe : ∀ x y : Int, (Op.equalIn (9998 + 1) 22 (.int .u64 x) (.int .u64 y)).run Try.prog w = .ok (x == y) w := fun x y => run_equalIn_int w 9998 _ .u64 .u64 x y he
  have hd : decide ((⟨a, b, c, d⟩ : Se) = ⟨a', b', c', d'⟩) = (a == a' && (b == b' && (c == c' && d == d'))) := by
    rw [Bool.eq_iff_iff]; simp
  rw [hd, show Op.equalIn 10000 = Op.equalIn (9998 + 2) from rfl, Op.equalIn]
  simp only [Sem.run_bind, run_underlying Try.underlying24, Result.andThen_ok, hsz, Std.Legacy.Range.forIn_eq_forIn_range', Std.Legacy.Range.size, Nat.sub_zero, Nat.add_sub_cancel, Nat.div_one, show List.range' 0 4 1 = [0, 1, 2, 3] from rfl, List.forIn_cons]
  cases h1 : (a == a') <;> cases h2 : (b == b') <;> cases h3 : (c == c') <;> cases h4 : (d == d') <;> simp [part, isAgg, run_underlying he, pe, h1, h2, h3, h4]
set_option maxHeartbeats 1000000 in
theorem sameRex_any (r : Rx) : ∀ (q : Rx) (v u : Value) (w : World), RexV w v r → RexV w u q →
    Calls Try.prog 7 #[v, u] w fun e w' => ∃ b : Bool, e = .returned (.bool b) ∧ (b = true ↔ r = q) ∧ Below w.heap.size w w' := by
  induction r using Rx.ind with
  | h k s ks ih =>
    intro q v u w h1 h2
    obtain ⟨e1, rfl, hk1⟩ := h1.val
    obtain ⟨e2, rfl, hk2⟩ := h2.val
    obtain ⟨o1, c1, rfl, _⟩ := hk1.form
    obtain ⟨o2, c2, rfl, _⟩ := hk2.form
    obtain ⟨qk, qs, qks⟩ := q
    obtain ⟨s1, s2, s3, s4⟩ := s
    obtain ⟨t1, t2, t3, t4⟩ := qs
    have IH := hide ih
    have K1 := hide hk1
    have K2 := hide hk2
    have hf1 := h1.fit
    have hf2 := h2.fit
    have heq := eqSet s1 s2 s3 s4 t1 t2 t3 t4
    unfold Fit at hf1 hf2
    clear ih hk1 hk2 h1 h2
    unfold rexV
    simp only [Rx.k, Rx.s, Rx.ks] at *
    have bb : Below w.heap.size w ((w.alloc (.cells #[.int .i64 k, .int .u64 s1, .int .u64 s2, .int .u64 s3, .int .u64 s4, .slice o1 ks.length c1] 27)).alloc (.cells #[.int .i64 qk, .int .u64 t1, .int .u64 t2, .int .u64 t3, .int .u64 t4, .slice o2 qks.length c2] 27)) := ((Below.refl _ _).alloc (Nat.le_refl _) _).alloc (by simp) _
    have BB := hide bb
    clear bb
    by_cases hk : k = qk
    · subst hk
      by_cases hs : (⟨s1, s2, s3, s4⟩ : Se) = ⟨t1, t2, t3, t4⟩
      · rw [decide_eq_true hs] at heq
        by_cases hl : ks.length = qks.length
        · have hlI : ((ks.length : Int) != (qks.length : Int)) = false := by simp; omega
          have HSE := hide hs
          have HL := hide hl
          clear hs
          obtain ⟨n, hn⟩ : ∃ n, qks.length = n := ⟨_, rfl⟩
          rw [hl, hn] at hlI ⊢
          rw [hl, hn] at BB K1
          rw [hn] at K2
          have HN := hide hn
          clear hl hn
          go_enter Try.func7, Try.ntmps7
          go_wp2_with fail
          obtain ⟨W0, hW0⟩ : ∃ W0, ((w.alloc (.cells #[.int .i64 k, .int .u64 s1, .int .u64 s2, .int .u64 s3, .int .u64 s4, .slice o1 n c1] 27)).alloc (.cells #[.int .i64 k, .int .u64 t1, .int .u64 t2, .int .u64 t3, .int .u64 t4, .slice o2 n c2] 27)) = W0 := ⟨_, rfl⟩
          have hcA : W0.cell? ⟨w.heap.size, 5, none⟩ = some (.slice o1 n c1) := by
            rw [← hW0, World.cell?_alloc_old _ _ _ (by simp), World.cell?_alloc_new]; rfl
          have hcB : W0.cell? ⟨w.heap.size + 1, 5, none⟩ = some (.slice o2 n c2) := by
            rw [← hW0, show w.heap.size + 1 = (w.alloc (.cells #[.int .i64 k, .int .u64 s1, .int .u64 s2, .int .u64 s3, .int .u64 s4, .slice o1 n c1] 27)).heap.size by simp, World.cell?_alloc_new]; rfl
          have hWs : W0.heap.size = w.heap.size + 1 + 1 := by rw [← hW0]; simp
          rw [hW0] at BB ⊢
          have HCA := hide hcA
          have HCB := hide hcB
          have HWS := hide hWs
          clear hW0 hcA hcB hWs heq
          go_loopw [5] (fun x wr => ∃ i : Nat, x = .int .i64 i ∧ i ≤ n ∧ Below W0.heap.size W0 wr ∧ ∀ j, j < i → ks[j]? = qks[j]?) (fun x _ => n - (intOf x).toNat)
          case atStart => exact ⟨0, rfl, Nat.zero_le _, Below.refl _ _, fun j hj => by omega⟩
          case round =>
            obtain ⟨i, rfl, hi, hbel, hall⟩ := hrel
            have B := hide hbel
            have HALL := hide hall
            clear hbel hall
            have ca := cell_below (unhide HCA) (by rw [unhide HWS]; omega) (unhide B)
            have cb := cell_below (unhide HCB) (by rw [unhide HWS]; omega) (unhide B)
            have hroom := (unhide K2).room
            rw [unhide HN] at hroom
            by_cases hlt : i < n
            · have BW := hide (bel_trans (unhide BB) (unhide B))
              obtain ⟨x, hx⟩ : ∃ x, ks[i]? = some x := ⟨ks[i]'(by rw [unhide HL, unhide HN]; exact hlt), List.getElem?_eq_getElem _⟩
              obtain ⟨y, hy⟩ : ∃ y, qks[i]? = some y := ⟨qks[i]'(by rw [unhide HN]; exact hlt), List.getElem?_eq_getElem _⟩
              have hkx := Kd.below (unhide BW) _ _ _ (Nat.le_refl _) (unhide K1)
              have hky := Kd.below (unhide BW) _ _ _ (Nat.le_refl _) (unhide K2)
              obtain ⟨g1, f1, d1, e1, he1, hg1, fx, a0, a1, a2, a3, a4, a5, kx⟩ := hkx.at_ hx
              obtain ⟨g2, f2, d2, e2, he2, hg2, fy, b0, b1, b2, b3, b4, b5, ky⟩ := hky.at_ hy
              have HR := hide (fun W (b : Below wr.heap.size wr W) => (unhide IH) x (List.mem_of_getElem? hx) y (rexV x e1) (rexV y e2) W (RexV.below ⟨⟨e1, rfl, kx⟩, fx⟩ b) (RexV.below ⟨⟨e2, rfl, ky⟩, fy⟩ b))
              unfold rexV at HR
              have HXY := hide (And.intro hx hy)
              obtain ⟨oe1, ce1, hfe1, _⟩ := kx.form
              obtain ⟨oe2, ce2, hfe2, _⟩ := ky.form
              subst hfe1 hfe2
              clear hkx hky kx ky fx fy hx hy
              rw [unhide HL, unhide HN] at he1
              rw [unhide HN] at he2
              cases he1
              cases he2
              have hiI : (i : Int) < n := by omega
              obtain ⟨l1, hl1⟩ : ∃ l1, x.ks.length = l1 := ⟨_, rfl⟩
              obtain ⟨l2, hl2⟩ : ∃ l2, y.ks.length = l2 := ⟨_, rfl⟩
              obtain ⟨x0, hx0⟩ : ∃ z, x.k = z := ⟨_, rfl⟩
              obtain ⟨y0, hy0⟩ : ∃ z, y.k = z := ⟨_, rfl⟩
              obtain ⟨⟨x1, x2, x3, x4⟩, hx1⟩ : ∃ z, x.s = z := ⟨_, rfl⟩
              obtain ⟨⟨y1, y2, y3, y4⟩, hy1⟩ : ∃ z, y.s = z := ⟨_, rfl⟩
              rw [hl1] at a5
              rw [hl2] at b5
              rw [hx0] at a0
              rw [hy0] at b0
              rw [hx1] at a1 a2 a3 a4
              rw [hy1] at b1 b2 b3 b4
              rw [hl1, hl2, hx0, hy0, hx1, hy1] at HR
              dsimp only at a1 a2 a3 a4 b1 b2 b3 b4 HR
              clear hl1 hl2 hx0 hy0 hx1 hy1
              have hib : 0 ≤ (i : Int) ∧ (i : Int) < n := by omega
              go_wp2_with fail
              go_region_with (go_at_call 7; refine ((unhide HR) _ ((Below.refl _ _).drew)).mono ?_; rintro e w3 ⟨b, rfl, hb, b3⟩)
              all_goals (
                have B3 := hide (bel_trans (unhide B) (bel_trans ((Below.refl _ _).drew) b3))
                have HBB := hide hb
                clear hb b3
                cases b
                · have HNE : Hid (¬ (Rx.mk k ⟨s1, s2, s3, s4⟩ ks = Rx.mk k ⟨t1, t2, t3, t4⟩ qks)) := hide (fun h => by
                    injection h with _ _ h3
                    have h4 := (unhide HXY).1
                    rw [h3, (unhide HXY).2] at h4
                    have := (unhide HBB).2 (by cases h4; rfl)
                    cases this)
                  go_wp2_with fail
                  go_ret
                  exact ⟨false, rfl, ⟨fun h => (by cases h), fun h => absurd h (unhide HNE)⟩, bel_trans (unhide BB) (unhide B3)⟩
                · have hxy := (unhide HBB).1 rfl
                  have HXE := hide hxy
                  clear hxy
                  go_wp2_with fail
                  refine ⟨⟨i + 1, by go_num, by omega, unhide B3, ?_⟩, by simp [intOf]; omega⟩
                  intro j hj
                  by_cases hji : j = i
                  · subst hji; rw [(unhide HXY).1, (unhide HXY).2, unhide HXE]
                  · exact (unhide HALL) j (by omega))
            · obtain rfl : i = n := by omega
              have HQ : Hid (Rx.mk k ⟨s1, s2, s3, s4⟩ ks = Rx.mk k ⟨t1, t2, t3, t4⟩ qks) := hide (by
                rw [unhide HSE]
                congr 1
                refine List.ext_getElem? fun j => ?_
                by_cases hj : j < i
                · exact (unhide HALL) j hj
                · rw [List.getElem?_eq_none (by rw [unhide HL, unhide HN]; omega), List.getElem?_eq_none (by rw [unhide HN]; omega)])
              go_wp2_with fail
              go_ret
              exact ⟨true, rfl, ⟨fun _ => unhide HQ, fun _ => rfl⟩, bel_trans (unhide BB) (unhide B)⟩
        · have hlI : ((ks.length : Int) != (qks.length : Int)) = true := by simp; omega
          have HN : Hid (¬ (Rx.mk k ⟨s1, s2, s3, s4⟩ ks = Rx.mk k ⟨t1, t2, t3, t4⟩ qks)) := hide (fun h => by injection h with _ _ h3; exact hl (by rw [h3]))
          clear hl hs
          go_enter Try.func7, Try.ntmps7
          go_wp2_with fail
          go_ret
          exact ⟨false, rfl, ⟨fun h => (by cases h), fun h => absurd h (unhide HN)⟩, unhide BB⟩
      · rw [decide_eq_false hs] at heq
        have HN : Hid (¬ (Rx.mk k ⟨s1, s2, s3, s4⟩ ks = Rx.mk k ⟨t1, t2, t3, t4⟩ qks)) := hide (fun h => by injection h with _ h2 _; exact hs h2)
        clear hs
        go_enter Try.func7, Try.ntmps7
        go_wp2_with fail
        go_ret
        exact ⟨false, rfl, ⟨fun h => (by cases h), fun h => absurd h (unhide HN)⟩, unhide BB⟩
    · have hbk : (k != qk) = true := by simp; exact hk
      have HN : Hid (¬ (Rx.mk k ⟨s1, s2, s3, s4⟩ ks = Rx.mk qk ⟨t1, t2, t3, t4⟩ qks)) := hide (fun h => by injection h with h1 _ _; exact hk h1)
      clear heq hk
      go_enter Try.func7, Try.ntmps7
      go_wp2_with fail
      go_ret
      exact ⟨false, rfl, ⟨fun h => (by cases h), fun h => absurd h (unhide HN)⟩, unhide BB⟩
end Go.Proofs.Ytjecopdbcaojcaa
