/- Has an expression a Kind? What is found. -/
import Derived.Test.YtjecopdbcaojcaaDoorZn
import Derived.Test.YtjecopdbcaojcaaDoorZm
namespace Go.Proofs.YtjecopdbcaojcaaDoor
open Go.RowKit Kb Pop
set_option linter.unusedVariables false
set_option maxRecDepth 20000
open Sp

inductive HasK (kind : Int) : Rx → Prop
  | here {s : Se} {ks : List Rx} : HasK kind (.mk kind s ks)
  | kid {k : Int} {s : Se} {ks : List Rx} {x : Rx} : x ∈ ks → HasK kind x → HasK kind (.mk k s ks)
theorem hasK_iff {kind k : Int} {s : Se} {ks : List Rx} : HasK kind (.mk k s ks) ↔ k = kind ∨ ∃ x ∈ ks, HasK kind x := by
  constructor
  · intro h
    cases h with
    | here => exact .inl rfl
    | kid hx h => exact .inr ⟨_, hx, h⟩
  · rintro (rfl | ⟨x, hx, h⟩)
    · exact .here
    · exact .kid hx h
theorem hasK_ex (x : Ex) : (¬ HasK 7 x.rx → NoBeg x) ∧ (¬ HasK 8 x.rx → NoEn x) := by
  induction x with
  | none => exact ⟨fun _ => trivial, fun _ => trivial⟩
  | emp => exact ⟨fun _ => trivial, fun _ => trivial⟩
  | byte t => exact ⟨fun _ => trivial, fun _ => trivial⟩
  | cat a b ha hb => exact ⟨fun h => ⟨ha.1 fun g => h (hasK_iff.2 (.inr ⟨_, by simp, g⟩)), hb.1 fun g => h (hasK_iff.2 (.inr ⟨_, by simp, g⟩))⟩, fun h => ⟨ha.2 fun g => h (hasK_iff.2 (.inr ⟨_, by simp, g⟩)), hb.2 fun g => h (hasK_iff.2 (.inr ⟨_, by simp, g⟩))⟩⟩
  | alt a b ha hb => exact ⟨fun h => ⟨ha.1 fun g => h (hasK_iff.2 (.inr ⟨_, by simp, g⟩)), hb.1 fun g => h (hasK_iff.2 (.inr ⟨_, by simp, g⟩))⟩, fun h => ⟨ha.2 fun g => h (hasK_iff.2 (.inr ⟨_, by simp, g⟩)), hb.2 fun g => h (hasK_iff.2 (.inr ⟨_, by simp, g⟩))⟩⟩
  | star a ha => exact ⟨fun h => ha.1 fun g => h (hasK_iff.2 (.inr ⟨_, by simp, g⟩)), fun h => ha.2 fun g => h (hasK_iff.2 (.inr ⟨_, by simp, g⟩))⟩
  | beg => exact ⟨fun h => absurd .here h, fun _ => trivial⟩
  | en => exact ⟨fun _ => trivial, fun h => absurd .here h⟩
theorem indexK_any (kind : Int) (bx : Nat) (ks : List Rx) (w : World) (v : Value) (hv : Kd w ks v) (hbx : w.cell? ⟨bx, 0, none⟩ = some (.int .i64 kind))
    (ih : ∀ x ∈ ks, ∀ (u : Value) (W : World), RexV W u x → W.cell? ⟨bx, 0, none⟩ = some (.int .i64 kind) → Calls Tryd.prog 28 #[u, .pointer (some ⟨bx, 0, none⟩)] W fun e W' => ∃ t : Bool, e = .returned (.bool t) ∧ (t = true ↔ HasK kind x) ∧ Below W.heap.size W W') :
    Calls Tryd.prog 44 #[v, .func (.func 28) #[] #[.pointer (some ⟨bx, 0, none⟩)]] w fun e w' => ∃ z : Int, e = .returned (.int .i64 z) ∧ (0 ≤ z ↔ ∃ x ∈ ks, HasK kind x) ∧ Below w.heap.size w w' := by
  obtain ⟨o, c, rfl, hc⟩ := hv.form
  have hroom := hv.room
  have HV := hide hv
  have IH := hide ih
  have HBX : Hid (∀ W, Below w.heap.size w W → W.cell? ⟨bx, 0, none⟩ = some (.int .i64 kind)) := hide (fun W b => (b.cell (p := ⟨bx, 0, none⟩) (World.block_lt_of_cell? _ _ hbx)).trans hbx)
  clear hv ih hbx
  go_enter Tryd.func44, Tryd.ntmps44
  go_wp2_with fail
  go_loopw [8] (fun x wr => ∃ k : Nat, x = .int .i64 k ∧ k ≤ ks.length ∧ (∀ i x, i < k → ks[i]? = some x → ¬ HasK kind x) ∧ Below w.heap.size w wr) (fun x _ => ks.length - (intOf x).toNat)
  case atStart => exact ⟨0, rfl, Nat.zero_le _, (fun i x hi => by omega), Below.refl _ _⟩
  case round =>
    obtain ⟨k, rfl, hk, hall, hB⟩ := hrel
    have HALL := hide hall
    have B := hide hB
    clear hall hB
    by_cases hlt : k < ks.length
    · obtain ⟨x, hx⟩ : ∃ x, ks[k]? = some x := ⟨ks[k], List.getElem?_eq_getElem hlt⟩
      have HX := hide hx
      have hkd := Kd.below (unhide B) _ ks _ (Nat.le_refl _) (unhide HV)
      obtain ⟨g, off, c', e, he, hg, hfit, c0, c1, c2, c3, c4, c5, hkid⟩ := hkd.at_ hx
      have HR := hide ((unhide IH) x (List.mem_of_getElem? hx) (rexV x e) wr ⟨⟨e, rfl, hkid⟩, hfit⟩ ((unhide HBX) wr (unhide B)))
      have hkI : (k : Int) < ks.length := by omega
      obtain ⟨o2, c2', rfl, _⟩ := hkid.form
      cases he
      unfold rexV at HR
      obtain ⟨xk, hxk⟩ : ∃ z, x.k = z := ⟨_, rfl⟩
      obtain ⟨⟨t1, t2, t3, t4⟩, hxs⟩ : ∃ z, x.s = z := ⟨_, rfl⟩
      obtain ⟨n2, hn2⟩ : ∃ z, x.ks.length = z := ⟨_, rfl⟩
      rw [hxk, hxs, hn2] at HR
      rw [hxk] at c0
      rw [hxs] at c1 c2 c3 c4
      rw [hn2] at c5
      dsimp only at HR c1 c2 c3 c4
      clear hx hkd hkid hfit hxk hxs hn2
      go_wp2_with fail
      refine (unhide HR).mono ?_
      rintro e w1 ⟨t, rfl, ht, b1⟩
      have B1 := hide (bel_trans (unhide B) b1)
      have HT := hide ht
      clear b1 ht HR c0 c1 c2 c3 c4 c5 B
      cases t with
      | true =>
        have HA : Hid (∃ x ∈ ks, HasK kind x) := hide ⟨x, List.mem_of_getElem? (unhide HX), (unhide HT).1 rfl⟩
        go_wp2_with fail
        go_ret
        exact ⟨k, rfl, ⟨fun _ => unhide HA, fun _ => by omega⟩, unhide B1⟩
      | false =>
        have HN : Hid (¬ HasK kind x) := hide (fun h => by have := (unhide HT).2 h; cases this)
        go_wp2_with fail
        refine ⟨⟨k + 1, by go_num, by omega, ?_, unhide B1⟩, by simp [intOf]; omega⟩
        intro i y hi hy
        by_cases hik : i = k
        · subst hik; rw [unhide HX] at hy; cases hy; exact unhide HN
        · exact (unhide HALL) i y (by omega) hy
    · obtain rfl : k = ks.length := by omega
      have HA : Hid (¬ ∃ x ∈ ks, HasK kind x) := hide (by
        rintro ⟨x, hx, hd⟩
        obtain ⟨i, hi⟩ := List.mem_iff_getElem?.1 hx
        exact (unhide HALL) i x (List.getElem?_eq_some_iff.1 hi).1 hi hd)
      go_wp2_with fail
      go_ret
      exact ⟨-1, rfl, ⟨fun h => by omega, fun h => absurd h (unhide HA)⟩, unhide B⟩
theorem containsK_any (kind : Int) (bx : Nat) (ks : List Rx) (w : World) (v : Value) (hv : Kd w ks v) (hbx : w.cell? ⟨bx, 0, none⟩ = some (.int .i64 kind))
    (ih : ∀ x ∈ ks, ∀ (u : Value) (W : World), RexV W u x → W.cell? ⟨bx, 0, none⟩ = some (.int .i64 kind) → Calls Tryd.prog 28 #[u, .pointer (some ⟨bx, 0, none⟩)] W fun e W' => ∃ t : Bool, e = .returned (.bool t) ∧ (t = true ↔ HasK kind x) ∧ Below W.heap.size W W') :
    Calls Tryd.prog 27 #[v, .func (.func 28) #[] #[.pointer (some ⟨bx, 0, none⟩)]] w fun e w' => ∃ t : Bool, e = .returned (.bool t) ∧ (t = true ↔ ∃ x ∈ ks, HasK kind x) ∧ Below w.heap.size w w' := by
  have HI := hide (indexK_any kind bx ks w v hv hbx ih)
  obtain ⟨o, c, rfl, hc⟩ := hv.form
  clear hv ih hbx
  go_enter Tryd.func27, Tryd.ntmps27
  go_wp2_with fail
  refine (unhide HI).mono ?_
  rintro e w1 ⟨z, rfl, hz, b1⟩
  have B1 := hide b1
  have HZ := hide hz
  clear b1 hz HI
  go_wp2_with fail
  go_ret
  exact ⟨_, rfl, by rw [← unhide HZ]; simp, unhide B1⟩
set_option maxHeartbeats 2000000 in
theorem asks1_any (kind : Int) (bx : Nat) (x : Rx) (ih : ∀ (v : Value) (w : World), RexV w v x → Calls Tryd.prog 15 #[v, .int .i64 kind] w fun e w' => ∃ t : Bool, e = .returned (.bool t) ∧ (t = true ↔ HasK kind x) ∧ Below w.heap.size w w')
    (u : Value) (W : World) (hV : RexV W u x) (hbx : W.cell? ⟨bx, 0, none⟩ = some (.int .i64 kind)) :
    Calls Tryd.prog 28 #[u, .pointer (some ⟨bx, 0, none⟩)] W fun e W' => ∃ t : Bool, e = .returned (.bool t) ∧ (t = true ↔ HasK kind x) ∧ Below W.heap.size W W' := by
  have HV := hide hV
  obtain ⟨e, rfl, hk⟩ := hV.val
  obtain ⟨o, c, rfl, _⟩ := hk.form
  obtain ⟨xk, hxk⟩ : ∃ z, x.k = z := ⟨_, rfl⟩
  obtain ⟨⟨t1, t2, t3, t4⟩, hxs⟩ : ∃ z, x.s = z := ⟨_, rfl⟩
  obtain ⟨n2, hn2⟩ : ∃ z, x.ks.length = z := ⟨_, rfl⟩
  unfold rexV at *
  rw [hxk, hxs, hn2] at HV ⊢
  dsimp only at HV ⊢
  have X0 := hide (RX.new (base := W.heap.size) W (Nat.le_refl _) xk ⟨t1, t2, t3, t4⟩ (.slice o n2 c))
  have b0 := (Below.refl W.heap.size W).alloc (Nat.le_refl _) (.cells #[.int .i64 xk, .int .u64 t1, .int .u64 t2, .int .u64 t3, .int .u64 t4, .slice o n2 c] 27)
  dsimp only at X0
  have hc0 := (b0.cell (p := ⟨bx, 0, none⟩) (World.block_lt_of_cell? _ _ hbx)).trans hbx
  obtain ⟨W0, hW0⟩ : ∃ W0, W.alloc (.cells #[.int .i64 xk, .int .u64 t1, .int .u64 t2, .int .u64 t3, .int .u64 t4, .slice o n2 c] 27) = W0 := ⟨_, rfl⟩
  rw [hW0] at X0 b0 hc0
  have HC := hide (ih _ W0 ((unhide HV).below b0))
  have B0 := hide b0
  obtain ⟨y0, y1, y2, y3, y4, y5⟩ := (unhide X0).cells
  dsimp only at y1 y2 y3 y4
  have hl0 := (unhide X0).lt
  clear hV hk b0 ih hbx hxk hxs hn2
  go_enter Tryd.func28, Tryd.ntmps28
  go_wp2_with fail
  refine (unhide HC).mono ?_
  rintro e w1 ⟨t, rfl, ht, b1⟩
  have B1 := hide (bel_trans (unhide B0) b1)
  have HT := hide ht
  clear b1 ht HC
  go_wp2_with fail
  go_ret
  exact ⟨t, rfl, unhide HT, unhide B1⟩
set_option maxHeartbeats 2000000 in
theorem asks_any (kind : Int) (r : Rx) : ∀ (v : Value) (w : World), RexV w v r → Calls Tryd.prog 15 #[v, .int .i64 kind] w fun e w' => ∃ t : Bool, e = .returned (.bool t) ∧ (t = true ↔ HasK kind r) ∧ Below w.heap.size w w' := by
  induction r using Rx.ind with
  | h k s ks ih =>
    intro v w hV
    obtain ⟨e, rfl, hk⟩ := hV.val
    obtain ⟨o, c, rfl, _⟩ := hk.form
    obtain ⟨s1, s2, s3, s4⟩ := s
    unfold rexV
    simp only [Rx.k, Rx.s, Rx.ks] at *
    have HI : Hid (HasK kind (.mk k ⟨s1, s2, s3, s4⟩ ks) ↔ k = kind ∨ ∃ x ∈ ks, HasK kind x) := hide hasK_iff
    have X0 := RX.new (base := w.heap.size) w (Nat.le_refl _) k ⟨s1, s2, s3, s4⟩ (.slice o ks.length c)
    dsimp only at X0
    have b0 := ((Below.refl w.heap.size w).alloc (Nat.le_refl _) (.cells #[.int .i64 k, .int .u64 s1, .int .u64 s2, .int .u64 s3, .int .u64 s4, .slice o ks.length c] 27)).alloc (by simp) (.cells #[.int .i64 kind] 3)
    have X1 := hide (X0.below ((Below.refl _ _).alloc (Nat.le_refl _) (.cells #[.int .i64 kind] 3)))
    have KD := hide (Kd.below b0 _ ks _ (Nat.le_refl _) hk)
    have B0 := hide b0
    have hcb := World.cell?_alloc_new (w.alloc (.cells #[.int .i64 k, .int .u64 s1, .int .u64 s2, .int .u64 s3, .int .u64 s4, .slice o ks.length c] 27)) #[.int .i64 kind] 3 0
    rw [World.size_alloc] at hcb
    have hcb2 : ((w.alloc (.cells #[.int .i64 k, .int .u64 s1, .int .u64 s2, .int .u64 s3, .int .u64 s4, .slice o ks.length c] 27)).alloc (.cells #[.int .i64 kind] 3)).cell? ⟨w.heap.size + 1, 0, none⟩ = some (.int .i64 kind) := hcb
    obtain ⟨W0, hW0⟩ : ∃ W0, (w.alloc (.cells #[.int .i64 k, .int .u64 s1, .int .u64 s2, .int .u64 s3, .int .u64 s4, .slice o ks.length c] 27)).alloc (.cells #[.int .i64 kind] 3) = W0 := ⟨_, rfl⟩
    rw [hW0] at X1 KD B0 hcb2
    have HC := hide (containsK_any kind (w.heap.size + 1) ks W0 _ (unhide KD) hcb2 (fun x hx u W hu hb => asks1_any kind (w.heap.size + 1) x (ih x hx) u W hu hb))
    obtain ⟨y0, y1, y2, y3, y4, y5⟩ := (unhide X1).cells
    have hl0 := (unhide X1).lt
    clear hk b0 ih hV X0 hcb
    by_cases h1 : k = kind
    · subst h1
      clear HC
      go_enter Tryd.func15, Tryd.ntmps15
      go_wp2_with fail
      go_ret
      first
      | exact .inr ⟨rfl, .here, unhide B0⟩
      | exact ⟨true, rfl, ⟨fun _ => .here, fun _ => rfl⟩, unhide B0⟩
    · have hkb : ((k : Int) == kind) = false := beq_eq_false_iff_ne.2 h1
      go_enter Tryd.func15, Tryd.ntmps15
      go_wp2_with fail
      refine (unhide HC).mono ?_
      rintro e w1 ⟨t, rfl, ht, b1⟩
      have B1 := hide (bel_trans (unhide B0) b1)
      have HT := hide ht
      clear b1 ht HC KD
      cases t with
      | true =>
        go_wp2_with fail
        go_ret
        exact ⟨true, rfl, ⟨fun _ => (unhide HI).2 (.inr ((unhide HT).1 (by first | rfl | trivial))), fun _ => rfl⟩, unhide B1⟩
      | false =>
        go_wp2_with fail
        go_ret
        refine ⟨false, rfl, ⟨(fun h => by cases h), fun h => ?_⟩, unhide B1⟩
        rcases (unhide HI).1 h with h | h
        · exact absurd h h1
        · have := (unhide HT).2 h; cases this
/-- what found answers -/
def Fo (r : Rx) (s : ByteArray) (a b : Int) (is ok : Bool) : Prop :=
  (ok = false ∧ is = false ∧ a = 0 ∧ b = 0 ∧ (chkR r ≠ 0 ∨ 300 < s.size)) ∨
  (ok = true ∧ chkR r = 0 ∧ s.size ≤ 300 ∧ ∃ (x : Ex) (o : Option (Nat × Nat)), r = x.rx ∧ x.Full ∧ First (M s.data.toList x) o ∧ is = o.isSome ∧ (match o with | none => a = 0 ∧ b = 0 | some (i, j) => a = i ∧ b = j))
theorem FindP.fo {r : Rx} {s : ByteArray} {v : Value} (h : FindP r s v) : ∃ (a b : Int) (is : Bool) (z : Int), v = .tuple #[spanV a b, .bool is, .int .i64 z] ∧ Fo r s a b is (z == 0) := by
  rcases h with ⟨h1, rfl⟩ | ⟨h1, h2, rfl⟩ | ⟨h1, h2, x, o, hx, hf, ho, rfl⟩
  · exact ⟨0, 0, false, _, rfl, .inl ⟨beq_eq_false_iff_ne.2 h1, rfl, rfl, rfl, .inl h1⟩⟩
  · exact ⟨0, 0, false, _, rfl, .inl ⟨by decide, rfl, rfl, rfl, .inr h2⟩⟩
  · cases o with
    | none => exact ⟨0, 0, false, 0, rfl, .inr ⟨rfl, h1, h2, x, none, hx, hf, ho, rfl, rfl, rfl⟩⟩
    | some p => exact ⟨p.1, p.2, true, 0, rfl, .inr ⟨rfl, h1, h2, x, some p, hx, hf, ho, rfl, rfl, rfl⟩⟩
set_option maxHeartbeats 2000000 in
theorem found_any (r : Rx) (v : Value) (s : ByteArray) (w : World) (hV : RexV w v r) (hT : TZ w) :
    Calls Tryd.prog 11 #[v, .string s] w fun e w' => ∃ a b is ok, e = .returned (.tuple #[spanV a b, .bool is, .bool ok]) ∧ Fo r s a b is ok ∧ Below w.heap.size w w' := by
  have HF := hide (fun (W : World) (k : Below w.heap.size w W) => Find_any r v s W (hV.below k) (hT.below hT.lt k))
  obtain ⟨t, ht, hk⟩ := hV.val
  obtain ⟨o, c, rfl, _⟩ := hk.form
  obtain ⟨FP, hFP⟩ : ∃ FP : Int → Int → Bool → Bool → Prop, Fo r s = FP := ⟨_, rfl⟩
  have HFP : Hid (∀ u, FindP r s u → ∃ (a b : Int) (is : Bool) (z : Int), u = .tuple #[spanV a b, .bool is, .int .i64 z] ∧ FP a b is (z == 0)) := hide (fun u hu => by rw [← hFP]; exact hu.fo)
  rw [hFP]
  clear hFP
  obtain ⟨k, ⟨s1, s2, s3, s4⟩, ks⟩ := r
  subst ht
  unfold rexV at *
  simp only [Rx.k, Rx.s, Rx.ks] at *
  obtain ⟨W1, hW1⟩ : ∃ W1, (w.alloc (.cells #[.int .i64 k, .int .u64 s1, .int .u64 s2, .int .u64 s3, .int .u64 s4, .slice o ks.length c] 27)).alloc (.cells #[.int .i64 0, .int .i64 0] 29) = W1 := ⟨_, rfl⟩
  have hsz : W1.heap.size = w.heap.size + 1 + 1 := by rw [← hW1]; simp
  have hb1 : Below w.heap.size w W1 := by rw [← hW1]; exact ((Below.refl _ w).alloc (Nat.le_refl _) _).alloc (by simp) _
  have hbx : ∀ j x, (#[.int .i64 k, .int .u64 s1, .int .u64 s2, .int .u64 s3, .int .u64 s4, .slice o ks.length c] : Array Value)[j]? = some x → W1.cell? ⟨w.heap.size, j, none⟩ = some x := fun j x h => by
    rw [← hW1, World.cell?_alloc_lt _ _ _ (by simp), World.cell?_alloc_new]; exact h
  have hsp : ∀ j x, (#[.int .i64 0, .int .i64 0] : Array Value)[j]? = some x → W1.cell? ⟨w.heap.size + 1, j, none⟩ = some x := fun j x h => by
    rw [← hW1]
    have h2 := World.cell?_alloc_new (w.alloc (.cells #[.int .i64 k, .int .u64 s1, .int .u64 s2, .int .u64 s3, .int .u64 s4, .slice o ks.length c] 27)) #[.int .i64 0, .int .i64 0] 29 j
    rw [World.size_alloc] at h2
    exact h2.trans h
  have hfr : ∀ j, W1.frozen? ⟨w.heap.size + 1, j, none⟩ = false := fun j => by
    rw [← hW1]
    have h2 := World.frozen?_alloc_new (w.alloc (.cells #[.int .i64 k, .int .u64 s1, .int .u64 s2, .int .u64 s3, .int .u64 s4, .slice o ks.length c] 27)) #[.int .i64 0, .int .i64 0] 29 j
    rwa [World.size_alloc] at h2
  have z0 := hbx 0 _ rfl
  have z1 := hbx 1 _ rfl
  have z2 := hbx 2 _ rfl
  have z3 := hbx 3 _ rfl
  have z4 := hbx 4 _ rfl
  have z5 := hbx 5 _ rfl
  have HM : Hid (∀ W, Below W1.heap.size W1 W → W.cell? ⟨w.heap.size + 1, 0, none⟩ = some (.int .i64 0) ∧ W.cell? ⟨w.heap.size + 1, 1, none⟩ = some (.int .i64 0) ∧ W.frozen? ⟨w.heap.size + 1, 0, none⟩ = false ∧ W.frozen? ⟨w.heap.size + 1, 1, none⟩ = false ∧ w.heap.size + 1 < W.heap.size ∧ Below w.heap.size w W) := hide (fun W b => by
    have e1 : w.heap.size + 1 < W1.heap.size := by omega
    exact ⟨(b.cell (p := ⟨w.heap.size + 1, 0, none⟩) e1).trans (hsp 0 _ rfl), (b.cell (p := ⟨w.heap.size + 1, 1, none⟩) e1).trans (hsp 1 _ rfl), (b.frozen (p := ⟨w.heap.size + 1, 0, none⟩) e1).trans (hfr 0), (b.frozen (p := ⟨w.heap.size + 1, 1, none⟩) e1).trans (hfr 1), Nat.lt_of_lt_of_le e1 b.size, bel_trans hb1 b⟩)
  have HPUT : Hid (∀ (W : World) (a b : Int), Below W1.heap.size W1 W → (loadVar 29 ⟨w.heap.size + 1, 0, none⟩).run Tryd.prog ((W.setCell ⟨w.heap.size + 1, 0, none⟩ (.int .i64 a)).setCell ⟨w.heap.size + 1, 1, none⟩ (.int .i64 b)) = .ok (spanV a b) ((W.setCell ⟨w.heap.size + 1, 0, none⟩ (.int .i64 a)).setCell ⟨w.heap.size + 1, 1, none⟩ (.int .i64 b)) ∧ Below w.heap.size w ((W.setCell ⟨w.heap.size + 1, 0, none⟩ (.int .i64 a)).setCell ⟨w.heap.size + 1, 1, none⟩ (.int .i64 b))) := hide (fun W a b hb => by
    obtain ⟨c0, c1, _, _, _, hbw⟩ := (unhide HM) W hb
    refine ⟨load_span ?_ ?_, (hbw.setCell (p := ⟨w.heap.size + 1, 0, none⟩) (by simp) _).setCell (p := ⟨w.heap.size + 1, 1, none⟩) (by simp) _⟩
    · rw [World.cell?_setCell_other _ _ _ _ (by simp)]
      exact World.cell?_setCell_same' _ _ _ (by rw [c0]; rfl)
    · refine World.cell?_setCell_same' _ _ _ ?_
      rw [World.cell?_setCell_other _ _ _ _ (by simp), c1]; rfl)
  have HB1 := hide hb1
  have HC := hide ((unhide HF) W1 hb1)
  clear hbx hsp hfr hb1 hsz hV hk hT HF
  go_enter Tryd.func11, Tryd.ntmps11
  go_wp2_with fail
  clear hW1 z0 z1 z2 z3 z4 z5
  refine (unhide HC).mono ?_
  rintro e w2 ⟨u, rfl, hu, b2⟩
  obtain ⟨a, b, is, z, rfl, hfo⟩ := (unhide HFP) u hu
  have HFO := hide hfo
  have B2 := hide (bel_trans (Below.refl _ _) b2)
  obtain ⟨zz, hzz⟩ : ∃ zz, (z == 0) = zz := ⟨_, rfl⟩
  rw [hzz] at HFO
  unfold spanV
  obtain ⟨e0, e1, e2, e3, e4, _⟩ := (unhide HM) _ (b2.alloc b2.size (.cells #[.int .i64 a, .int .i64 b] 29))
  have B3 := hide (b2.alloc b2.size (.cells #[.int .i64 a, .int .i64 b] 29))
  clear hu hfo b2 HC HFP
  go_wp2_with fail
  obtain ⟨hl, hbw⟩ := (unhide HPUT) _ a b (unhide B3)
  refine bodyPost_ret (results_ctt' (p := 4) (u := 5) (u' := 6) (ty := 29) rfl _ _ (w.heap.size + 1) _ rfl hl _ rfl _ rfl) rfl ?_
  exact ⟨a, b, is, zz, rfl, unhide HFO, hbw⟩
end Go.Proofs.YtjecopdbcaojcaaDoor
