/- How the program writes bytes: isSign, plain, appendChar, appendItem. -/
import Derived.Test.YtmhjfiaohbioeaaShelf
import Derived.Test.YtmhjfiaohbioeaaHg
import Derived.Test.YtmhjfiaohbioeaaJa
import Derived.Lib.AppendStr
import Derived.Deep.RegionLaw
import Derived.Maps.AppendAt
import Derived.Lib.Builder
namespace Go.Proofs.Ytmhjfiaohbioeaa
open Go.RowKit Kb Pop
set_option linter.unusedVariables false
set_option maxRecDepth 20000

theorem sign_idx (c : UInt8) : decide (0 ≤ Lib.indexByte specs c) = has specs c := by
  have := u8_all (p := fun c => decide (0 ≤ Lib.indexByte specs c) == has specs c) (by decide +kernel) c
  simpa using this
set_option maxHeartbeats 400000 in
theorem sign_any (c : UInt8) (w : World) :
    Calls Try.prog 79 #[.int .u8 c.toNat] w fun e w' => e = .returned (.bool (has specs c)) ∧ w' = w := by
  have HI := hide (Try.strings_IndexByte ⟨#[40, 41, 91, 93, 124, 42, 43, 63, 46, 94, 36, 45, 92]⟩ c.toNat w)
  have HS : Hid (has specs c = decide (0 ≤ Lib.indexByte [40, 41, 91, 93, 124, 42, 43, 63, 46, 94, 36, 45, 92] c)) := hide (sign_idx c).symm
  rw [show ((c.toNat : Int).toNat.toUInt8) = c by simp] at HI
  obtain ⟨k, hk⟩ : ∃ k, Lib.indexByte [40, 41, 91, 93, 124, 42, 43, 63, 46, 94, 36, 45, 92] c = k := ⟨_, rfl⟩
  replace HI : Hid (Calls Try.prog 82 #[.string ⟨#[40, 41, 91, 93, 124, 42, 43, 63, 46, 94, 36, 45, 92]⟩, .int .u8 c.toNat] w fun e w' => e = .returned (.int .i64 (Lib.indexByte [40, 41, 91, 93, 124, 42, 43, 63, 46, 94, 36, 45, 92] c)) ∧ w' = w) := HI
  rw [hk] at HI HS
  clear hk
  obtain ⟨b, hb⟩ : ∃ b, has specs c = b := ⟨_, rfl⟩
  rw [hb] at HS ⊢
  clear hb
  go_enter Try.func79, Try.ntmps79
  go_wp2_with fail
  refine (unhide HI).mono ?_
  rintro e wx ⟨rfl, hwx⟩; rw [hwx]; clear hwx wx
  go_wp2_with fail
  go_ret
  exact ⟨ret_bool (by rw [unhide HS]), rfl⟩
/-- does a byte stand for itself? -/
def plR (c : UInt8) : Bool := decide (33 ≤ c.toNat) && decide (c.toNat ≤ 126) && !has specs c
set_option maxHeartbeats 400000 in
theorem plainR_any (c : UInt8) (w : World) :
    Calls Try.prog 71 #[.int .u8 c.toNat] w fun e w' => e = .returned (.bool (plR c)) ∧ w' = w := by
  have hc := c.toNat_lt
  have HS := hide (sign_any c w)
  obtain ⟨b, hb⟩ : ∃ b, has specs c = b := ⟨_, rfl⟩
  have HP : Hid (plR c = (decide (33 ≤ c.toNat) && decide (c.toNat ≤ 126) && !b)) := hide (by unfold plR; rw [hb])
  rw [hb] at HS
  clear hb
  by_cases h1 : 33 ≤ c.toNat
  · have i1 : (33 : Int) ≤ c.toNat := by omega
    by_cases h2 : c.toNat ≤ 126
    · have i2 : (c.toNat : Int) ≤ 126 := by omega
      go_enter Try.func71, Try.ntmps71
      go_wp2_with fail
      refine (unhide HS).mono ?_
      rintro e wx ⟨rfl, hwx⟩; rw [hwx]; clear hwx wx
      go_wp2_with fail
      go_ret
      exact ⟨ret_bool (by rw [unhide HP, decide_eq_true h1, decide_eq_true h2]; cases b <;> rfl), rfl⟩
    · have i2 : ¬ ((c.toNat : Int) ≤ 126) := by omega
      go_enter Try.func71, Try.ntmps71
      go_wp2_with fail
      go_ret
      exact ⟨ret_bool (by rw [unhide HP, decide_eq_true h1, decide_eq_false h2]; rfl), rfl⟩
  · have i1 : ¬ ((33 : Int) ≤ c.toNat) := by omega
    go_enter Try.func71, Try.ntmps71
    go_wp2_with fail
    go_ret
    exact ⟨ret_bool (by rw [unhide HP, decide_eq_false h1]; rfl), rfl⟩
theorem char_sign {c : UInt8} (h : has specs c = true) : charT c = [92, c] ∧ ¬ c.toNat = 10 ∧ ¬ c.toNat = 9 ∧ ¬ c.toNat = 13 := by
  have := u8_all (p := fun c => !has specs c || decide (charT c = [92, c] ∧ ¬ c.toNat = 10 ∧ ¬ c.toNat = 9 ∧ ¬ c.toNat = 13)) (by decide +kernel) c
  rw [h] at this
  simpa using this
theorem char_plain {c : UInt8} (h : plR c = true) : charT c = [c] := by
  have := u8_all (p := fun c => !plR c || decide (charT c = [c])) (by decide +kernel) c
  rw [h] at this
  simpa using this
theorem char_hex {c : UInt8} (h10 : ¬ c.toNat = 10) (h9 : ¬ c.toNat = 9) (h13 : ¬ c.toNat = 13) (hs : has specs c = false) (hp : plR c = false) : charT c = [92, 120] ++ twoH hexs c := by
  have := u8_all (p := fun c => decide (c.toNat = 10) || decide (c.toNat = 9) || decide (c.toNat = 13) || has specs c || plR c || decide (charT c = [92, 120] ++ twoH hexs c)) (by decide +kernel) c
  rw [hs, hp, decide_eq_false h10, decide_eq_false h9, decide_eq_false h13] at this
  simpa using this
theorem cell_four_new' (w : World) (a b c d : Value) (t : TypeId) : ∀ j u, [a, b, c, d][j]? = some u → (w.alloc (.cells #[a, b, c, d] t)).cell? ((⟨w.heap.size, 0, none⟩ : Addr).add j) = some u := by
  intro j u h
  rw [Addr.add_lit, Nat.zero_add, World.cell?_alloc_new]
  simpa using h
theorem hex_cells (c : UInt8) (p1 : ((c.toNat : Int) / 16).toNat < 16) (p2 : ((c.toNat : Int) % 16).toNat < 16) :
    [Value.int .u8 92, Value.int .u8 120, Value.int .u8 ((({ data := #[48, 49, 50, 51, 52, 53, 54, 55, 56, 57, 97, 98, 99, 100, 101, 102] } : ByteArray)[((c.toNat : Int) / 16).toNat]'p1).toNat : Int),
      Value.int .u8 ((({ data := #[48, 49, 50, 51, 52, 53, 54, 55, 56, 57, 97, 98, 99, 100, 101, 102] } : ByteArray)[((c.toNat : Int) % 16).toNat]'p2).toNat : Int)] = cells ([92, 120] ++ twoH hexs c) := by
  have t : ∀ k : Fin 16, (({ data := #[48, 49, 50, 51, 52, 53, 54, 55, 56, 57, 97, 98, 99, 100, 101, 102] } : ByteArray)[k.1]'(k.2)) = hexs.data.toList.getD k.1 0 := by decide
  have t1 := t ⟨((c.toNat : Int) / 16).toNat, p1⟩
  have t2 := t ⟨((c.toNat : Int) % 16).toNat, p2⟩
  dsimp only at t1 t2
  rw [t1, t2]
  have e1 : ((c.toNat : Int) / 16).toNat = c.toNat / 16 := by omega
  have e2 : ((c.toNat : Int) % 16).toNat = c.toNat % 16 := by omega
  rw [e1, e2]
  rfl
/-- what lies below B stays, and all that is not the row v: the row has become v' -/
def Gw (B : Nat) (w w' : World) (v v' : Value) : Prop := Below B w w' ∧ ∀ k, k < w.heap.size → v.ownBlock ≠ some k → (w'.heap[k]? = w.heap[k]? ∧ v'.ownBlock ≠ some k)
theorem Gw.refl (B : Nat) (w : World) (v : Value) : Gw B w w v v := ⟨Below.refl B w, fun _ _ h => ⟨rfl, h⟩⟩
theorem Gw.trans {B : Nat} {a b c : World} {v v1 v2 : Value} (h : Gw B a b v v1) (g : Gw B b c v1 v2) : Gw B a c v v2 := ⟨h.1.trans g.1, fun k hk hne => by
  have h1 := h.2 k hk hne
  have h2 := g.2 k (Nat.lt_of_lt_of_le hk h.1.size) h1.2
  exact ⟨h2.1.trans h1.1, h2.2⟩⟩
theorem lt_of_some {w : World} {k : Nat} {o : Obj} (h : w.heap[k]? = some o) : k < w.heap.size := (Array.getElem?_eq_some_iff.1 h).1
theorem Gw.of_below {B : Nat} {a b : World} (hB : B ≤ a.heap.size) (v : Value) (g : Below a.heap.size a b) : Gw B a b v v := ⟨g.mono hB, fun k hk hne => ⟨g.block k hk, hne⟩⟩
theorem Gw.grown {B n : Nat} {w w' : World} {v v' : Value} {xs : List Value} (h : w.ownsRow B 5 1 v n xs) (g : w.grownBy w' v.ownBlock) (hB : B ≤ w.heap.size) (hat : v'.ownBlock = v.ownBlock ∨ v'.ownBlock = some w.heap.size ∨ v'.ownBlock = none) : Gw B w w' v v' :=
  ⟨(Below.refl B _).grown g hB (own_lt h), fun k hk hne => ⟨g.block k hk (fun e => hne e.symm), by
    rcases hat with e | e | e <;> rw [e]
    · exact hne
    · intro e; cases e; omega
    · intro e; cases e⟩⟩
theorem Gw.size {B : Nat} {a b : World} {v v' : Value} (h : Gw B a b v v') (hB : B ≤ a.heap.size) : B ≤ b.heap.size := Nat.le_trans hB h.1.size
/-- a row of bytes of one's own, and blocks that stay beside it -/
structure RowS (B : Nat) (w0 : World) (v0 : Value) (L : List (Nat × Obj)) (n : Nat) (xs : List UInt8) (w : World) (v : Value) : Prop where
  own : w.ownsRow B 5 1 v n (cells xs)
  gw : Gw B w0 w v0 v
  box : ∀ p ∈ L, w.heap[p.1]? = some p.2 ∧ v.ownBlock ≠ some p.1
  hB : B ≤ w.heap.size
theorem RowS.start {B : Nat} {n : Nat} {xs : List UInt8} {w : World} {v : Value} (h : w.ownsRow B 5 1 v n (cells xs)) (hB : B ≤ w.heap.size) : RowS B w v [] n xs w v := ⟨h, Gw.refl B w v, fun p hp => by simp at hp, hB⟩
theorem RowS.call {B : Nat} {w0 : World} {v0 : Value} {L : List (Nat × Obj)} {n m : Nat} {xs ys : List UInt8} {w w' : World} {v v' : Value} (h : RowS B w0 v0 L n xs w v) (o : w'.ownsRow B 5 1 v' m (cells ys)) (k : Gw B w w' v v') : RowS B w0 v0 L m ys w' v' :=
  ⟨o, h.gw.trans k, fun p hp => by
    have h1 := h.box p hp
    have h2 := k.2 p.1 (lt_of_some h1.1) h1.2
    exact ⟨h2.1.trans h1.1, h2.2⟩, k.size h.hB⟩
theorem RowS.below {B : Nat} {w0 : World} {v0 : Value} {L : List (Nat × Obj)} {n : Nat} {xs : List UInt8} {w w' : World} {v : Value} (h : RowS B w0 v0 L n xs w v) (b : Below w.heap.size w w') : RowS B w0 v0 L n xs w' v := h.call (own_below h.own b) (Gw.of_below h.hB v b)
theorem RowS.alloc {B : Nat} {w0 : World} {v0 : Value} {L : List (Nat × Obj)} {n : Nat} {xs : List UInt8} {w : World} {v : Value} (h : RowS B w0 v0 L n xs w v) (o : Obj) : RowS B w0 v0 L n xs (w.alloc o) v := h.below ((Below.refl _ _).alloc (Nat.le_refl _) o)
theorem RowS.drew {B : Nat} {w0 : World} {v0 : Value} {L : List (Nat × Obj)} {n : Nat} {xs : List UInt8} {w : World} {v : Value} (h : RowS B w0 v0 L n xs w v) : RowS B w0 v0 L n xs w.drew v := h.below ((Below.refl _ _).drew)
/-- a new block is kept in mind -/
theorem RowS.lay {B : Nat} {w0 : World} {v0 : Value} {L : List (Nat × Obj)} {n : Nat} {xs : List UInt8} {w : World} {v : Value} (h : RowS B w0 v0 L n xs w v) (o : Obj) : RowS B w0 v0 ((w.heap.size, o) :: L) n xs (w.alloc o) v :=
  ⟨(h.alloc o).own, (h.alloc o).gw, fun p hp => by
    rcases List.mem_cons.1 hp with rfl | hp
    · exact ⟨heap_alloc_new w o, fun e => by have := (h.own.lt _ e).2; simp at this⟩
    · exact (h.alloc o).box p hp, (h.alloc o).hB⟩
theorem RowS.lay2 {B : Nat} {w0 : World} {v0 : Value} {L : List (Nat × Obj)} {n : Nat} {xs : List UInt8} {w : World} {v : Value} (h : RowS B w0 v0 L n xs w v) (o o' : Obj) : RowS B w0 v0 ((w.heap.size + 1, o') :: (w.heap.size, o) :: L) n xs ((w.alloc o).alloc o') v := by
  have := (h.lay o).lay o'
  rwa [show (w.alloc o).heap.size = w.heap.size + 1 by simp] at this
theorem RowS.cell {B : Nat} {w0 : World} {v0 : Value} {L : List (Nat × Obj)} {n : Nat} {xs : List UInt8} {w : World} {v : Value} (h : RowS B w0 v0 L n xs w v) {g : Nat} {cur : Array Value} {t : TypeId} {fr : Nat × Nat} (hm : (g, Obj.cells cur t fr) ∈ L) (j : Nat) : w.cell? ⟨g, j, none⟩ = cur[j]? := Go.Lib.cell_of_heap (h.box _ hm).1 j
theorem RowS.news {B : Nat} {w0 : World} {v0 : Value} {L : List (Nat × Obj)} {n : Nat} {xs : List UInt8} {w : World} {v : Value} (h : RowS B w0 v0 L n xs w v) {g : Nat} {cur : Array Value} {t : TypeId} {fr : Nat × Nat} (hm : (g, Obj.cells cur t fr) ∈ L) : ∀ (j : Nat) (u : Value), cur.toList[j]? = some u → w.cell? ((⟨g, 0, none⟩ : Addr).add j) = some u := by
  intro j u hu
  rw [Addr.add_lit, Nat.zero_add, h.cell hm]
  simpa using hu
theorem RowS.newsB {B : Nat} {w0 : World} {v0 : Value} {L : List (Nat × Obj)} {n : Nat} {xs : List UInt8} {w : World} {v : Value} (h : RowS B w0 v0 L n xs w v) (ys : List UInt8) {g : Nat} {t : TypeId} {fr : Nat × Nat} (hm : (g, Obj.cells (cells ys).toArray t fr) ∈ L) : ∀ (j : Nat) (u : Value), (cells ys)[j]? = some u → w.cell? ((⟨g, 0, none⟩ : Addr).add j) = some u := by
  intro j u hu
  exact h.news hm j u (by simpa using hu)
theorem str_at {w : World} {B n : Nat} {v v' : Value} {w' : World} {xs : List Value} (ty : TypeId) (hown : w.ownsRow B 5 1 v n xs) (s : ByteArray) (h1 : n + s.size ≤ 140737488355328) (hr : (Builtin.append_ #[50, 9] ty #[v, .string s]).run Try.prog w = .ok v' w') (hs : 0 < s.size) : v'.ownBlock = v.ownBlock ∨ v'.ownBlock = some w.heap.size ∨ v'.ownBlock = none := by
  obtain ⟨i0, hi, hz0, hz1, hz2⟩ := info_parts infoU8
  have hxl : xs.length = n := by simpa using hown.1
  rcases hown.2 with ⟨rfl, rfl⟩ | ⟨g, cap, cur, rfl, hbg, hg, hnc, hcm, hcs, htake⟩
  · have h := run_append_nil_string (P := Try.prog) w 50 9 ty 5 i0 (.int .u8 0) Try.underlying50 Try.underlying9 hi hz0 s hs (by omega) (by rw [hz2]; omega)
    rw [hr] at h
    injection h with h _
    rw [h]
    exact .inr (.inl rfl)
  · by_cases hroom : n + s.size ≤ cap
    · have hcs' : cur.size = cap := by simpa using hcs
      have h := Lib.run_append_room_string (P := Try.prog) w 50 9 ty 5 i0 Try.underlying50 Try.underlying9 hi hz1 g n cap cur hg s hroom (by rw [hcs']; exact hroom)
      rw [hr] at h
      injection h with h _
      rw [h]
      exact .inl rfl
    · have holds : ∀ j u, xs[j]? = some u → w.cell? ((⟨g, 0, none⟩ : Addr).add j) = some u := hown.cells (g := g) rfl
      have h := Lib.run_append_grow_string (P := Try.prog) w 50 9 ty 5 i0 (.int .u8 0) Try.underlying50 Try.underlying9 hi hz0 ⟨g, 0, none⟩ n cap xs (by rw [hz1]; simpa using hxl) holds s (by omega) (by omega) (by rw [hz2]; exact growslice_fits (by omega) (by omega))
      rw [hr] at h
      injection h with h _
      rw [h]
      exact .inr (.inl rfl)
/-- append of a text's bytes -/
theorem app_str {ops : Array Oper} {rest : List Oper} {o : Oper} {a : Act} {w : World} {Q : Exit → Act → World → Prop} (hgd : o.guard = none) (sl x : Operand)
    (ho : o.op = .call { callee := .builtin .append, args := #[sl, x], argTypes := #[50, 9] }) {B : Nat} {w0 : World} {v0 : Value} {L : List (Nat × Obj)} {n : Nat} {xs : List UInt8} {v : Value} (hs : a.eval sl = v) (R : RowS B w0 v0 L n xs w v)
    (ys : List UInt8) (hx : a.eval x = .string ⟨ys.toArray⟩) (hy : 0 < ys.length) (hn : n + ys.length ≤ 10000000000000)
    (h : ∀ v' w', RowS B w0 v0 L (n + ys.length) (xs ++ ys) w' v' → wpList Try.prog ops Q rest (a.put o.dst v') w') : wpList Try.prog ops Q (o :: rest) a w := by
  refine wpList_plain hgd fun K hK => ?_
  obtain ⟨i0, hi, hz0, hz1, hz2⟩ := info_parts infoU8
  have hsz : (⟨ys.toArray⟩ : ByteArray).size = ys.length := Kb.mk_sz ys
  obtain ⟨v', w', hr, h2, h3, _⟩ := Lib.run_append_own_string (P := Try.prog) w B 50 9 o.type 5 i0 Try.underlying50 Try.underlying9 hi hz0 hz1 hz2 v n (cells xs) R.own ⟨ys.toArray⟩ (by rw [hsz]; unfold maxLen; omega) (by rw [hsz]; omega) R.hB
  have hat := str_at o.type R.own ⟨ys.toArray⟩ (by rw [hsz]; omega) hr (by rw [hsz]; exact hy)
  rw [hsz, show cells xs ++ Lib.strCells ⟨ys.toArray⟩ = cells (xs ++ ys) by rw [cells_append]; rfl] at h2
  unfold Oper.wp
  simp [execOp, ho, resolve, invoke, builtin, hs, hx, hr, Result.andThen]
  exact hK _ _ (h v' w' (R.call h2 (Gw.grown R.own h3 R.hB hat)))
/-- append of a slice's bytes -/
theorem app_sl {ops : Array Oper} {rest : List Oper} {o : Oper} {a : Act} {w : World} {Q : Exit → Act → World → Prop} (hgd : o.guard = none) (sl x : Operand)
    (ho : o.op = .call { callee := .builtin .append, args := #[sl, x], argTypes := #[50, 50] }) {B : Nat} {w0 : World} {v0 : Value} {L : List (Nat × Obj)} {n : Nat} {xs : List UInt8} {v : Value} (hs : a.eval sl = v) (R : RowS B w0 v0 L n xs w v)
    (ys : List UInt8) (ad : Addr) (c : Nat) (hx : a.eval x = .slice (some ad) ys.length c) (hy : ∀ j u, (cells ys)[j]? = some u → w.cell? (ad.add j) = some u) (hn : n + ys.length ≤ 10000000000000)
    (h : ∀ v' w', RowS B w0 v0 L (n + ys.length) (xs ++ ys) w' v' → wpList Try.prog ops Q rest (a.put o.dst v') w') : wpList Try.prog ops Q (o :: rest) a w := by
  obtain ⟨i0, hi, hz0, hz1, hz2⟩ := info_parts infoU8
  refine wpList_append_own_at w hgd sl x 50 ho B 5 i0 (.int .u8 0) 1 1 Try.underlying50 hi hz0 hz1 hz2 rfl (by decide) v n (cells xs) hs R.own ad ys.length c (cells ys) hx (by rw [cells_length]; simp) hy (cells_one ys) (by unfold maxLen; omega) (by omega) R.hB ?_
  intro v' w' h2 h3 _ hat
  exact h v' w' (R.call (by rw [cells_append]; exact h2) (Gw.grown R.own h3 R.hB (hat.imp id .inl)))
/-- the same, as a step of a region that draws its order -/
theorem step_sl {ops : Array Oper} {o : Oper} {a : Act} {w : World} {K : Act → World → Prop} {Q : Exit → Act → World → Prop} {E : Prop} (hgd : o.guard = none) (sl x : Operand)
    (ho : o.op = .call { callee := .builtin .append, args := #[sl, x], argTypes := #[50, 50] }) {B : Nat} {w0 : World} {v0 : Value} {L : List (Nat × Obj)} {n : Nat} {xs : List UInt8} {v : Value} (hs : a.eval sl = v) (R : RowS B w0 v0 L n xs w v)
    (ys : List UInt8) (ad : Addr) (c : Nat) (hx : a.eval x = .slice (some ad) ys.length c) (hy : ∀ j u, (cells ys)[j]? = some u → w.cell? (ad.add j) = some u) (hn : n + ys.length ≤ 10000000000000)
    (h : ∀ v' w', RowS B w0 v0 L (n + ys.length) (xs ++ ys) w' v' → K (a.put o.dst v') w') : if Region.wanted o (yielded ops a.tmps) = true then Oper.wp Try.prog o a w K Q else E := by
  have hw : Region.wanted o (yielded ops a.tmps) = true := by simp [Region.wanted, hgd]
  rw [if_pos hw]
  obtain ⟨i0, hi, hz0, hz1, hz2⟩ := info_parts infoU8
  obtain ⟨v', w', hr, h2, h3, _, hat⟩ := run_append_own_at (P := Try.prog) w B 50 o.type 5 i0 (.int .u8 0) 1 1 Try.underlying50 hi hz0 hz1 hz2 rfl (by decide) v n (cells xs) R.own ad ys.length c (cells ys) (by rw [cells_length]; simp) hy (cells_one ys) (by unfold maxLen; omega) (by omega) R.hB
  unfold Oper.wp
  simp [execOp, ho, resolve, invoke, builtin, hs, hx, hr, Result.andThen]
  exact h v' w' (R.call (by rw [cells_append]; exact h2) (Gw.grown R.own h3 R.hB (hat.imp id .inl)))
set_option maxHeartbeats 2000000 in
theorem ac_any (v : Value) (n B : Nat) (xs : List UInt8) (c : UInt8) (w : World) (hB : B ≤ w.heap.size) (hn : n ≤ 1099511627776) (hown : w.ownsRow B 5 1 v n (cells xs)) :
    Calls Try.prog 62 #[v, .int .u8 c.toNat] w fun e w' => ∃ v', e = .returned v' ∧ w'.ownsRow B 5 1 v' (n + (charT c).length) (cells (xs ++ charT c)) ∧ Gw B w w' v v' := by
  obtain ⟨i0, hi, hz0, hz1, hz2⟩ := info_parts infoU8
  have hc := c.toNat_lt
  have R := hide (RowS.start hown hB)
  clear hown
  by_cases h10 : c.toNat = 10
  · have hc' : (c.toNat : Int) = 10 := by omega
    have Q := hide (show charT c = [92, 110] by rw [eq_of_nat h10]; rfl)
    rw [hc']
    clear hc'
    go_enter Try.func62, Try.ntmps62
    go_wp2_with (at_builtin; go_must (refine app_str rfl _ _ rfl rfl (unhide R) [92, 110] rfl (by decide) (by simp; omega) ?_); intro v1 w1 R1)
    go_ret
    rw [unhide Q]
    exact ⟨v1, rfl, R1.own, R1.gw⟩
  by_cases h9 : c.toNat = 9
  · have hc' : (c.toNat : Int) = 9 := by omega
    have Q := hide (show charT c = [92, 116] by rw [eq_of_nat h9]; rfl)
    rw [hc']
    clear hc'
    go_enter Try.func62, Try.ntmps62
    go_wp2_with (at_builtin; go_must (refine app_str rfl _ _ rfl rfl (unhide R) [92, 116] rfl (by decide) (by simp; omega) ?_); intro v1 w1 R1)
    go_ret
    rw [unhide Q]
    exact ⟨v1, rfl, R1.own, R1.gw⟩
  by_cases h13 : c.toNat = 13
  · have hc' : (c.toNat : Int) = 13 := by omega
    have Q := hide (show charT c = [92, 114] by rw [eq_of_nat h13]; rfl)
    rw [hc']
    clear hc'
    go_enter Try.func62, Try.ntmps62
    go_wp2_with (at_builtin; go_must (refine app_str rfl _ _ rfl rfl (unhide R) [92, 114] rfl (by decide) (by simp; omega) ?_); intro v1 w1 R1)
    go_ret
    rw [unhide Q]
    exact ⟨v1, rfl, R1.own, R1.gw⟩
  have HS := hide (sign_any c w)
  have HP := hide (plainR_any c w)
  cases hs : has specs c
  · rw [hs] at HS
    cases hp : plR c
    · rw [hp] at HP
      have Q := hide (char_hex h10 h9 h13 hs hp)
      have HX := hide (hex_cells c)
      clear hs hp
      have hq : 0 ≤ (c.toNat : Int) / 16 ∧ (c.toNat : Int) / 16 < 16 := by omega
      have hr : 0 ≤ (c.toNat : Int) % 16 ∧ (c.toNat : Int) % 16 < 16 := by omega
      have hand := and15 c
      go_enter Try.func62, Try.ntmps62
      go_wp2_with (first | (go_at_call 71; refine (unhide HP).mono ?_; rintro e wx ⟨rfl, rfl⟩) | (go_at_call 79; refine (unhide HS).mono ?_; rintro e wx ⟨rfl, rfl⟩))
      go_region_law (refine step_sl rfl (.tmp 31) (.tmp 38) rfl rfl ((unhide R).drew.alloc _) ([92, 120] ++ twoH hexs c) _ _ rfl (by rw [← (unhide HX) (by omega) (by omega)]; exact cell_four_new' _ _ _ _ _ _) (by simp [twoH]; omega) ?_; intro v1 w1 R1)
      all_goals
        go_wp2
        go_ret
        rw [unhide Q]
        exact ⟨v1, rfl, R1.own, R1.gw⟩
    · rw [hp] at HP
      have Q := hide (char_plain hp)
      clear hs hp
      go_enter Try.func62, Try.ntmps62
      go_wp2_with (first | (go_at_call 71; refine (unhide HP).mono ?_; rintro e wx ⟨rfl, rfl⟩) | (go_at_call 79; refine (unhide HS).mono ?_; rintro e wx ⟨rfl, rfl⟩) | (at_builtin; refine app_sl rfl _ _ rfl rfl ((unhide R).alloc _) [c] _ _ rfl (cell_one_new _ _ _) (by simp; omega) ?_; intro v1 w1 R1))
      go_ret
      rw [unhide Q]
      exact ⟨v1, rfl, R1.own, R1.gw⟩
  · rw [hs] at HS
    have Q := hide (char_sign hs).1
    clear hs
    go_enter Try.func62, Try.ntmps62
    go_wp2_with (first | (go_at_call 79; refine (unhide HS).mono ?_; rintro e wx ⟨rfl, rfl⟩) | (at_builtin; refine app_sl rfl _ _ rfl rfl ((unhide R).alloc _) [92, c] _ _ rfl (cell_two_new _ _ _ _) (by simp; omega) ?_; intro v1 w1 R1))
    go_ret
    rw [unhide Q]
    exact ⟨v1, rfl, R1.own, R1.gw⟩
/-- an item: the bytes from a to z -/
def item2 (a z : Nat) : List UInt8 := charT (UInt8.ofNat a) ++ ((if a + 1 < z then [45] else []) ++ (if a < z then charT (UInt8.ofNat z) else []))
theorem ac_at (v : Value) (n B : Nat) (xs : List UInt8) (c : Nat) (w : World) (hc : c < 256) (hB : B ≤ w.heap.size) (hn : n ≤ 1099511627776) (hown : w.ownsRow B 5 1 v n (cells xs)) :
    Calls Try.prog 62 #[v, .int .u8 c] w fun e w' => ∃ v', e = .returned v' ∧ w'.ownsRow B 5 1 v' (n + (charT (UInt8.ofNat c)).length) (cells (xs ++ charT (UInt8.ofNat c))) ∧ Gw B w w' v v' := by
  have := ac_any v n B xs (UInt8.ofNat c) w hB hn hown
  rwa [show ((UInt8.ofNat c).toNat : Int) = (c : Int) by simp; omega] at this
set_option maxHeartbeats 1000000 in
theorem ai_any (v : Value) (n B : Nat) (xs : List UInt8) (a z : Nat) (w : World) (haz : a ≤ z) (hz : z < 256) (hB : B ≤ w.heap.size) (hn : n ≤ 1000000000000) (hown : w.ownsRow B 5 1 v n (cells xs)) :
    Calls Try.prog 51 #[v, .int .u8 a, .int .u8 z] w fun e w' => ∃ v', e = .returned v' ∧ w'.ownsRow B 5 1 v' (n + (item2 a z).length) (cells (xs ++ item2 a z)) ∧ Gw B w w' v v' := by
  obtain ⟨i0, hi, hz0, hz1, hz2⟩ := info_parts infoU8
  have HA := hide (ac_at v n B xs a w (by omega) hB (by omega) hown)
  have HZ := hide (fun (v : Value) (n : Nat) (xs : List UInt8) (W : World) => ac_at v n B xs z W hz)
  have la := charT_len (UInt8.ofNat a)
  obtain ⟨ca, hca⟩ : ∃ c, charT (UInt8.ofNat a) = c := ⟨_, rfl⟩
  obtain ⟨cz, hcz⟩ : ∃ c, charT (UInt8.ofNat z) = c := ⟨_, rfl⟩
  rw [hca] at HA la
  rw [hcz] at HZ
  have HI : Hid (item2 a z = ca ++ ((if a + 1 < z then [45] else []) ++ (if a < z then cz else []))) := hide (by rw [← hca, ← hcz]; rfl)
  clear hca hcz
  obtain ⟨it, hit⟩ : ∃ it, item2 a z = it := ⟨_, rfl⟩
  rw [hit] at HI ⊢
  clear hit
  go_enter Try.func51, Try.ntmps51
  go_wp2_with fail
  refine (unhide HA).mono ?_
  rintro e w1 ⟨v1, rfl, own1, g1⟩
  have R1 := hide ((RowS.start hown hB).call own1 g1)
  clear own1 g1 HA hown
  by_cases hlt : a < z
  · have he : ((a : Int) == z) = false := by rw [beq_eq_false_iff_ne]; omega
    have hsub : IntKind.u8.wrap ((z : Int) - a) = (z : Int) - a := by rw [IntKind.wrap_u8]; omega
    rw [if_pos hlt] at HI
    by_cases h1 : a + 1 < z
    · have hI : (z : Int) - a > 1 := by omega
      rw [if_pos h1] at HI
      go_wp2_with (at_builtin; refine app_sl rfl _ _ rfl rfl ((unhide R1).alloc _) [45] _ _ rfl (cell_one_new _ _ _) (by simp; omega) ?_; intro v2 w2 R2')
      have R2 := hide R2'
      clear R2'
      refine ((unhide HZ) v2 _ _ w2 (unhide R2).hB (by simp; omega) (unhide R2).own).mono ?_
      rintro e w3 ⟨v3, rfl, own3, g3⟩
      have R3 := hide ((unhide R2).call own3 g3)
      clear own3 g3
      go_wp2_with fail
      go_ret
      refine ⟨v3, rfl, ?_, (unhide R3).gw⟩
      have := (unhide R3).own
      rw [unhide HI]
      simpa [Nat.add_assoc, Nat.add_comm 1] using this
    · have hI : ¬ ((z : Int) - a > 1) := by omega
      rw [if_neg h1] at HI
      go_wp2_with fail
      refine ((unhide HZ) v1 _ _ w1 (unhide R1).hB (by omega) (unhide R1).own).mono ?_
      rintro e w3 ⟨v3, rfl, own3, g3⟩
      have R3 := hide ((unhide R1).call own3 g3)
      clear own3 g3
      go_wp2_with fail
      go_ret
      refine ⟨v3, rfl, ?_, (unhide R3).gw⟩
      have := (unhide R3).own
      rw [unhide HI]
      simpa [Nat.add_assoc] using this
  · obtain rfl : a = z := by omega
    rw [if_neg hlt, if_neg (by omega)] at HI
    go_wp2_with fail
    go_ret
    refine ⟨v1, rfl, ?_, (unhide R1).gw⟩
    rw [unhide HI]
    simpa using (unhide R1).own
end Go.Proofs.Ytmhjfiaohbioeaa
