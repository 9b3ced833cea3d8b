/- How the program writes bytes: isSign, plain, appendChar, appendItem. -/
import Derived.Test.YtjecopdbcaojcaaShelf
import Derived.Test.YtjecopdbcaojcaaHg
import Derived.Test.YtjecopdbcaojcaaJa
import Derived.Lib.AppendStr
import Derived.Deep.RegionLaw
import Derived.Maps.AppendAt
import Derived.Lib.Builder
namespace Go.Proofs.Ytjecopdbcaojcaa
open Go.RowKit Kb Pop
set_option linter.unusedVariables false
set_option maxRecDepth 20000

theorem sign_idx (c : UInt8) : decide (0 ≤ Lib.indexByte specs c) = has specs c := by
  have := u8_all (p := fun c => decide (0 ≤ Lib.indexByte specs c) == has specs c) (by decide +kernel) c
  simpa using this
set_option maxHeartbeats 400000 in
theorem sign_any (c : UInt8) (w : World) :
    Calls Try.prog 80 #[.int .u8 c.toNat] w fun e w' => e = .returned (.bool (has specs c)) ∧ w' = w := by
  have HI := hide (Try.strings_IndexByte ⟨#[40, 41, 91, 93, 124, 42, 43, 63, 46, 94, 36, 45, 92]⟩ c.toNat w)
  have HS : Hid (has specs c = decide (0 ≤ Lib.indexByte [40, 41, 91, 93, 124, 42, 43, 63, 46, 94, 36, 45, 92] c)) := hide (sign_idx c).symm
  rw [show ((c.toNat : Int).toNat.toUInt8) = c by simp] at HI
  obtain ⟨k, hk⟩ : ∃ k, Lib.indexByte [40, 41, 91, 93, 124, 42, 43, 63, 46, 94, 36, 45, 92] c = k := ⟨_, rfl⟩
  replace HI : Hid (Calls Try.prog 81 #[.string ⟨#[40, 41, 91, 93, 124, 42, 43, 63, 46, 94, 36, 45, 92]⟩, .int .u8 c.toNat] w fun e w' => e = .returned (.int .i64 (Lib.indexByte [40, 41, 91, 93, 124, 42, 43, 63, 46, 94, 36, 45, 92] c)) ∧ w' = w) := HI
  rw [hk] at HI HS
  clear hk
  obtain ⟨b, hb⟩ : ∃ b, has specs c = b := ⟨_, rfl⟩
  rw [hb] at HS ⊢
  clear hb
  go_enter Try.func80, Try.ntmps80
  go_wp2_with fail
  refine (unhide HI).mono ?_
  rintro e wx ⟨rfl, hwx⟩; rw [hwx]; clear hwx wx
  go_wp2_with fail
  go_ret
  exact ⟨ret_bool (by rw [unhide HS]), rfl⟩
/-- does a byte stand for itself? -/
def plR (c : UInt8) : Bool := decide (33 ≤ c.toNat) && decide (c.toNat ≤ 126) && !has specs c
set_option maxHeartbeats 400000 in
theorem plainR_any (c : UInt8) (w : World) :
    Calls Try.prog 69 #[.int .u8 c.toNat] w fun e w' => e = .returned (.bool (plR c)) ∧ w' = w := by
  have hc := c.toNat_lt
  have HS := hide (sign_any c w)
  obtain ⟨b, hb⟩ : ∃ b, has specs c = b := ⟨_, rfl⟩
  have HP : Hid (plR c = (decide (33 ≤ c.toNat) && decide (c.toNat ≤ 126) && !b)) := hide (by unfold plR; rw [hb])
  rw [hb] at HS
  clear hb
  by_cases h1 : 33 ≤ c.toNat
  · have i1 : (33 : Int) ≤ c.toNat := by omega
    by_cases h2 : c.toNat ≤ 126
    · have i2 : (c.toNat : Int) ≤ 126 := by omega
      go_enter Try.func69, Try.ntmps69
      go_wp2_with fail
      refine (unhide HS).mono ?_
      rintro e wx ⟨rfl, hwx⟩; rw [hwx]; clear hwx wx
      go_wp2_with fail
      go_ret
      exact ⟨ret_bool (by rw [unhide HP, decide_eq_true h1, decide_eq_true h2]; cases b <;> rfl), rfl⟩
    · have i2 : ¬ ((c.toNat : Int) ≤ 126) := by omega
      go_enter Try.func69, Try.ntmps69
      go_wp2_with fail
      go_ret
      exact ⟨ret_bool (by rw [unhide HP, decide_eq_true h1, decide_eq_false h2]; rfl), rfl⟩
  · have i1 : ¬ ((33 : Int) ≤ c.toNat) := by omega
    go_enter Try.func69, Try.ntmps69
    go_wp2_with fail
    go_ret
    exact ⟨ret_bool (by rw [unhide HP, decide_eq_false h1]; rfl), rfl⟩
theorem char_sign {c : UInt8} (h : has specs c = true) : charT c = [92, c] ∧ ¬ c.toNat = 10 ∧ ¬ c.toNat = 9 ∧ ¬ c.toNat = 13 := by
  have := u8_all (p := fun c => !has specs c || decide (charT c = [92, c] ∧ ¬ c.toNat = 10 ∧ ¬ c.toNat = 9 ∧ ¬ c.toNat = 13)) (by decide +kernel) c
  rw [h] at this
  simpa using this
theorem char_plain {c : UInt8} (h : plR c = true) : charT c = [c] := by
  have := u8_all (p := fun c => !plR c || decide (charT c = [c])) (by decide +kernel) c
  rw [h] at this
  simpa using this
theorem char_hex {c : UInt8} (h10 : ¬ c.toNat = 10) (h9 : ¬ c.toNat = 9) (h13 : ¬ c.toNat = 13) (hs : has specs c = false) (hp : plR c = false) : charT c = [92, 120] ++ twoH hexs c := by
  have := u8_all (p := fun c => decide (c.toNat = 10) || decide (c.toNat = 9) || decide (c.toNat = 13) || has specs c || plR c || decide (charT c = [92, 120] ++ twoH hexs c)) (by decide +kernel) c
  rw [hs, hp, decide_eq_false h10, decide_eq_false h9, decide_eq_false h13] at this
  simpa using this
theorem cell_four_new' (w : World) (a b c d : Value) (t : TypeId) : ∀ j u, [a, b, c, d][j]? = some u → (w.alloc (.cells #[a, b, c, d] t)).cell? ((⟨w.heap.size, 0, none⟩ : Addr).add j) = some u := by
  intro j u h
  rw [Addr.add_lit, Nat.zero_add, World.cell?_alloc_new]
  simpa using h
theorem hex_cells (c : UInt8) (p1 : ((c.toNat : Int) / 16).toNat < 16) (p2 : ((c.toNat : Int) % 16).toNat < 16) :
    [Value.int .u8 92, Value.int .u8 120, Value.int .u8 ((({ data := #[48, 49, 50, 51, 52, 53, 54, 55, 56, 57, 97, 98, 99, 100, 101, 102] } : ByteArray)[((c.toNat : Int) / 16).toNat]'p1).toNat : Int),
      Value.int .u8 ((({ data := #[48, 49, 50, 51, 52, 53, 54, 55, 56, 57, 97, 98, 99, 100, 101, 102] } : ByteArray)[((c.toNat : Int) % 16).toNat]'p2).toNat : Int)] = cells ([92, 120] ++ twoH hexs c) := by
  have t : ∀ k : Fin 16, (({ data := #[48, 49, 50, 51, 52, 53, 54, 55, 56, 57, 97, 98, 99, 100, 101, 102] } : ByteArray)[k.1]'(k.2)) = hexs.data.toList.getD k.1 0 := by decide
  have t1 := t ⟨((c.toNat : Int) / 16).toNat, p1⟩
  have t2 := t ⟨((c.toNat : Int) % 16).toNat, p2⟩
  dsimp only at t1 t2
  rw [t1, t2]
  have e1 : ((c.toNat : Int) / 16).toNat = c.toNat / 16 := by omega
  have e2 : ((c.toNat : Int) % 16).toNat = c.toNat % 16 := by omega
  rw [e1, e2]
  rfl
/-- what lies below B stays, and all that is not the row v: the row has become v' -/
def Gw (B : Nat) (w w' : World) (v v' : Value) : Prop := Below B w w' ∧ ∀ k, k < w.heap.size → v.ownBlock ≠ some k → (w'.heap[k]? = w.heap[k]? ∧ v'.ownBlock ≠ some k)
theorem Gw.refl (B : Nat) (w : World) (v : Value) : Gw B w w v v := ⟨Below.refl B w, fun _ _ h => ⟨rfl, h⟩⟩
theorem Gw.trans {B : Nat} {a b c : World} {v v1 v2 : Value} (h : Gw B a b v v1) (g : Gw B b c v1 v2) : Gw B a c v v2 := ⟨h.1.trans g.1, fun k hk hne => by
  have h1 := h.2 k hk hne
  have h2 := g.2 k (Nat.lt_of_lt_of_le hk h.1.size) h1.2
  exact ⟨h2.1.trans h1.1, h2.2⟩⟩
theorem lt_of_some {w : World} {k : Nat} {o : Obj} (h : w.heap[k]? = some o) : k < w.heap.size := (Array.getElem?_eq_some_iff.1 h).1
theorem Gw.of_below {B : Nat} {a b : World} (hB : B ≤ a.heap.size) (v : Value) (g : Below a.heap.size a b) : Gw B a b v v := ⟨g.mono hB, fun k hk hne => ⟨g.block k hk, hne⟩⟩
theorem Gw.grown {B n : Nat} {w w' : World} {v v' : Value} {xs : List Value} (h : w.ownsRow B 5 1 v n xs) (g : w.grownBy w' v.ownBlock) (hB : B ≤ w.heap.size) (hat : v'.ownBlock = v.ownBlock ∨ v'.ownBlock = some w.heap.size ∨ v'.ownBlock = none) : Gw B w w' v v' :=
  ⟨(Below.refl B _).grown g hB (own_lt h), fun k hk hne => ⟨g.block k hk (fun e => hne e.symm), by
    rcases hat with e | e | e <;> rw [e]
    · exact hne
    · intro e; cases e; omega
    · intro e; cases e⟩⟩
theorem Gw.size {B : Nat} {a b : World} {v v' : Value} (h : Gw B a b v v') (hB : B ≤ a.heap.size) : B ≤ b.heap.size := Nat.le_trans hB h.1.size
/-- a row of bytes of one's own, and blocks that stay beside it -/
structure RowS (B : Nat) (w0 : World) (v0 : Value) (L : List (Nat × Obj)) (n : Nat) (xs : List UInt8) (w : World) (v : Value) : Prop where
  own : w.ownsRow B 5 1 v n (cells xs)
  gw : Gw B w0 w v0 v
  box : ∀ p ∈ L, w.heap[p.1]? = some p.2 ∧ v.ownBlock ≠ some p.1
  hB : B ≤ w.heap.size
theorem RowS.start {B : Nat} {n : Nat} {xs : List UInt8} {w : World} {v : Value} (h : w.ownsRow B 5 1 v n (cells xs)) (hB : B ≤ w.heap.size) : RowS B w v [] n xs w v := ⟨h, Gw.refl B w v, fun p hp => by simp at hp, hB⟩
theorem RowS.call {B : Nat} {w0 : World} {v0 : Value} {L : List (Nat × Obj)} {n m : Nat} {xs ys : List UInt8} {w w' : World} {v v' : Value} (h : RowS B w0 v0 L n xs w v) (o : w'.ownsRow B 5 1 v' m (cells ys)) (k : Gw B w w' v v') : RowS B w0 v0 L m ys w' v' :=
  ⟨o, h.gw.trans k, fun p hp => by
    have h1 := h.box p hp
    have h2 := k.2 p.1 (lt_of_some h1.1) h1.2
    exact ⟨h2.1.trans h1.1, h2.2⟩, k.size h.hB⟩
theorem RowS.below {B : Nat} {w0 : World} {v0 : Value} {L : List (Nat × Obj)} {n : Nat} {xs : List UInt8} {w w' : World} {v : Value} (h : RowS B w0 v0 L n xs w v) (b : Below w.heap.size w w') : RowS B w0 v0 L n xs w' v := h.call (own_below h.own b) (Gw.of_below h.hB v b)
theorem RowS.alloc {B : Nat} {w0 : World} {v0 : Value} {L : List (Nat × Obj)} {n : Nat} {xs : List UInt8} {w : World} {v : Value} (h : RowS B w0 v0 L n xs w v) (o : Obj) : RowS B w0 v0 L n xs (w.alloc o) v := h.below ((Below.refl _ _).alloc (Nat.le_refl _) o)
theorem RowS.drew {B : Nat} {w0 : World} {v0 : Value} {L : List (Nat × Obj)} {n : Nat} {xs : List UInt8} {w : World} {v : Value} (h : RowS B w0 v0 L n xs w v) : RowS B w0 v0 L n xs w.drew v := h.below ((Below.refl _ _).drew)
/-- a new block is kept in mind -/
theorem RowS.lay {B : Nat} {w0 : World} {v0 : Value} {L : List (Nat × Obj)} {n : Nat} {xs : List UInt8} {w : World} {v : Value} (h : RowS B w0 v0 L n xs w v) (o : Obj) : RowS B w0 v0 ((w.heap.size, o) :: L) n xs (w.alloc o) v :=
  ⟨(h.alloc o).own, (h.alloc o).gw, fun p hp => by
    rcases List.mem_cons.1 hp with rfl | hp
    · exact ⟨heap_alloc_new w o, fun e => by have := (h.own.lt _ e).2; simp at this⟩
    · exact (h.alloc o).box p hp, (h.alloc o).hB⟩
theorem RowS.lay2 {B : Nat} {w0 : World} {v0 : Value} {L : List (Nat × Obj)} {n : Nat} {xs : List UInt8} {w : World} {v : Value} (h : RowS B w0 v0 L n xs w v) (o o' : Obj) : RowS B w0 v0 ((w.heap.size + 1, o') :: (w.heap.size, o) :: L) n xs ((w.alloc o).alloc o') v := by
  have := (h.lay o).lay o'
  rwa [show (w.alloc o).heap.size = w.heap.size + 1 by simp] at this
theorem RowS.cell {B : Nat} {w0 : World} {v0 : Value} {L : List (Nat × Obj)} {n : Nat} {xs : List UInt8} {w : World} {v : Value} (h : RowS B w0 v0 L n xs w v) {g : Nat} {cur : Array Value} {t : TypeId} {fr : Nat × Nat} (hm : (g, Obj.cells cur t fr) ∈ L) (j : Nat) : w.cell? ⟨g, j, none⟩ = cur[j]? := Go.Lib.cell_of_heap (h.box _ hm).1 j
theorem RowS.news {B : Nat} {w0 : World} {v0 : Value} {L : List (Nat × Obj)} {n : Nat} {xs : List UInt8} {w : World} {v : Value} (h : RowS B w0 v0 L n xs w v) {g : Nat} {cur : Array Value} {t : TypeId} {fr : Nat × Nat} (hm : (g, Obj.cells cur t fr) ∈ L) : ∀ (j : Nat) (u : Value), cur.toList[j]? = some u → w.cell? ((⟨g, 0, none⟩ : Addr).add j) = some u := by
  intro j u hu
  rw [Addr.add_lit, Nat.zero_add, h.cell hm]
  simpa using hu
theorem RowS.newsB {B : Nat} {w0 : World} {v0 : Value} {L : List (Nat × Obj)} {n : Nat} {xs : List UInt8} {w : World} {v : Value} (h : RowS B w0 v0 L n xs w v) (ys : List UInt8) {g : Nat} {t : TypeId} {fr : Nat × Nat} (hm : (g, Obj.cells (cells ys).toArray t fr) ∈ L) : ∀ (j : Nat) (u : Value), (cells ys)[j]? = some u → w.cell? ((⟨g, 0, none⟩ : Addr).add j) = some u := by
  intro j u hu
  exact h.news hm j u (by simpa using hu)
/-- an item: the bytes from a to z -/
def item2 (a z : Nat) : List UInt8 := charT (UInt8.ofNat a) ++ ((if a + 1 < z then [45] else []) ++ (if a < z then charT (UInt8.ofNat z) else []))
end Go.Proofs.Ytjecopdbcaojcaa
