/- Walks: a reader is fed (the program's Feed). -/
import Derived.Test.YtjpclmkekmkddaaDoorUB
import Derived.Laws.AppendOwnNone
/- Walks: wide bounds. -/
namespace Go.Proofs.YtjpclmkekmkddaaDoor
open Go.RowKit Kb
set_option linter.unusedVariables false
set_option maxRecDepth 20000
theorem results_c1 {fn : Func} {p : Tmp} {ty : TypeId} (h : fn.results = #[.cell p ty]) (tmps : Array Value) (w : World) (g : Nat) (z : Value)
    (hp : tmps.getD p undef = .pointer (some ⟨g, 0, none⟩)) (hl : (loadVar ty ⟨g, 0, none⟩).run Tryd.prog w = .ok z w) :
    (results fn tmps).run Tryd.prog w = .ok z w := by
  have hp' : tmps[p]?.getD undef = .pointer (some ⟨g, 0, none⟩) := by simpa using hp
  simp [results, h, hp', asAddr, hl]
def B3 (w : World) (base g : Nat) (x y z : Int) : Prop := w.ownsRow base 42 3 (.slice (some ⟨g, 0, none⟩) 1 1) 1 (cells3 x y z)
section
variable {w w' : World} {base g : Nat} {x y z : Int}
theorem B3.cells (h : B3 w base g x y z) : w.cell? ⟨g, 0, none⟩ = some (.int .i64 x) ∧ w.cell? ⟨g, 1, none⟩ = some (.int .i64 y) ∧ w.cell? ⟨g, 2, none⟩ = some (.int .i64 z) :=
  ⟨World.ownsRow.cellAt h 0 (by omega), World.ownsRow.cellAt h 1 (by omega), World.ownsRow.cellAt h 2 (by omega)⟩
theorem B3.frozen (h : B3 w base g x y z) : w.frozen? ⟨g, 0, none⟩ = false ∧ w.frozen? ⟨g, 1, none⟩ = false ∧ w.frozen? ⟨g, 2, none⟩ = false :=
  ⟨World.ownsRow.frozenAt h 0, World.ownsRow.frozenAt h 1, World.ownsRow.frozenAt h 2⟩
theorem B3.new (W : World) (hB : base ≤ W.heap.size) (x y z : Int) : B3 (W.alloc (.cells #[.int .i64 x, .int .i64 y, .int .i64 z] 42)) base W.heap.size x y z :=
  World.ownsRow_lit (e := 42) (size := 3) (base := base) W #[.int .i64 x, .int .i64 y, .int .i64 z] 1 hB (by unfold maxLen; omega) rfl
end
theorem B3.put {w : World} {base g : Nat} {x y z : Int} (h : B3 w base g x y z) (x' y' z' : Int) :
    (loadVar 42 ⟨g, 0, none⟩).run Tryd.prog (((w.setCell ⟨g, 0, none⟩ (.int .i64 x')).setCell ⟨g, 1, none⟩ (.int .i64 y')).setCell ⟨g, 2, none⟩ (.int .i64 z')) = .ok (bndV x' y' z') (((w.setCell ⟨g, 0, none⟩ (.int .i64 x')).setCell ⟨g, 1, none⟩ (.int .i64 y')).setCell ⟨g, 2, none⟩ (.int .i64 z'))
    ∧ w.grownBy (((w.setCell ⟨g, 0, none⟩ (.int .i64 x')).setCell ⟨g, 1, none⟩ (.int .i64 y')).setCell ⟨g, 2, none⟩ (.int .i64 z')) (some g) := by
  obtain ⟨v0, m0⟩ := World.ownsRow.stored h 0 (.int .i64 x')
  obtain ⟨v1, m1⟩ := v0.stored 1 (.int .i64 y')
  obtain ⟨v2, m2⟩ := v1.stored 2 (.int .i64 z')
  refine ⟨?_, (m0.trans m1).trans m2⟩
  obtain ⟨fr, hh⟩ := own_one' v2
  exact run_loadVar_row _ g 42 42 #[.int .i64 x', .int .i64 y', .int .i64 z'] fr _ hh Tryd.underlying42 rfl (by kernel_rfl)
theorem wide_any (w : World) : Calls Tryd.prog 12 #[] w fun e w' => e = .returned (bndV 4096 4096 40) ∧ Below w.heap.size w w' := by
  have X0 := hide (B3.new (base := w.heap.size) w (Nat.le_refl _) 0 0 0)
  have b0 := hide ((Below.refl w.heap.size w).alloc (Nat.le_refl _) (.cells #[.int .i64 0, .int .i64 0, .int .i64 0] 42))
  obtain ⟨W0, hW0⟩ : ∃ W, w.alloc (.cells #[.int .i64 0, .int .i64 0, .int .i64 0] 42) = W := ⟨_, rfl⟩
  rw [hW0] at X0 b0
  obtain ⟨y0, y1, y2⟩ := (unhide X0).cells
  obtain ⟨f0, f1, f2⟩ := (unhide X0).frozen
  obtain ⟨l, g⟩ := (unhide X0).put 4096 4096 40
  have L := hide l
  have HB := hide ((unhide b0).grown g (unhide b0).size (fun q hq => by have := Option.some.inj hq; omega))
  clear l g
  go_enter Tryd.func12, Tryd.ntmps12
  go_wp2_with fail
  (try simp only [Exit.inBlock, Exit.then])
  refine bodyPost_ret_by (v := bndV 4096 4096 40) ?_ rfl ⟨rfl, unhide HB⟩
  refine results_c1 (p := 0) (ty := 42) ?_ _ _ w.heap.size _ ?_ (unhide L) <;> rfl
end Go.Proofs.YtjpclmkekmkddaaDoor

/- Rows of requests; are two rows of requests the same? -/
namespace Go.Proofs.YtjpclmkekmkddaaDoor
open Go.RowKit Kb
set_option linter.unusedVariables false
set_option maxRecDepth 20000
open Mh (Fl)

theorem own_apart {w : World} {B B' e e' s s' n n' : Nat} {v v' : Value} {xs ys : List Value} (h : w.ownsRow B e s v n xs) (h' : w.ownsRow B' e' s' v' n' ys) (he : e ≠ e') : v.ownBlock = none ∨ v.ownBlock ≠ v'.ownBlock := by
  rcases h.2 with ⟨rfl, _⟩ | ⟨g, cap, cur, rfl, _, hgb, _⟩
  · exact .inl rfl
  · right
    intro e1
    rcases h'.2 with ⟨rfl, _⟩ | ⟨g', cap', cur', rfl, _, hgb', _⟩
    · simp [Value.ownBlock] at e1
    · have : g = g' := by simpa [Value.ownBlock] using e1
      subst this
      have := Option.some.inj (hgb.symm.trans hgb')
      injection this with a b c
      exact he b
theorem cell_four_new (w : World) (x y z u : Value) (t : TypeId) : ∀ j v, [x, y, z, u][j]? = some v → (w.alloc (.cells #[x, y, z, u] t)).cell? ((⟨w.heap.size, 0, none⟩ : Addr).add j) = some v := by
  intro j v hj
  match j, hj with
  | 0, hj => simp at hj; subst hj; simp [Addr.add]
  | 1, hj => simp at hj; subst hj; simp [Addr.add]
  | 2, hj => simp at hj; subst hj; simp [Addr.add]
  | 3, hj => simp at hj; subst hj; simp [Addr.add]
  | (j + 4), hj => simp at hj
/-- a request, and its fields' slice -/
abbrev RV := On.Rq × Value
def qCells (p : RV) : List Value := [.string (mk p.1.1), .string (mk p.1.2.1), p.2, .string (mk p.1.2.2.2)]
def cellsQ (l : List RV) : List Value := l.flatMap qCells
theorem cellsQ_append (a b : List RV) : cellsQ (a ++ b) = cellsQ a ++ cellsQ b := by simp [cellsQ]
theorem cellsQ_cons (a : RV) (r : List RV) : cellsQ (a :: r) = .string (mk a.1.1) :: .string (mk a.1.2.1) :: a.2 :: .string (mk a.1.2.2.2) :: cellsQ r := by simp [cellsQ, qCells]
theorem cellsQ_at {l : List RV} {j : Nat} {p : RV} (h : l[j]? = some p) : (cellsQ l)[j * 4]? = some (.string (mk p.1.1)) ∧ (cellsQ l)[j * 4 + 1]? = some (.string (mk p.1.2.1)) ∧ (cellsQ l)[j * 4 + 2]? = some p.2 ∧ (cellsQ l)[j * 4 + 3]? = some (.string (mk p.1.2.2.2)) := by
  induction l generalizing j with
  | nil => simp at h
  | cons a r ih =>
    rw [cellsQ_cons]
    cases j with
    | zero => simp at h; subst h; simp
    | succ j =>
      have := ih (j := j) (by simpa using h)
      rw [show (j + 1) * 4 = j * 4 + 1 + 1 + 1 + 1 by omega]
      simpa using this
theorem infoQ : (Tryd.prog.info? 56).map (fun i => (i.zero, i.size, i.bytes)) = some (some (.agg #[.string ByteArray.empty, .string ByteArray.empty, .slice none 0 0, .string ByteArray.empty]), 4, 72) := by kernel_rfl
theorem typesQ : (104 : Nat) ≠ 56 := by decide
/-- a slice that holds these requests, each with its fields in a row of its own -/
structure Reqs (w : World) (B : Nat) (V : Value) (l : List RV) : Prop where
  made ::
  own : w.ownsRow B 56 4 V l.length (cellsQ l)
  rows : ∀ p ∈ l, w.ownsRow B 104 2 p.2 p.1.2.2.1.length (cellsF p.1.2.2.1) ∧ p.1.2.2.1.length ≤ 4398046511104
theorem Reqs.nil (w : World) (B : Nat) : Reqs w B (.slice none 0 0) [] := ⟨World.ownsRow_nil _ _ _ _, by simp⟩
theorem Reqs.below {w w' : World} {B : Nat} {V : Value} {l : List RV} (h : Reqs w B V l) (b : Below w.heap.size w w') : Reqs w' B V l :=
  ⟨own_below h.own b, fun p hp => ⟨own_below (h.rows p hp).1 b, (h.rows p hp).2⟩⟩
theorem Reqs.mono {w : World} {B B' : Nat} {V : Value} {l : List RV} (h : Reqs w B V l) (b : B' ≤ B) : Reqs w B' V l :=
  ⟨own_mono2 h.own b, fun p hp => ⟨own_mono2 (h.rows p hp).1 b, (h.rows p hp).2⟩⟩
/-- one more behind -/
theorem Reqs.push {w w' : World} {B : Nat} {V V' : Value} {l m : List RV} (h : Reqs w B V l) (hm : ∀ p ∈ m, w.ownsRow B 104 2 p.2 p.1.2.2.1.length (cellsF p.1.2.2.1) ∧ p.1.2.2.1.length ≤ 4398046511104)
    (ho : w'.ownsRow B 56 4 V' (l.length + m.length) (cellsQ l ++ cellsQ m)) (hg : w.grownBy w' V.ownBlock) : Reqs w' B V' (l ++ m) := by
  refine ⟨by rw [List.length_append, cellsQ_append]; exact ho, fun p hp => ?_⟩
  have : w.ownsRow B 104 2 p.2 p.1.2.2.1.length (cellsF p.1.2.2.1) ∧ p.1.2.2.1.length ≤ 4398046511104 := by
    rcases List.mem_append.1 hp with hp | hp
    · exact h.rows p hp
    · exact hm p hp
  exact ⟨this.1.kept hg (own_apart this.1 h.own typesQ), this.2⟩
theorem Reqs.oneCells {w : World} {B : Nat} {V : Value} {l : List RV} (h : Reqs w B V l) : ∀ u ∈ cellsQ l, u.oneCell' = true := by
  intro u hu
  obtain ⟨p, hp, hu⟩ := List.mem_flatMap.1 hu
  obtain ⟨o, c, hv⟩ := own_forms (h.rows p hp).1
  unfold qCells at hu
  rw [hv] at hu
  simp only [List.mem_cons, List.mem_nil_iff, or_false] at hu
  rcases hu with rfl | rfl | rfl | rfl <;> rfl
theorem Reqs.at_ {w : World} {B : Nat} {V : Value} {l : List RV} (h : Reqs w B V l) {j : Nat} {p : RV} (hj : l[j]? = some p) :
    ∃ g c, V = .slice (some ⟨g, 0, none⟩) l.length c ∧ g < w.heap.size ∧ w.cell? ⟨g, j * 4, none⟩ = some (.string (mk p.1.1)) ∧ w.cell? ⟨g, j * 4 + 1, none⟩ = some (.string (mk p.1.2.1)) ∧ w.cell? ⟨g, j * 4 + 2, none⟩ = some p.2 ∧ w.cell? ⟨g, j * 4 + 3, none⟩ = some (.string (mk p.1.2.2.2)) ∧ Flds w p.2 p.1.2.2.1 := by
  have hj2 : j < l.length := (List.getElem?_eq_some_iff.1 hj).1
  obtain ⟨g, c, hv, hc⟩ := own_form h.own (by omega)
  subst hv
  have hlt : g < w.heap.size := (h.own.lt g rfl).2
  obtain ⟨a0, a1, a2, a3⟩ := cellsQ_at hj
  have hr := h.rows p (List.mem_of_getElem? hj)
  refine ⟨g, c, rfl, hlt, ?_, ?_, ?_, ?_, Flds.own hr.1 hr.2⟩
  · rw [h.own.cellAt (j * 4) (by omega)]; exact a0
  · rw [h.own.cellAt (j * 4 + 1) (by omega)]; exact a1
  · rw [h.own.cellAt (j * 4 + 2) (by omega)]; exact a2
  · rw [h.own.cellAt (j * 4 + 3) (by omega)]; exact a3
set_option maxHeartbeats 4000000 in
theorem equal_reqs (w : World) (B C : Nat) (V U : Value) (l k : List RV) (h1 : Reqs w B V l) (h2 : Reqs w C U k) (hq : l.map Prod.fst = k.map Prod.fst) (hn : l.length ≤ 1099511627776) :
    Calls Tryd.prog 14 #[V, U, .func (.func 15) #[] #[]] w fun e w' => e = .returned (.bool true) ∧ Below w.heap.size w w' := by
  have hlk : l.length = k.length := by have := congrArg List.length hq; simpa using this
  obtain ⟨o1, c1, rfl⟩ := own_forms h1.own
  obtain ⟨o2, c2, rfl⟩ := own_forms h2.own
  have H1 := hide h1
  have H2 := hide h2
  have HQ := hide hq
  rw [← hlk] at H2
  have HLK := hide hlk
  rw [← hlk]
  clear h1 h2 hq hlk
  obtain ⟨n, hnn⟩ : ∃ n, l.length = n := ⟨_, rfl⟩
  have HNN := hide hnn
  rw [hnn] at H1 H2 HLK hn ⊢
  clear hnn
  go_enter Tryd.func14, Tryd.ntmps14
  go_wp2_with fail
  go_loopw [17] (fun x wr => ∃ j : Nat, x = .int .i64 j ∧ j ≤ n ∧ Below w.heap.size w wr) (fun x _ => n - (intOf x).toNat)
  case atStart => exact ⟨0, rfl, Nat.zero_le _, Below.refl _ _⟩
  case round =>
    obtain ⟨j, rfl, hj, hb⟩ := hrel
    have HB := hide hb
    clear hb
    by_cases hlt : j < n
    · obtain ⟨p, hp⟩ : ∃ p, l[j]? = some p := ⟨l[j]'(by have := unhide HNN; omega), List.getElem?_eq_getElem _⟩
      obtain ⟨p', hp'⟩ : ∃ p', k[j]? = some p' := ⟨k[j]'(by have := unhide HLK; omega), List.getElem?_eq_getElem _⟩
      obtain ⟨⟨a, b, fs, t⟩, v⟩ := p
      obtain ⟨⟨a', b', fs', t'⟩, v'⟩ := p'
      have he : (a', b', fs', t') = (a, b, fs, t) := by
        have h1 : (l.map Prod.fst)[j]? = some (a, b, fs, t) := by rw [List.getElem?_map, hp]; rfl
        have h2 : (k.map Prod.fst)[j]? = some (a', b', fs', t') := by rw [List.getElem?_map, hp']; rfl
        rw [unhide HQ, h2] at h1
        exact Option.some.inj h1
      injection he with e1 e2; injection e2 with e2 e3; injection e3 with e3 e4
      subst e1 e2 e3 e4
      obtain ⟨g1, cc1, he1, hg1, a0, a1, a2, a3, F1⟩ := ((unhide H1).below (unhide HB)).at_ hp
      obtain ⟨g2, cc2, he2, hg2, b0, b1, b2, b3, F2⟩ := ((unhide H2).below (unhide HB)).at_ hp'
      rw [← unhide HLK] at he2
      rw [unhide HNN] at he1
      cases he1
      cases he2
      dsimp only at a0 a1 a2 a3 b0 b1 b2 b3 F1 F2
      obtain ⟨vo, vc, rfl, _⟩ := F1.form
      obtain ⟨uo, uc, rfl, _⟩ := F2.form
      have HSM := hide (fun W (h : Below wr.heap.size wr W) => samereq_any a' b' t' (.slice vo fs'.length vc) (.slice uo fs'.length uc) fs' W (F1.below h) (F2.below h))
      unfold reqV at HSM
      obtain ⟨x, hx⟩ : ∃ x, mk a' = x := ⟨_, rfl⟩
      obtain ⟨y, hy⟩ : ∃ y, mk b' = y := ⟨_, rfl⟩
      obtain ⟨q, hq⟩ : ∃ q, mk t' = q := ⟨_, rfl⟩
      rw [hx] at a0 b0 HSM
      rw [hy] at a1 b1 HSM
      rw [hq] at a3 b3 HSM
      clear hx hy hq hp hp' F1 F2
      have X1 := QX.new (base := wr.heap.size) wr (Nat.le_refl _) x y vo fs'.length vc q
      have bb1 := (Below.refl wr.heap.size wr).alloc (Nat.le_refl _) (.cells #[.string x, .string y, .slice vo fs'.length vc, .string q] 56)
      obtain ⟨g3, hg3⟩ : ∃ g, wr.heap.size = g := ⟨_, rfl⟩
      obtain ⟨W1, hW1⟩ : ∃ W, wr.alloc (.cells #[.string x, .string y, .slice vo fs'.length vc, .string q] 56) = W := ⟨_, rfl⟩
      rw [hW1] at X1 bb1
      rw [hg3] at X1
      have X2 := QX.new (base := W1.heap.size) W1 (Nat.le_refl _) x y uo fs'.length uc q
      have bb2 := (Below.refl W1.heap.size W1).alloc (Nat.le_refl _) (.cells #[.string x, .string y, .slice uo fs'.length uc, .string q] 56)
      obtain ⟨g4, hg4⟩ : ∃ g, W1.heap.size = g := ⟨_, rfl⟩
      obtain ⟨W2, hW2⟩ : ∃ W, W1.alloc (.cells #[.string x, .string y, .slice uo fs'.length uc, .string q] 56) = W := ⟨_, rfl⟩
      have Y1 := X1.below bb2
      have d0 := cell_below b0 hg2 bb1
      have d1 := cell_below b1 hg2 bb1
      have d2 := cell_below b2 hg2 bb1
      have d3 := cell_below b3 hg2 bb1
      rw [hW2] at X2 bb2 Y1
      rw [hg4] at X2
      obtain ⟨x0, x1, x2, x3⟩ := Y1.cells
      obtain ⟨y0, y1, y2, y3⟩ := X2.cells
      have HS := hide ((unhide HSM) W2 (bel_trans bb1 bb2))
      have B2 := hide (bel_trans (unhide HB) (bel_trans bb1 bb2))
      clear X1 X2 Y1 bb1 bb2 HSM HB
      have hI : (j : Int) < n := by omega
      go_wp2_with fail
      clear hW1 hW2 hg3 hg4
      refine (unhide HS).mono ?_; rintro e w5 ⟨rfl, b5⟩
      have B5 := hide (bel_trans (unhide B2) b5)
      clear b5 HS B2 a0 a1 a2 a3 b0 b1 b2 b3 d0 d1 d2 d3 x0 x1 x2 x3 y0 y1 y2 y3
      go_wp2_with fail
      exact ⟨⟨j + 1, by go_num, by omega, unhide B5⟩, by simp [intOf]; omega⟩
    · obtain rfl : j = n := by omega
      go_wp2_with fail
      go_ret
      exact ⟨rfl, unhide HB⟩
end Go.Proofs.YtjpclmkekmkddaaDoor

/- Walks: all requests at the front of bytes (the program's). -/
namespace Go.Proofs.YtjpclmkekmkddaaDoor
open Go.RowKit Kb
set_option linter.unusedVariables false
set_option maxRecDepth 20000
open Mh (Fl)
set_option maxHeartbeats 8000000 in
theorem takeAll_any (s : ByteArray) (hd bd ar : Int) (m : Int) (w : World) (hs : s.size ≤ 16777216) (hm : MH m w) (hb : On.bnd hd bd ar = 0) :
    Calls Tryd.prog 28 #[.string s, bndV hd bd ar] w fun e w' => ∃ V l, e = .returned (.tuple #[V, .string (mk (On.all hd.toNat bd s.data.toList).2.1), .int .i64 (On.all hd.toNat bd s.data.toList).2.2]) ∧ l.map Prod.fst = (On.all hd.toNat bd s.data.toList).1 ∧ Reqs w' w.heap.size V l ∧ l.length ≤ s.size ∧ Below w.heap.size w w' := by
  obtain ⟨i0, hi, hz0, hz1, hz2⟩ := info_parts infoQ
  obtain ⟨A, hA⟩ : ∃ A, On.all hd.toNat bd s.data.toList = A := ⟨_, rfl⟩
  rw [hA]
  have h0 := (On.bnd_ok hb).2.1.1
  have HON := hide (fun (t : ByteArray) (ht : t.size ≤ 16777216) W (hW : MH m W) => one_any t hd bd ar m W ht hW _ rfl)
  have HOB := hide (fun (l : List UInt8) => (by unfold On.oneB; rw [if_neg (by simpa using hb)] : On.oneB hd bd ar l = On.one hd.toNat bd l))
  unfold bndV at HON ⊢
  obtain ⟨z0, z1, z2⟩ := three_newF w (.int .i64 hd) (.int .i64 bd) (.int .i64 ar) 42
  have b0 := (Below.refl w.heap.size w).alloc (Nat.le_refl _) (.cells #[.int .i64 hd, .int .i64 bd, .int .i64 ar] 42)
  have hl0 : w.heap.size < (w.alloc (.cells #[.int .i64 hd, .int .i64 bd, .int .i64 ar] 42)).heap.size := by simp
  obtain ⟨W0, hW0⟩ : ∃ W, w.alloc (.cells #[.int .i64 hd, .int .i64 bd, .int .i64 ar] 42) = W := ⟨_, rfl⟩
  rw [hW0] at b0 z0 z1 z2 hl0
  have hm0 := hm.below b0
  have HBX := hide (fun W (h : Below W0.heap.size W0 W) => (⟨⟨cell_below z0 hl0 h, cell_below z1 hl0 h, cell_below z2 hl0 h⟩, hm0.below h⟩ : (W.cell? ⟨w.heap.size, 0, none⟩ = some (.int .i64 hd) ∧ W.cell? ⟨w.heap.size, 1, none⟩ = some (.int .i64 bd) ∧ W.cell? ⟨w.heap.size, 2, none⟩ = some (.int .i64 ar)) ∧ MH m W))
  have B0 := hide b0
  have HL0 := hide hl0
  have H0 := hide h0
  clear b0 hm hm0 z0 z1 z2 hl0 h0 hb
  go_enter Tryd.func28, Tryd.ntmps28
  go_wp2_with fail
  clear hW0
  go_loopw [0, 7] (fun v0 v7 wr => ∃ (t : ByteArray) (l : List RV), v0 = .string t ∧ t.size + l.length ≤ s.size ∧ A = (l.map Prod.fst ++ (On.all hd.toNat bd t.data.toList).1, (On.all hd.toNat bd t.data.toList).2.1, (On.all hd.toNat bd t.data.toList).2.2) ∧ Reqs wr W0.heap.size v7 l ∧ Below W0.heap.size W0 wr) (fun v0 _ _ => strSize v0)
  case atStart => exact ⟨s, [], rfl, by simp, by rw [hA]; rfl, Reqs.nil _ _, Below.refl _ _⟩
  case round =>
    obtain ⟨t, l, rfl, htl, hAt, hR, hbel⟩ := hrel
    obtain ⟨vo, vc, rfl⟩ := own_forms hR.own
    obtain ⟨⟨z0, z1, z2⟩, hmr⟩ := (unhide HBX) _ hbel
    have R := hide hR
    have B := hide hbel
    have HM := hide hmr
    clear hR hbel hmr
    rcases ho : On.one hd.toNat bd t.data.toList with e | ⟨⟨a, b, fs, q⟩, n⟩
    · have HO := (unhide HON) t (by omega) wr (unhide HM)
      rw [unhide HOB, ho] at HO
      dsimp only [On.tellQ] at HO
      rw [On.all_no ho] at hAt
      have he0 : (e != 0) = true := by have := On.one_errs ho; have h : e ≠ 0 := (by omega); simpa using h
      have HA := hide hAt
      have HC := hide HO
      clear HO ho hAt
      go_wp2_with fail
      refine (unhide HC).mono ?_; rintro e1 w5 ⟨v5, rfl, own5, b5⟩
      obtain ⟨uo, uc, rfl⟩ := own_forms own5
      have bb := (Below.refl w5.heap.size w5).alloc (Nat.le_refl _) (.cells #[.string (mk []), .string (mk []), .slice uo ([] : List Fl).length uc, .string (mk [])] 56)
      have HF : Hid (Reqs (w5.alloc (.cells #[.string (mk []), .string (mk []), .slice uo ([] : List Fl).length uc, .string (mk [])] 56)) w.heap.size (.slice vo l.length vc) l ∧ Below w.heap.size w (w5.alloc (.cells #[.string (mk []), .string (mk []), .slice uo ([] : List Fl).length uc, .string (mk [])] 56))) :=
        hide ⟨(((unhide R).below b5).below bb).mono (Nat.le_of_lt (unhide HL0)), bel_trans (unhide B0) (bel_trans (unhide B) (bel_trans b5 bb))⟩
      clear bb own5 b5 HC R B HM z0 z1 z2 HON HBX
      go_wp2_with fail
      go_ret3
      exact ⟨_, l, by rw [unhide HA]; simp [mk], by rw [unhide HA]; simp, (unhide HF).1, by omega, (unhide HF).2⟩
    · obtain ⟨hn4, hnl, hqb, _, _⟩ := On.one_ok (unhide H0) ho
      rw [len_data] at hnl
      have HO := (unhide HON) t (by omega) wr (unhide HM)
      have hfl : fs.length ≤ 4398046511104 := On.one_len (hd := hd.toNat) (bd := bd) (s := t.data.toList) (z := 0) (n := (n : Int)) (a := a) (b := b) (t := q) (by rw [ho]; rfl)
      rw [unhide HOB, ho] at HO
      dsimp only [On.tellQ] at HO
      rw [On.all_yes (unhide H0) ho] at hAt
      have HA := hide hAt
      have HC := hide HO
      obtain ⟨r, hr⟩ : ∃ r, t.extract n t.size = r := ⟨_, rfl⟩
      have HRD : Hid (r.data.toList = t.data.toList.drop n ∧ r.size = t.size - n) := hide ⟨by rw [← hr]; exact extract_drop _ _, by rw [← hr]; simp⟩
      have hnI : (n : Int) ≤ t.size := by omega
      clear HO ho hAt
      obtain ⟨x, hx⟩ : ∃ x, mk a = x := ⟨_, rfl⟩
      obtain ⟨y, hy⟩ : ∃ y, mk b = y := ⟨_, rfl⟩
      obtain ⟨z, hz⟩ : ∃ z, mk q = z := ⟨_, rfl⟩
      have HXY : Hid (mk a = x ∧ mk b = y ∧ mk q = z) := hide ⟨hx, hy, hz⟩
      rw [hx, hy, hz] at HC
      clear hx hy hz
      go_wp2_with fail
      refine (unhide HC).mono ?_; rintro e1 w5 ⟨v5, rfl, own5, b5⟩
      obtain ⟨uo, uc, rfl⟩ := own_forms own5
      have hb5 := (unhide B).size
      have R5 := (unhide R).below b5
      have B5 := bel_trans (unhide B) b5
      have O5 := own_mono2 own5 hb5
      clear own5 b5 HC R B HM z0 z1 z2 HON
      have Q6 := QX.new (base := w5.heap.size) w5 (Nat.le_refl _) x y uo fs.length uc z
      have bb := (Below.refl w5.heap.size w5).alloc (Nat.le_refl _) (.cells #[.string x, .string y, .slice uo fs.length uc, .string z] 56)
      obtain ⟨g6, hg6⟩ : ∃ g, w5.heap.size = g := ⟨_, rfl⟩
      obtain ⟨W6, hW6⟩ : ∃ W, w5.alloc (.cells #[.string x, .string y, .slice uo fs.length uc, .string z] 56) = W := ⟨_, rfl⟩
      rw [hW6] at bb Q6
      rw [hg6] at Q6
      have R6 := R5.below bb
      have B6 := bel_trans B5 bb
      have O6 := own_below O5 bb
      obtain ⟨x0, x1, x2, x3⟩ := Q6.cells
      clear bb R5 B5 O5 Q6
      have b3 : l.length + 1 ≤ maxLen := by unfold maxLen; omega
      have b4 : (l.length + 1) * 72 ≤ 140737488355328 := by omega
      have hs6 := B6.size
      have HAP : Hid (∀ w8 v1, (W6.alloc (.cells #[.string x, .string y, .slice uo fs.length uc, .string z] 56)).grownBy w8 (Value.slice vo l.length vc).ownBlock → w8.ownsRow W0.heap.size 56 4 v1 (l.length + 1) (cellsQ l ++ [.string x, .string y, .slice uo fs.length uc, .string z]) → Reqs w8 W0.heap.size v1 (l ++ [((a, b, fs, q), .slice uo fs.length uc)]) ∧ Below W0.heap.size W0 w8) := hide (fun w8 v1 gr own => by
        have bal := (Below.refl W6.heap.size W6).alloc (Nat.le_refl _) (.cells #[.string x, .string y, .slice uo fs.length uc, .string z] 56)
        refine ⟨(R6.below bal).push (m := [((a, b, fs, q), .slice uo fs.length uc)]) ?_ ?_ gr, (bel_trans B6 bal).grown gr (Nat.le_trans hs6 bal.size) (own_lt (own_below R6.own bal))⟩
        · intro p hp
          have : p = ((a, b, fs, q), .slice uo fs.length uc) := by simpa using hp
          subst this
          exact ⟨own_below O6 bal, hfl⟩
        · have e : cellsQ [((a, b, fs, q), Value.slice uo fs.length uc)] = [.string x, .string y, .slice uo fs.length uc, .string z] := by
            rw [cellsQ_cons, (unhide HXY).1, (unhide HXY).2.1, (unhide HXY).2.2]; rfl
          rw [e]; exact own)
      have OW := hide R6.own
      clear R6 B6 O6
      go_wp2_with (at_builtin; refine wpList_append_own _ rfl _ _ 46 rfl W0.heap.size 56 i0 (.agg #[.string ByteArray.empty, .string ByteArray.empty, .slice none 0 0, .string ByteArray.empty]) 4 72 Tryd.underlying46 hi hz0 hz1 hz2 rfl (by decide) _ l.length (cellsQ l) rfl ((unhide OW).alloc _) _ 1 1 _ rfl rfl (cell_four_new _ _ _ _ _ _) (by simp [Value.oneCell']) b3 b4 (by simp; omega) ?_; intro vv w8 own8 grow8 _; obtain ⟨R8, B8⟩ := unhide HAP w8 vv grow8 own8; have RR8 := hide R8; have BB8 := hide B8; clear R8 B8 own8 grow8)
      refine ⟨⟨r, l ++ [((a, b, fs, q), .slice uo fs.length uc)], rfl, ?_, ?_, unhide RR8, unhide BB8⟩, ?_⟩
      · rw [(unhide HRD).2, List.length_append]; simp; omega
      · rw [unhide HA, (unhide HRD).1]; simp
      · simp only [strSize]; rw [(unhide HRD).2]; omega
end Go.Proofs.YtjpclmkekmkddaaDoor

namespace Go.Proofs.YtjpclmkekmkddaaDoor
open Go.RowKit Kb
set_option linter.unusedVariables false
set_option maxRecDepth 20000
open Mh (Fl)
def RX (w : World) (base g : Nat) (a : ByteArray) (x : Int) : Prop := w.ownsRow base 45 2 (.slice (some ⟨g, 0, none⟩) 1 1) 1 [.string a, .int .i64 x]
section
variable {w w' : World} {base g : Nat} {a : ByteArray} {x : Int}
theorem RX.cells (h : RX w base g a x) : w.cell? ⟨g, 0, none⟩ = some (.string a) ∧ w.cell? ⟨g, 1, none⟩ = some (.int .i64 x) :=
  ⟨World.ownsRow.cellAt h 0 (by omega), World.ownsRow.cellAt h 1 (by omega)⟩
theorem RX.frozen (h : RX w base g a x) : w.frozen? ⟨g, 0, none⟩ = false ∧ w.frozen? ⟨g, 1, none⟩ = false :=
  ⟨World.ownsRow.frozenAt h 0, World.ownsRow.frozenAt h 1⟩
theorem RX.lt (h : RX w base g a x) : base ≤ g ∧ g < w.heap.size := World.ownsRow.lt h g rfl
theorem RX.below (h : RX w base g a x) (b' : Below w.heap.size w w') : RX w' base g a x := own_below h b'
theorem RX.kept (h : RX w base g a x) {row : Option Nat} (k : w.grownBy w' row) (hne : row ≠ some g) : RX w' base g a x := World.ownsRow.kept h k (.inr (fun e => hne (by rw [← e]; rfl)))
theorem RX.new (W : World) (hB : base ≤ W.heap.size) (a : ByteArray) (x : Int) : RX (W.alloc (.cells #[.string a, .int .i64 x] 45)) base W.heap.size a x :=
  World.ownsRow_lit (e := 45) (size := 2) (base := base) W #[.string a, .int .i64 x] 1 hB (by unfold maxLen; omega) rfl
end
def putR (w : World) (g : Nat) (a : ByteArray) (x : Int) : World := (w.setCell ⟨g, 0, none⟩ (.string a)).setCell ⟨g, 1, none⟩ (.int .i64 x)
theorem RX.put {w : World} {base g : Nat} {a : ByteArray} {x : Int} (h : RX w base g a x) (a' : ByteArray) (x' : Int) : RX (putR w g a' x') base g a' x' ∧ w.grownBy (putR w g a' x') (some g) := by
  obtain ⟨v0, m0⟩ := World.ownsRow.stored h 0 (.string a')
  obtain ⟨v1, m1⟩ := v0.stored 1 (.int .i64 x')
  exact ⟨v1, m0.trans m1⟩
theorem RX.load {w : World} {base g : Nat} {a : ByteArray} {x : Int} (h : RX w base g a x) : (loadVar 45 ⟨g, 0, none⟩).run Tryd.prog w = .ok (.agg #[.string a, .int .i64 x]) w := by
  obtain ⟨fr, hh⟩ := own_one' h
  exact run_loadVar_row w g 45 45 #[.string a, .int .i64 x] fr _ hh Tryd.underlying45 rfl (by kernel_rfl)
theorem Reqs.kept {w w' : World} {B : Nat} {V : Value} {l : List RV} {row : Option Nat} (h : Reqs w B V l) (g : w.grownBy w' row) (hne : ∀ q, row = some q → q < B) : Reqs w' B V l :=
  ⟨h.own.kept g (by
    by_cases e : V.ownBlock = row
    · cases hr : row with
      | none => rw [hr] at e; exact .inl e
      | some q => have h1 := hne q hr; rw [hr] at e; have h2 := (h.own.lt q e).1; omega
    · exact .inr e),
   fun p hp => ⟨(h.rows p hp).1.kept g (by
    by_cases e : p.2.ownBlock = row
    · cases hr : row with
      | none => rw [hr] at e; exact .inl e
      | some q => have h1 := hne q hr; rw [hr] at e; have h2 := ((h.rows p hp).1.lt q e).1; omega
    · exact .inr e), (h.rows p hp).2⟩⟩
theorem reader_any (a : ByteArray) (x : Int) (w : World) (hs : a.size ≤ 281474976710656) :
    Calls Tryd.prog 27 #[.string a, .int .i64 x] w fun e w' => e = .returned (.agg #[.string a, .int .i64 x]) ∧ Below w.heap.size w w' := by
  have HC := hide (fun W => clone_any a W hs)
  have X0 := hide (RX.new (base := w.heap.size) w (Nat.le_refl _) ⟨#[]⟩ 0)
  have b0 := hide ((Below.refl w.heap.size w).alloc (Nat.le_refl _) (.cells #[.string ⟨#[]⟩, .int .i64 0] 45))
  obtain ⟨W0, hW0⟩ : ∃ W, w.alloc (.cells #[.string ⟨#[]⟩, .int .i64 0] 45) = W := ⟨_, rfl⟩
  rw [hW0] at X0 b0
  go_enter Tryd.func27, Tryd.ntmps27
  go_wp2_with fail
  clear hW0
  refine ((unhide HC) W0).mono ?_; rintro e w1 ⟨rfl, b1⟩
  have X1 := (unhide X0).below b1
  have B1 := bel_trans (unhide b0) b1
  obtain ⟨y0, y1⟩ := X1.cells
  obtain ⟨f0, f1⟩ := X1.frozen
  obtain ⟨p, g⟩ := X1.put a x
  have L := hide p.load
  have HB := hide (B1.grown g B1.size (fun q hq => by have := Option.some.inj hq; omega))
  clear b1 X1 B1 p g X0 b0
  go_wp2_with fail
  (try simp only [Exit.inBlock, Exit.then])
  refine bodyPost_ret_by (v := .agg #[.string a, .int .i64 x]) ?_ rfl ⟨rfl, unhide HB⟩
  refine results_c1 (p := 4) (ty := 45) ?_ _ _ w.heap.size _ ?_ (unhide L) <;> rfl
namespace On
def chkF (hd bd ar : Int) (rest over s : Int) : Int := if bnd hd bd ar ≠ 0 then bnd hd bd ar else if 65536 < rest ∨ 8192 < s then 2 else if over ≠ 0 then 8 else 0
theorem feed_chk (hd bd ar : Int) (rest : L8) (over : Int) (s : L8) : feed hd bd ar rest over s = if chkF hd bd ar rest.length over s.length ≠ 0 then ((rest, over), [], chkF hd bd ar rest.length over s.length) else if (all hd.toNat bd (rest ++ s)).2.2 = 7 then (((all hd.toNat bd (rest ++ s)).2.1, 0), (all hd.toNat bd (rest ++ s)).1, 0)
    else (([], (all hd.toNat bd (rest ++ s)).2.2), (all hd.toNat bd (rest ++ s)).1, (all hd.toNat bd (rest ++ s)).2.2) := by
  unfold feed chkF
  by_cases h1 : bnd hd bd ar ≠ 0
  · rw [if_pos h1, if_pos h1, if_pos h1]
  · rw [if_neg h1, if_neg h1]
    by_cases h2 : 65536 < rest.length ∨ 8192 < s.length
    · have h2' : (65536 : Int) < rest.length ∨ (8192 : Int) < s.length := by omega
      rw [if_pos h2, if_pos h2', if_pos (show (2 : Int) ≠ 0 by decide)]
    · have h2' : ¬ ((65536 : Int) < rest.length ∨ (8192 : Int) < s.length) := by omega
      rw [if_neg h2, if_neg h2']
      by_cases h3 : over ≠ 0
      · rw [if_pos h3, if_pos h3, if_pos (show (8 : Int) ≠ 0 by decide)]
      · rw [if_neg h3, if_neg h3, if_neg (show ¬ (0 : Int) ≠ 0 by decide)]
theorem chkF_ok {hd bd ar rest over s : Int} (h : chkF hd bd ar rest over s = 0) : bnd hd bd ar = 0 ∧ rest ≤ 65536 ∧ s ≤ 8192 ∧ over = 0 := by
  unfold chkF at h
  split at h
  · rename_i h1; exact absurd h h1
  · rename_i h1
    split at h
    · cases h
    · rename_i h2
      split at h
      · cases h
      · rename_i h3
        exact ⟨by simpa using h1, by omega, by omega, by simpa using h3⟩
end On
theorem checkFeed_any (rest : ByteArray) (over hd bd ar : Int) (s : ByteArray) (w : World) :
    Calls Tryd.prog 26 #[.agg #[.string rest, .int .i64 over], bndV hd bd ar, .string s] w fun e w' => e = .returned (.int .i64 (On.chkF hd bd ar rest.size over s.size)) ∧ Below w.heap.size w w' := by
  have HC := hide (fun W => check1_any hd bd ar W)
  unfold bndV at HC ⊢
  unfold On.chkF
  obtain ⟨c, hc⟩ : ∃ c, On.bnd hd bd ar = c := ⟨_, rfl⟩
  rw [hc] at HC ⊢
  clear hc
  obtain ⟨r, hr⟩ : ∃ r : Int, (if c ≠ 0 then c else if (65536 : Int) < rest.size ∨ (8192 : Int) < s.size then 2 else if over ≠ 0 then 8 else 0) = r := ⟨_, rfl⟩
  rw [hr]
  have HR := hide hr
  clear hr
  have X1 := RX.new (base := w.heap.size) w (Nat.le_refl _) rest over
  have b1 := (Below.refl w.heap.size w).alloc (Nat.le_refl _) (.cells #[.string rest, .int .i64 over] 45)
  obtain ⟨W1, hW1⟩ : ∃ W, w.alloc (.cells #[.string rest, .int .i64 over] 45) = W := ⟨_, rfl⟩
  rw [hW1] at X1 b1
  obtain ⟨z0, z1, z2⟩ := three_newF W1 (.int .i64 hd) (.int .i64 bd) (.int .i64 ar) 42
  have b2 := (Below.refl W1.heap.size W1).alloc (Nat.le_refl _) (.cells #[.int .i64 hd, .int .i64 bd, .int .i64 ar] 42)
  obtain ⟨g2, hg2⟩ : ∃ g, W1.heap.size = g := ⟨_, rfl⟩
  obtain ⟨W2, hW2⟩ : ∃ W, W1.alloc (.cells #[.int .i64 hd, .int .i64 bd, .int .i64 ar] 42) = W := ⟨_, rfl⟩
  have X2 := hide (X1.below b2)
  rw [hW2] at b2 X2 z0 z1 z2
  rw [hg2] at z0 z1 z2
  have B2 := hide (bel_trans b1 b2)
  clear b1 b2 X1
  go_enter Tryd.func26, Tryd.ntmps26
  go_wp2_with fail
  clear hW1 hW2 hg2
  refine ((unhide HC) W2).mono ?_; rintro e w3 ⟨rfl, b3⟩
  have B3 := hide (bel_trans (unhide B2) b3)
  obtain ⟨y0, y1⟩ := ((unhide X2).below b3).cells
  clear b3 X2 B2 z0 z1 z2 HC
  by_cases h1 : c = 0
  case neg =>
    have HE : Hid (r = c) := hide (by rw [← unhide HR, if_pos h1])
    have hc0 : (c != 0) = true := by simpa using h1
    go_wp2_with fail
    go_ret
    exact ⟨by rw [unhide HE]; rfl, unhide B3⟩
  subst h1
  by_cases h2 : (65536 : Int) < rest.size
  · have HE : Hid (r = 2) := hide (by rw [← unhide HR, if_neg (by simp), if_pos (.inl h2)])
    go_wp2_with fail
    go_ret
    exact ⟨by rw [unhide HE]; rfl, unhide B3⟩
  by_cases h3 : (8192 : Int) < s.size
  · have HE : Hid (r = 2) := hide (by rw [← unhide HR, if_neg (by simp), if_pos (.inr h3)])
    go_wp2_with fail
    go_ret
    exact ⟨by rw [unhide HE]; rfl, unhide B3⟩
  have h23 : ¬ ((65536 : Int) < rest.size ∨ (8192 : Int) < s.size) := by omega
  by_cases h4 : over = 0
  · have HE : Hid (r = 0) := hide (by rw [← unhide HR, if_neg (by simp), if_neg h23, if_neg (by simpa using h4)])
    subst h4
    clear h23
    go_wp2_with fail
    go_ret
    exact ⟨by rw [unhide HE]; rfl, unhide B3⟩
  · have HE : Hid (r = 8) := hide (by rw [← unhide HR, if_neg (by simp), if_neg h23, if_pos h4])
    have ho : (over != 0) = true := by simpa using h4
    clear h23
    go_wp2_with fail
    go_ret
    exact ⟨by rw [unhide HE]; rfl, unhide B3⟩
/-- a reader's variable, bounds, and the result's variable -/
structure FB (N : Nat) (w : World) (rest : ByteArray) (over hd bd ar : Int) (W : World) : Prop where
  made ::
  rx : W.cell? ⟨N, 0, none⟩ = some (.string rest) ∧ W.cell? ⟨N, 1, none⟩ = some (.int .i64 over)
  bx : W.cell? ⟨N + 1, 0, none⟩ = some (.int .i64 hd) ∧ W.cell? ⟨N + 1, 1, none⟩ = some (.int .i64 bd) ∧ W.cell? ⟨N + 1, 2, none⟩ = some (.int .i64 ar)
  vx : ∃ a x, RX W N (N + 2) a x
  size : w.heap.size = N
  bel : Below N w W
theorem FB.new (w : World) (rest : ByteArray) (over hd bd ar : Int) : FB w.heap.size w rest over hd bd ar (((w.alloc (.cells #[.string rest, .int .i64 over] 45)).alloc (.cells #[.int .i64 hd, .int .i64 bd, .int .i64 ar] 42)).alloc (.cells #[.string ⟨#[]⟩, .int .i64 0] 45)) := by
  have X1 := RX.new (base := w.heap.size) w (Nat.le_refl _) rest over
  have b1 := (Below.refl w.heap.size w).alloc (Nat.le_refl _) (.cells #[.string rest, .int .i64 over] 45)
  obtain ⟨W1, hW1⟩ : ∃ W, w.alloc (.cells #[.string rest, .int .i64 over] 45) = W := ⟨_, rfl⟩
  have hs1 : W1.heap.size = w.heap.size + 1 := by rw [← hW1]; simp
  rw [hW1] at X1 b1 ⊢
  obtain ⟨z0, z1, z2⟩ := three_newF W1 (.int .i64 hd) (.int .i64 bd) (.int .i64 ar) 42
  have b2 := (Below.refl W1.heap.size W1).alloc (Nat.le_refl _) (.cells #[.int .i64 hd, .int .i64 bd, .int .i64 ar] 42)
  obtain ⟨W2, hW2⟩ : ∃ W, W1.alloc (.cells #[.int .i64 hd, .int .i64 bd, .int .i64 ar] 42) = W := ⟨_, rfl⟩
  have hs2 : W2.heap.size = w.heap.size + 2 := by rw [← hW2]; simp; omega
  have X2 := X1.below b2
  rw [hW2] at b2 X2 z0 z1 z2 ⊢
  rw [hs1] at z0 z1 z2
  have X3 := RX.new (base := w.heap.size) W2 (by omega) ⟨#[]⟩ 0
  have b3 := (Below.refl W2.heap.size W2).alloc (Nat.le_refl _) (.cells #[.string ⟨#[]⟩, .int .i64 0] 45)
  rw [hs2] at X3
  have hl : w.heap.size + 1 < W2.heap.size := by omega
  exact ⟨(X2.below b3).cells, ⟨cell_below z0 hl b3, cell_below z1 hl b3, cell_below z2 hl b3⟩, ⟨_, _, X3⟩, rfl, bel_trans b1 (bel_trans b2 b3)⟩
theorem FB.below {N : Nat} {w W W' : World} {rest : ByteArray} {over hd bd ar : Int} (h : FB N w rest over hd bd ar W) (b : Below W.heap.size W W') : FB N w rest over hd bd ar W' := by
  obtain ⟨⟨r0, r1⟩, ⟨h0, h1, h2⟩, ⟨a, x, hx⟩, hs, hb⟩ := h
  have hl : N + 1 < W.heap.size := by have := hx.lt.2; omega
  have hl0 : N < W.heap.size := by omega
  exact ⟨⟨cell_below r0 hl0 b, cell_below r1 hl0 b⟩, ⟨cell_below h0 hl b, cell_below h1 hl b, cell_below h2 hl b⟩, ⟨a, x, hx.below b⟩, hs, by rw [← hs] at hb ⊢; exact bel_trans hb b⟩
theorem FB.var {N : Nat} {w W : World} {rest : ByteArray} {over hd bd ar : Int} (h : FB N w rest over hd bd ar W) : (∃ a x, W.cell? ⟨N + 2, 0, none⟩ = some (.string a) ∧ W.cell? ⟨N + 2, 1, none⟩ = some (.int .i64 x)) ∧ W.frozen? ⟨N + 2, 0, none⟩ = false ∧ W.frozen? ⟨N + 2, 1, none⟩ = false := by
  obtain ⟨_, _, ⟨a, x, hx⟩, _, _⟩ := h
  exact ⟨⟨a, x, hx.cells⟩, hx.frozen⟩
theorem FB.put {N : Nat} {w W : World} {rest : ByteArray} {over hd bd ar : Int} (h : FB N w rest over hd bd ar W) (a : ByteArray) (x : Int) :
    (loadVar 45 ⟨N + 2, 0, none⟩).run Tryd.prog (putR W (N + 2) a x) = .ok (.agg #[.string a, .int .i64 x]) (putR W (N + 2) a x)
    ∧ Below N w (putR W (N + 2) a x) ∧ ∀ (B : Nat) (V : Value) (l : List RV), N + 3 ≤ B → Reqs W B V l → Reqs (putR W (N + 2) a x) B V l := by
  obtain ⟨_, _, ⟨a', x', hx⟩, hs, hb⟩ := h
  obtain ⟨p, g⟩ := hx.put a x
  exact ⟨p.load, hb.grown g (by rw [← hs]; exact hb.size) (fun q hq => by have := Option.some.inj hq; omega), fun B V l hB hR => hR.kept g (fun q hq => by have := Option.some.inj hq; omega)⟩
set_option maxHeartbeats 8000000 in
theorem feed_any (rest : ByteArray) (over hd bd ar : Int) (s : ByteArray) (m : Int) (w : World) (hr : rest.size + s.size ≤ 16777216) (hm : MH m w) (o : (List UInt8 × Int) × List On.Rq × Int) (ho : On.feed hd bd ar rest.data.toList over s.data.toList = o) :
    Calls Tryd.prog 11 #[.agg #[.string rest, .int .i64 over], bndV hd bd ar, .string s] w fun e w' => ∃ V l, e = .returned (.tuple #[.agg #[.string (mk o.1.1), .int .i64 o.1.2], V, .int .i64 o.2.2]) ∧ l.map Prod.fst = o.2.1 ∧ Reqs w' w.heap.size V l ∧ l.length ≤ 16777216 ∧ Below w.heap.size w w' := by
  have HC := hide (fun W => checkFeed_any rest over hd bd ar s W)
  have HRD := hide (fun (a : ByteArray) (x : Int) (h : a.size ≤ 281474976710656) W => reader_any a x W h)
  have HTA := hide (fun (h : On.bnd hd bd ar = 0) W (hW : MH m W) => takeAll_any (rest ++ s) hd bd ar m W (by rw [ByteArray.size_append]; omega) hW h)
  rw [cat_data] at HTA
  rw [On.feed_chk, len_data, len_data] at ho
  unfold bndV at HC HTA ⊢
  have H0 := hide (FB.new w rest over hd bd ar)
  obtain ⟨W0, hW0⟩ : ∃ W, ((w.alloc (.cells #[.string rest, .int .i64 over] 45)).alloc (.cells #[.int .i64 hd, .int .i64 bd, .int .i64 ar] 42)).alloc (.cells #[.string ⟨#[]⟩, .int .i64 0] 45) = W := ⟨_, rfl⟩
  rw [hW0] at H0
  have HM0 := hide (hm.below (unhide H0).bel)
  have hN : w.heap.size + 3 = W0.heap.size := by rw [← hW0]; simp
  obtain ⟨r0, r1⟩ := (unhide H0).rx
  obtain ⟨z0, z1, z2⟩ := (unhide H0).bx
  obtain ⟨c, hc⟩ : ∃ c, On.chkF hd bd ar rest.size over s.size = c := ⟨_, rfl⟩
  have hck : c = 0 → On.bnd hd bd ar = 0 := fun h => (On.chkF_ok (hc.trans h)).1
  rw [hc] at HC ho
  have HCK := hide hck
  have HO := hide ho
  clear hm hc hck ho
  go_enter Tryd.func11, Tryd.ntmps11
  go_wp2_with fail
  clear hW0
  refine ((unhide HC) W0).mono ?_; rintro e w1 ⟨rfl, b1⟩
  have H1 := hide ((unhide H0).below b1)
  have HM1 := hide ((unhide HM0).below b1)
  have hs1 := b1.size
  clear b1 H0 HM0 HC r0 r1 z0 z1 z2
  obtain ⟨r0, r1⟩ := (unhide H1).rx
  obtain ⟨z0, z1, z2⟩ := (unhide H1).bx
  by_cases h0 : c = 0
  case neg =>
    have HE : Hid (o = ((rest.data.toList, over), [], c)) := hide (by rw [← unhide HO]; exact if_pos h0)
    have hc0 : (c != 0) = true := by simpa using h0
    have HR1 := hide ((unhide HRD) rest over (by omega))
    clear HO HTA HCK HRD h0
    go_wp2_with fail
    refine ((unhide HR1) w1).mono ?_; rintro e w2 ⟨rfl, b2⟩
    have H2 := (unhide H1).below b2
    obtain ⟨⟨_, _, y0, y1⟩, f0, f1⟩ := H2.var
    obtain ⟨l1, l2, _⟩ := H2.put rest over
    have L1 := hide l1
    have L2 := hide l2
    clear b2 H1 H2 HM1 l1 l2 HR1 r0 r1 z0 z1 z2
    go_wp2_with fail
    (try simp only [Exit.inBlock, Exit.then])
    refine bodyPost_ret_by (v := .tuple #[.agg #[.string rest, .int .i64 over], .slice none 0 0, .int .i64 c]) ?_ rfl ⟨.slice none 0 0, [], by rw [unhide HE]; simp [mk], by rw [unhide HE]; rfl, Reqs.nil _ _, by simp, unhide L2⟩
    refine results_ctt9 (p := 6) (u := 7) (u' := 8) (ty := 45) ?_ _ _ (w.heap.size + 2) _ ?_ (unhide L1) _ ?_ _ ?_ <;> rfl
  have HTB := hide ((unhide HTA) ((unhide HCK) h0))
  obtain ⟨A, hA⟩ : ∃ A, On.all hd.toNat bd (rest.data.toList ++ s.data.toList) = A := ⟨_, rfl⟩
  have hAl := On.all_len (hd := hd.toNat) (bd := bd) ((On.bnd_ok ((unhide HCK) h0)).2.1.1) (rest.data.toList ++ s.data.toList)
  rw [List.length_append, len_data, len_data, hA] at hAl
  have HO2 := unhide HO
  rw [if_neg (by simpa using h0), hA] at HO2
  rw [hA] at HTB
  subst h0
  clear HO HTA HCK
  have HO3 := hide HO2
  clear HO2 hA
  have hcb : ((rest.size : Int) + s.size ≤ 16777216) := by omega
  go_wp2_with fail
  refine ((unhide HTB) w1 (unhide HM1)).mono ?_; rintro e w2 ⟨V, l, rfl, hl1, hR, hl2, b2⟩
  obtain ⟨vo, vc, rfl⟩ := own_forms hR.own
  have H2 := hide ((unhide H1).below b2)
  have R2 := hide hR
  have HL := hide hl1
  have hl3 : l.length ≤ 16777216 := by rw [ByteArray.size_append] at hl2; omega
  have hs2 := b2.size
  clear b2 hR hl1 hl2 H1 HM1 HTB r0 r1 z0 z1 z2
  obtain ⟨q, hq⟩ : ∃ q, mk A.2.1 = q := ⟨_, rfl⟩
  have hqs : q.size ≤ 16777216 := by rw [← hq, mk_size]; omega
  rw [hq]
  by_cases h7 : A.2.2 = 7
  · have HE : Hid (o.1.1 = A.2.1 ∧ o.1.2 = 0 ∧ o.2.1 = A.1 ∧ o.2.2 = 0) := hide (by rw [← unhide HO3, if_pos h7]; exact ⟨rfl, rfl, rfl, rfl⟩)
    have HR1 := hide ((unhide HRD) q 0 (by omega))
    rw [h7]
    have HQ := hide hq
    clear HO3 HRD h7 hq
    go_wp2_with fail
    refine ((unhide HR1) w2).mono ?_; rintro e w3 ⟨rfl, b3⟩
    have H3 := (unhide H2).below b3
    have R3 := (unhide R2).below b3
    obtain ⟨⟨_, _, y0, y1⟩, f0, f1⟩ := H3.var
    obtain ⟨l1, l2, l3⟩ := H3.put q 0
    have L1 := hide l1
    have L2 := hide l2
    have L3 := hide ((l3 _ _ _ (by omega) R3).mono (show w.heap.size ≤ w1.heap.size by omega))
    clear b3 H2 H3 R2 R3 l1 l2 l3 HR1
    go_wp2_with fail
    (try simp only [Exit.inBlock, Exit.then])
    refine bodyPost_ret_by (v := .tuple #[.agg #[.string q, .int .i64 0], .slice vo l.length vc, .int .i64 0]) ?_ rfl ⟨.slice vo l.length vc, l, by rw [(unhide HE).1, (unhide HE).2.1, (unhide HE).2.2.2, unhide HQ], by rw [(unhide HE).2.2.1]; exact unhide HL, unhide L3, hl3, unhide L2⟩
    refine results_ctt9 (p := 6) (u := 7) (u' := 8) (ty := 45) ?_ _ _ (w.heap.size + 2) _ ?_ (unhide L1) _ ?_ _ ?_ <;> rfl
  · have HE : Hid (o.1.1 = [] ∧ o.1.2 = A.2.2 ∧ o.2.1 = A.1 ∧ o.2.2 = A.2.2) := hide (by rw [← unhide HO3, if_neg h7]; exact ⟨rfl, rfl, rfl, rfl⟩)
    obtain ⟨e, he⟩ : ∃ e, A.2.2 = e := ⟨_, rfl⟩
    rw [he] at h7 HE ⊢
    have HR1 := hide ((unhide HRD) ⟨#[]⟩ e (by decide))
    have he7 : (e != 7) = true := by simpa using h7
    clear HO3 HRD h7 hq he
    go_wp2_with fail
    refine ((unhide HR1) w2).mono ?_; rintro e w3 ⟨rfl, b3⟩
    have H3 := (unhide H2).below b3
    have R3 := (unhide R2).below b3
    obtain ⟨⟨_, _, y0, y1⟩, f0, f1⟩ := H3.var
    obtain ⟨l1, l2, l3⟩ := H3.put ⟨#[]⟩ e
    have L1 := hide l1
    have L2 := hide l2
    have L3 := hide ((l3 _ _ _ (by omega) R3).mono (show w.heap.size ≤ w1.heap.size by omega))
    clear b3 H2 H3 R2 R3 l1 l2 l3 HR1
    go_wp2_with fail
    (try simp only [Exit.inBlock, Exit.then])
    refine bodyPost_ret_by (v := .tuple #[.agg #[.string ⟨#[]⟩, .int .i64 e], .slice vo l.length vc, .int .i64 e]) ?_ rfl ⟨.slice vo l.length vc, l, by rw [(unhide HE).1, (unhide HE).2.1, (unhide HE).2.2.2]; rfl, by rw [(unhide HE).2.2.1]; exact unhide HL, unhide L3, hl3, unhide L2⟩
    refine results_ctt9 (p := 6) (u := 7) (u' := 8) (ty := 45) ?_ _ _ (w.heap.size + 2) _ ?_ (unhide L1) _ ?_ _ ?_ <;> rfl
end Go.Proofs.YtjpclmkekmkddaaDoor
