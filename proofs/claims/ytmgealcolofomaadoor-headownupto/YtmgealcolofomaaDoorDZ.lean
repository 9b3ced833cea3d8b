/- Walk: what is wrong with a request that is to be handed on (the program's). -/
import Derived.Test.YtmgealcolofomaaDoorDX
import Derived.Test.YtmgealcolofomaaDoorTh
import Derived.Test.YtmgealcolofomaaDoorUk
import Derived.Test.YtmgealcolofomaaDoorMf
import Derived.Lib.ItoaLen
import Derived.Lib.AppendIntMem
import Derived.Maps.AppendAt
import Derived.Deep.RegionLaw
import Derived.BigRegion
import Derived.Laws.AppendOwnNone
import Derived.Laws.MakeOwn
import Derived.Laws.OwnMore
import Derived.BigQuiet
namespace Go.Proofs.YtmgealcolofomaaDoor
open Go.RowKit Kb
set_option linter.unusedVariables false
set_option maxRecDepth 20000
open Mh (Fl)

set_option maxHeartbeats 8000000 in
theorem scheck_any (m t : List UInt8) (u : Value) (fs : List Fl) (d : ByteArray) (w : World) (hu : Flds w u fs) (hn : fs.length ≤ 1048576) (hmt : m.length + t.length ≤ 1048576) (hb : d.size ≤ 1048576) (hfs : ∀ f ∈ fs, f.1.length + f.2.length ≤ 1048576) (z : Int) (hz : Se.wrong m t fs d.data.toList = z) (r : Int × Int × Int) (hr : Cu.sizeOf fs = r) :
    Calls Tryd.prog 21 #[.agg #[.string (mk m), .string (mk t), u, .string d]] w fun e w' => e = .returned (.tuple #[.agg #[.int .i64 (if z = 0 then r.1 else 0), .int .i64 (if z = 0 then r.2.1 else 0)], .int .i64 z]) ∧ Below w.heap.size w w' := by
  have HC := hide (fun W (h : Below w.heap.size w W) => hcheck_any m t u fs W (hu.below h) (by omega) (fun f hf => by have := hfs f hf; omega))
  have HO := hide (fun W (h : Below w.heap.size w W) => of_any m t u fs W (hu.below h) (fun f hf => by have := hfs f hf; omega) (by omega) r hr)
  unfold Se.wrong at hz
  rw [hr] at hz
  unfold headV at HC HO
  obtain ⟨o, c, rfl, hc⟩ := hu.form
  obtain ⟨x, hx⟩ : ∃ x, mk m = x := ⟨_, rfl⟩
  obtain ⟨y, hy⟩ : ∃ y, mk t = y := ⟨_, rfl⟩
  rw [hx, hy] at HC HO ⊢
  obtain ⟨r1, r2, r3⟩ := r
  dsimp only at hz HO ⊢
  obtain ⟨k, hk⟩ : ∃ k, Mh.check m t fs = k := ⟨_, rfl⟩
  rw [hk] at HC hz
  have HZ := hide hz
  obtain ⟨V, hV⟩ : ∃ V, Value.tuple #[.agg #[.int .i64 (if z = 0 then r1 else 0), .int .i64 (if z = 0 then r2 else 0)], .int .i64 z] = V := ⟨_, rfl⟩
  rw [hV]
  have HV := hide hV
  clear hx hy hu hfs hz hk hr hV
  have X1 := QX.new (base := w.heap.size) w (Nat.le_refl _) x y o fs.length c d
  have bb1 := (Below.refl w.heap.size w).alloc (Nat.le_refl _) (.cells #[.string x, .string y, .slice o fs.length c, .string d] 26)
  have hs1 : (w.alloc (.cells #[.string x, .string y, .slice o fs.length c, .string d] 26)).heap.size = w.heap.size + 1 := by simp
  obtain ⟨W1, hW1⟩ : ∃ W, w.alloc (.cells #[.string x, .string y, .slice o fs.length c, .string d] 26) = W := ⟨_, rfl⟩
  rw [hW1] at X1 bb1 hs1
  have X2 := BX.new (base := W1.heap.size) W1 (Nat.le_refl _) 0 0
  have bb2 := (Below.refl W1.heap.size W1).alloc (Nat.le_refl _) (.cells #[.int .i64 0, .int .i64 0] 52)
  obtain ⟨W2, hW2⟩ : ∃ W, W1.alloc (.cells #[.int .i64 0, .int .i64 0] 52) = W := ⟨_, rfl⟩
  have Y1 := X1.below bb2
  rw [hW2] at X2 bb2 Y1
  have B2 := hide (bel_trans bb1 bb2)
  rw [hs1] at X2
  have HBOX := hide (fun W (h : Below W2.heap.size W2 W) => (⟨(Y1.below h).cells, (X2.below h).cells, (X2.below h).frozen, (X2.below h).lt.2⟩ : (_ ∧ _ ∧ _ ∧ _) ∧ (_ ∧ _) ∧ (_ ∧ _) ∧ _))
  have HRS := hide (fun W (h : Below W2.heap.size W2 W) (p q : Int) => (⟨((X2.below h).loaded p q), (bel_trans (unhide B2) h).grown ((X2.below h).put p q).2 (bel_trans (unhide B2) h).size (fun q hq => by have := Option.some.inj hq; omega)⟩ : _ ∧ Below w.heap.size w _))
  obtain ⟨⟨a0, a1, a2, a3⟩, ⟨b0, b1⟩, ⟨f0, f1⟩, hl2⟩ := (unhide HBOX) W2 (Below.refl _ _)
  clear X1 X2 Y1 bb1 bb2
  go_enter Tryd.func21, Tryd.ntmps21
  go_wp2_with fail
  clear hW1 hW2 a0 a1 a2 a3 b0 b1 f0 f1 hl2
  refine ((unhide HC) W2 (unhide B2)).mono ?_; rintro e w3 ⟨rfl, b3⟩
  have B3 := hide b3
  obtain ⟨⟨a0, a1, a2, a3⟩, ⟨b0, b1⟩, ⟨f0, f1⟩, hl3⟩ := (unhide HBOX) w3 b3
  clear b3 HC
  by_cases hk0 : k = 0
  case neg =>
    have hkb : (k != 0) = true := by simpa using hk0
    have HE : Hid (V = .tuple #[.agg #[.int .i64 0, .int .i64 0], .int .i64 k]) := hide (by
      have := unhide HZ; rw [if_pos hk0] at this; rw [← unhide HV, ← this, if_neg hk0, if_neg hk0])
    have P1 := hide ((unhide HRS) w3 (unhide B3) 0 0)
    clear HZ HV HBOX HRS hk0
    go_wp2_with fail
    (try simp only [Exit.inBlock, Exit.then])
    refine bodyPost_ret_by (v := .tuple #[.agg #[.int .i64 0, .int .i64 0], .int .i64 k]) ?_ rfl ⟨by rw [unhide HE], (unhide P1).2⟩
    refine results_cb (p := 2) (u := 3) (ty := 52) ?_ _ _ (w.heap.size + 1) _ ?_ (unhide P1).1 _ ?_ <;> rfl
  subst hk0
  go_wp2_with fail
  refine ((unhide HO) w3 (bel_trans (unhide B2) (unhide B3))).mono ?_; rintro e w4 ⟨rfl, b4⟩
  have X5 := BX.new (base := w4.heap.size) w4 (Nat.le_refl _) r1 r2
  have bb5 := (Below.refl w4.heap.size w4).alloc (Nat.le_refl _) (.cells #[.int .i64 r1, .int .i64 r2] 52)
  obtain ⟨g5, hg5⟩ : ∃ g, w4.heap.size = g := ⟨_, rfl⟩
  obtain ⟨W5, hW5⟩ : ∃ W, w4.alloc (.cells #[.int .i64 r1, .int .i64 r2] 52) = W := ⟨_, rfl⟩
  rw [hW5] at X5 bb5
  rw [hg5] at X5
  have B5 := hide (bel_trans (bel_trans (unhide B3) b4) bb5)
  obtain ⟨c0, c1⟩ := X5.cells
  have hg5l := X5.lt.2
  clear a0 a1 a2 a3 b0 b1 f0 f1 hl3 X5 bb5 b4 HO B3
  obtain ⟨⟨a0, a1, a2, a3⟩, ⟨b0, b1⟩, ⟨f0, f1⟩, hl5⟩ := (unhide HBOX) W5 (unhide B5)
  by_cases hr0 : r3 = 0
  case neg =>
    have hrb : (r3 != 0) = true := by simpa using hr0
    have HE : Hid (V = .tuple #[.agg #[.int .i64 0, .int .i64 0], .int .i64 r3]) := hide (by
      have := unhide HZ; rw [if_neg (by simp), if_pos hr0] at this; rw [← unhide HV, ← this, if_neg hr0, if_neg hr0])
    have P1 := hide ((unhide HRS) W5 (unhide B5) 0 0)
    clear HZ HV HBOX HRS hr0
    go_wp2_with fail
    (try simp only [Exit.inBlock, Exit.then])
    refine bodyPost_ret_by (v := .tuple #[.agg #[.int .i64 0, .int .i64 0], .int .i64 r3]) ?_ rfl ⟨by rw [unhide HE], (unhide P1).2⟩
    refine results_cb (p := 2) (u := 3) (ty := 52) ?_ _ _ (w.heap.size + 1) _ ?_ (unhide P1).1 _ ?_ <;> rfl
  subst hr0
  have hz2 : (if r1 = 1 ∧ d.data.toList ≠ [] then (4 : Int) else if 4096 < d.data.toList.length then 6 else 0) = z := by
    have := unhide HZ; rw [if_neg (by simp), if_neg (by simp)] at this; exact this
  have HZ2 := hide hz2
  clear HZ hz2
  by_cases h4 : r1 = 1 ∧ d.data.toList ≠ []
  case pos =>
    have HE : Hid (V = .tuple #[.agg #[.int .i64 0, .int .i64 0], .int .i64 4]) := hide (by
      have := unhide HZ2; rw [if_pos h4] at this; rw [← unhide HV, ← this, if_neg (by decide), if_neg (by decide)])
    have P1 := hide ((unhide HRS) W5 (unhide B5) 0 0)
    obtain ⟨h41, h42⟩ := h4
    have he1 : d.toList.isEmpty = false := by rw [Lib.toList_data]; simpa using h42
    have he2 : (d.toList == []) = false := by rw [Lib.toList_data]; simpa using h42
    subst h41
    clear HZ2 HV HBOX HRS h42
    go_wp2_with fail
    (try simp only [Exit.inBlock, Exit.then])
    refine bodyPost_ret_by (v := .tuple #[.agg #[.int .i64 0, .int .i64 0], .int .i64 4]) ?_ rfl ⟨by rw [unhide HE], (unhide P1).2⟩
    refine results_cb (p := 2) (u := 3) (ty := 52) ?_ _ _ (w.heap.size + 1) _ ?_ (unhide P1).1 _ ?_ <;> rfl
  have hz3 : (if 4096 < d.size then (6 : Int) else 0) = z := by have := unhide HZ2; rw [if_neg h4, len_data] at this; exact this
  have HZ3 := hide hz3
  clear HZ2 hz3
  have HFIN : Hid (V = if 4096 < d.size then .tuple #[.agg #[.int .i64 0, .int .i64 0], .int .i64 6] else .tuple #[.agg #[.int .i64 r1, .int .i64 r2], .int .i64 0]) := hide (by
    have h := unhide HZ3
    rw [← unhide HV]
    by_cases hq : 4096 < d.size
    · rw [if_pos hq] at h ⊢; subst h; rfl
    · rw [if_neg hq] at h ⊢; subst h; rfl)
  have P0 := hide ((unhide HRS) W5 (unhide B5) 0 0)
  have PR := hide ((unhide HRS) W5 (unhide B5) r1 r2)
  clear HZ3 HV HBOX HRS
  by_cases h1 : r1 = 1
  · have h2 : d.data.toList = [] := Classical.byContradiction fun h => h4 ⟨h1, h⟩
    have he1 : d.toList.isEmpty = true := by rw [Lib.toList_data, h2]; rfl
    have he2 : (d.toList == []) = true := by rw [Lib.toList_data, h2]; rfl
    have hd0 : d.size = 0 := by rw [← len_data, h2]; rfl
    have HE : Hid (V = .tuple #[.agg #[.int .i64 r1, .int .i64 r2], .int .i64 0]) := hide (by rw [unhide HFIN, if_neg (by omega)])
    clear HFIN h4 h2
    subst h1
    go_wp2_with fail
    (try simp only [Exit.inBlock, Exit.then])
    refine bodyPost_ret_by (v := .tuple #[.agg #[.int .i64 1, .int .i64 r2], .int .i64 0]) ?_ rfl ⟨by rw [unhide HE], (unhide PR).2⟩
    refine results_cb (p := 2) (u := 3) (ty := 52) ?_ _ _ (w.heap.size + 1) _ ?_ (unhide PR).1 _ ?_ <;> rfl
  · have h1b : (r1 == 1) = false := by simpa using h1
    clear h4
    by_cases hq : 4096 < d.size
    · have hqI : (4096 : Int) < d.size := by omega
      have HE : Hid (V = .tuple #[.agg #[.int .i64 0, .int .i64 0], .int .i64 6]) := hide (by rw [unhide HFIN, if_pos hq])
      clear HFIN PR
      go_wp2_with fail
      (try simp only [Exit.inBlock, Exit.then])
      refine bodyPost_ret_by (v := .tuple #[.agg #[.int .i64 0, .int .i64 0], .int .i64 6]) ?_ rfl ⟨by rw [unhide HE], (unhide P0).2⟩
      refine results_cb (p := 2) (u := 3) (ty := 52) ?_ _ _ (w.heap.size + 1) _ ?_ (unhide P0).1 _ ?_ <;> rfl
    · have hqI : ¬ (4096 : Int) < d.size := by omega
      have HE : Hid (V = .tuple #[.agg #[.int .i64 r1, .int .i64 r2], .int .i64 0]) := hide (by rw [unhide HFIN, if_neg hq])
      clear HFIN P0
      go_wp2_with fail
      (try simp only [Exit.inBlock, Exit.then])
      refine bodyPost_ret_by (v := .tuple #[.agg #[.int .i64 r1, .int .i64 r2], .int .i64 0]) ?_ rfl ⟨by rw [unhide HE], (unhide PR).2⟩
      refine results_cb (p := 2) (u := 3) (ty := 52) ?_ _ _ (w.heap.size + 1) _ ?_ (unhide PR).1 _ ?_ <;> rfl
end Go.Proofs.YtmgealcolofomaaDoor

/- Walk: a request that is handed on (the program's). -/
namespace Go.Proofs.YtmgealcolofomaaDoor
open Go.RowKit Kb
set_option linter.unusedVariables false
set_option maxRecDepth 20000
open Mh (Fl)

theorem stab_below {w w' : World} {name : String} {k : IntKind} {zs : List Int} (h : Lib.TabIs Tryd.prog w name k zs) (b : Below w.heap.size w w') : Lib.TabIs Tryd.prog w' name k zs := by
  unfold Lib.TabIs at *
  unfold World.var? at *
  cases hg : Tryd.prog.globalNamed name with
  | none => rw [hg] at h; cases h
  | some g =>
    rw [hg, Option.bind_some] at h
    rw [Option.bind_some]
    have hlt : g < w.heap.size := by
      rcases Nat.lt_or_ge g w.heap.size with hl | hl
      · exact hl
      · rw [Array.getElem?_eq_none hl] at h; cases h
    rw [b.block g hlt]; exact h
theorem sitoa_at (k : Int) (w : World) (h0 : 0 ≤ k) (h1 : k < 1000000000000) (ht : Lib.TabIs Tryd.prog w "internal/strconv.uint64pow10" .u64 Lib.pow10Tab) :
    Calls Tryd.prog 22 #[.int .i64 k] w fun e w' => e = .returned (.string ⟨(Lib.itoa k).toArray⟩) ∧ Below w.heap.size w w' := by
  refine (Tryd.strconv_Itoa k (by omega) (by omega) w ht).mono ?_
  rintro e w' ⟨rfl, j, os, rfl⟩
  exact ⟨rfl, Lib.below_grow _ w (Nat.le_refl _) j os⟩
theorem step_append_at {P : Program} {ops : Array Oper} {o : Oper} {a : Act} {w : World} {K : Act → World → Prop} {Q : Exit → Act → World → Prop} {E : Prop}
    (hg : o.guard = none) (s x : Operand) (t : TypeId) (hop : o.op = Op.call { callee := Callee.builtin Builtin.append, args := #[s, x], argTypes := #[t, t] })
    (base : Nat) (e : TypeId) (i : TypeInfo) (z : Value) (size bytes : Nat) (h1 : P.underlying t = some (.slice e)) (h2 : P.info? e = some i) (h3 : i.zero = some z) (h4 : i.size = size) (h5 : i.bytes = bytes) (h6 : z.cells.size = size) (h7 : 0 < size)
    (v : Value) (n : Nat) (xs : List Value) (hs : a.eval s = v) (hown : w.ownsRow base e size v n xs)
    (ad : Addr) (m c : Nat) (news : List Value) (hx : a.eval x = .slice (some ad) m c) (hn : news.length = m * size) (hc : ∀ j u, news[j]? = some u → w.cell? (ad.add j) = some u) (h1c : ∀ u ∈ news, u.oneCell' = true)
    (b1 : n + m ≤ maxLen) (b2 : (n + m) * bytes ≤ 140737488355328) (hb : base ≤ w.heap.size)
    (hK : ∀ v' w', w'.ownsRow base e size v' (n + m) (xs ++ news) → w.grownBy w' v.ownBlock → (v'.ownBlock = v.ownBlock ∨ v'.ownBlock = some w.heap.size) → K (a.put o.dst v') w') :
    if Region.wanted o (yielded ops a.tmps) = true then Oper.wp P o a w K Q else E := by
  have hw : Region.wanted o (yielded ops a.tmps) = true := by simp [Region.wanted, hg]
  rw [if_pos hw]
  obtain ⟨v', w', hrun, r1, r2, _, r3⟩ := run_append_own_at (P := P) w base t o.type e i z size bytes h1 h2 h3 h4 h5 h6 h7 v n xs hown ad m c news hn hc h1c b1 b2 hb
  unfold Oper.wp
  simp [execOp, hop, resolve, invoke, builtin, hs, hx, hrun, Result.andThen]
  exact hK v' w' r1 r2 r3
theorem print_any (m t : List UInt8) (u : Value) (fs : List Fl) (z : Int) (w : World) (hu : Flds w u fs) (hm : m.length + t.length ≤ 68719476736) (hfs : ∀ f ∈ fs, f.1.length + f.2.length ≤ 68719476736) (hz : Mh.check m t fs = z) :
    Calls Tryd.prog 23 #[headV m t u] w fun e w' => e = .returned (.tuple #[.string (mk (if z = 0 then Mh.text m t fs else [])), .int .i64 z]) ∧ Below w.heap.size w w' := by
  by_cases h : z = 0
  · subst h
    rw [if_pos rfl]; exact hprint_ok m t u fs w hu hz
  · rw [if_neg h]; exact hprint_bad m t u fs z w hu hm hfs hz h
theorem out_len {k : Int} {fs : List Fl} {n : Nat} (h : fs.length ≤ 1048576) : (Se.out k fs n).length ≤ 1048577 := by
  have := Se.less_len (Se.own fs) fs
  have h2 : (Se.strip fs).length ≤ 1048576 := Nat.le_trans this h
  unfold Se.out; split
  · omega
  · rw [List.length_append]; simp; omega
theorem out_mem {k : Int} {fs : List Fl} {n : Nat} (hn : n ≤ 4096) (hfs : ∀ f ∈ fs, f.1.length + f.2.length ≤ 1048576) : ∀ f ∈ Se.out k fs n, f.1.length + f.2.length ≤ 1048576 := by
  have h1 : ∀ f ∈ Se.strip fs, f.1.length + f.2.length ≤ 1048576 := fun f hf => hfs f (Se.less_mem hf).1
  have h2 : ∀ f ∈ [Se.size n], f.1.length + f.2.length ≤ 1048576 := fun f hf => by
    simp at hf; subst hf
    have := Se.itoa_len n hn
    have h3 : Cu.nameL.length = 14 := rfl
    show Cu.nameL.length + (Lib.itoa (n : Int)).length ≤ _
    omega
  unfold Se.out; split
  · exact h1
  · intro f hf
    rcases List.mem_append.1 hf with hf | hf
    · exact h1 f hf
    · exact h2 f hf
theorem size_cells (sf : List Fl) (n : Nat) (q : ByteArray) (h : q.data.toList = Lib.itoa (n : Int)) : cellsF (sf ++ [Se.size n]) = cellsF sf ++ [.string ⟨#[67, 111, 110, 116, 101, 110, 116, 45, 76, 101, 110, 103, 116, 104]⟩, .string q] := by
  rw [cellsF_append]
  show cellsF sf ++ [Value.string (mk Cu.nameL), Value.string (mk (Lib.itoa (n : Int)))] = _
  rw [← h, mk_data]; rfl
theorem size_own {w : World} {B : Nat} {v : Value} {sf : List Fl} {n : Nat} {q : ByteArray} (h : q.data.toList = Lib.itoa (n : Int)) (hr : sf.length ≤ 1048576)
    (own : w.ownsRow B 57 2 v (sf.length + 1) (cellsF sf ++ [.string ⟨#[67, 111, 110, 116, 101, 110, 116, 45, 76, 101, 110, 103, 116, 104]⟩, .string q])) : Flds w v (sf ++ [Se.size n]) := by
  refine Flds.own (B := B) ?_ (by rw [List.length_append]; simp; omega)
  rw [List.length_append, size_cells sf n q h]
  exact own
set_option maxHeartbeats 8000000 in
theorem sfwd_any (m t : List UInt8) (u : Value) (fs : List Fl) (d : ByteArray) (k : Int) (w : World) (hu : Flds w u fs) (hn : fs.length ≤ 1048576) (hmt : m.length + t.length ≤ 1048576) (hb : d.size ≤ 1048576) (hfs : ∀ f ∈ fs, f.1.length + f.2.length ≤ 1048576) (hm : MH k w)
    (hT : Lib.TabIs Tryd.prog w "internal/strconv.uint64pow10" .u64 Lib.pow10Tab) (o : List UInt8 × Int) (ho : Se.fwd m t fs d.data.toList = o) :
    Calls Tryd.prog 6 #[.agg #[.string (mk m), .string (mk t), u, .string d]] w fun e w' => e = .returned (.tuple #[.string (mk o.1), .int .i64 o.2]) ∧ Below w.heap.size w w' := by
  obtain ⟨z, hz⟩ : ∃ z, Se.wrong m t fs d.data.toList = z := ⟨_, rfl⟩
  obtain ⟨r, hr⟩ : ∃ r, Cu.sizeOf fs = r := ⟨_, rfl⟩
  have HCK := hide (fun W (h : Below w.heap.size w W) => scheck_any m t u fs d W (hu.below h) hn hmt hb hfs z hz r hr)
  have HST := hide (fun W (h : Below w.heap.size w W) => strip_any m t u fs k W (hu.below h) hn hmt hfs (hm.below h))
  have HIT := hide (fun W (h : Below w.heap.size w W) => sitoa_at (d.size : Int) W (by omega) (by omega) (stab_below hT h))
  have hsl : (Se.strip fs).length ≤ 1048576 := Nat.le_trans (Se.less_len _ _) hn
  obtain ⟨q, hq⟩ := ex_list (Lib.itoa (d.size : Int))
  rw [back_list q _ hq] at HIT
  unfold Se.fwd at ho
  rw [hz, hr, len_data] at ho
  have hz4 : z = 0 → d.size ≤ 4096 := fun h => by have := (Se.wrong_ok (hz.trans h)).2.2.2; rw [len_data] at this; exact this
  obtain ⟨OUT, hOUT⟩ : ∃ l, Se.out r.1 fs d.size = l := ⟨_, rfl⟩
  rw [hOUT] at ho
  have hou1 : OUT = if r.1 = 1 then Se.strip fs else Se.strip fs ++ [Se.size d.size] := by rw [← hOUT]; rfl
  obtain ⟨z2, hz2⟩ : ∃ z, Mh.check m t OUT = z := ⟨_, rfl⟩
  rw [hz2] at ho
  obtain ⟨P, hP⟩ : ∃ P, mk (if z2 = 0 then Mh.text m t OUT else []) = P := ⟨_, rfl⟩
  have hPs : P.size ≤ 40000 := by
    rw [← hP, mk_size]; split
    · rename_i h; exact Mh.text_len (hz2.trans h)
    · simp
  have HPR := hide (fun W v' (hz0 : z = 0) (h : Flds W v' OUT) => print_any m t v' OUT z2 W h (by omega) (fun f hf => by
    have := out_mem (hz4 hz0) hfs f (by rw [hOUT]; exact hf); omega) hz2)
  rw [hP] at HPR
  have HE1 : Hid (z ≠ 0 → mk o.1 = ⟨#[]⟩ ∧ o.2 = z) := hide (fun h => by rw [if_pos h] at ho; rw [← ho]; exact ⟨rfl, rfl⟩)
  have HE2 : Hid (z = 0 → z2 ≠ 0 → mk o.1 = ⟨#[]⟩ ∧ o.2 = z2) := hide (fun h h2 => by rw [if_neg (by simpa using h), if_pos h2] at ho; rw [← ho]; exact ⟨rfl, rfl⟩)
  have HE3 : Hid (z = 0 → z2 = 0 → mk o.1 = P ++ d ∧ o.2 = 0) := hide (fun h h2 => by
    rw [if_neg (by simpa using h), if_neg (by simpa using h2)] at ho
    rw [← ho, ← hP, if_pos h2]
    refine ⟨?_, rfl⟩
    show mk (_ ++ d.data.toList) = _
    rw [← cat_mk, mk_data])
  have HOU := hide hou1
  have HQ := hide hq
  unfold headV at HST HPR
  obtain ⟨uo, c, rfl, hc⟩ := hu.form
  obtain ⟨i1, hi1, hz10, hz11, hz12⟩ := info_parts infoF
  obtain ⟨x, hx⟩ : ∃ x, mk m = x := ⟨_, rfl⟩
  obtain ⟨y, hy⟩ : ∃ y, mk t = y := ⟨_, rfl⟩
  rw [hx, hy] at HCK HST HPR ⊢
  obtain ⟨sf, hsf⟩ : ∃ l, Se.strip fs = l := ⟨_, rfl⟩
  rw [hsf] at HST hsl HOU
  obtain ⟨r1, r2, r3⟩ := r
  dsimp only at HCK HOU
  obtain ⟨q1, hq1⟩ : ∃ x, (if z = 0 then r1 else 0) = x := ⟨_, rfl⟩
  obtain ⟨q2, hq2⟩ : ∃ x, (if z = 0 then r2 else 0) = x := ⟨_, rfl⟩
  rw [hq1, hq2] at HCK
  have HQ1 : Hid (z = 0 → q1 = r1) := hide (fun h => by rw [← hq1, if_pos h])
  clear hx hy hu hfs hz hr hq ho hOUT hou1 hz2 hP hq1 hq2 hsf hm hT hz4
  have X1 := QX.new (base := w.heap.size) w (Nat.le_refl _) x y uo fs.length c d
  have bb1 := (Below.refl w.heap.size w).alloc (Nat.le_refl _) (.cells #[.string x, .string y, .slice uo fs.length c, .string d] 26)
  have hs1 : (w.alloc (.cells #[.string x, .string y, .slice uo fs.length c, .string d] 26)).heap.size = w.heap.size + 1 := by simp
  obtain ⟨W1, hW1⟩ : ∃ W, w.alloc (.cells #[.string x, .string y, .slice uo fs.length c, .string d] 26) = W := ⟨_, rfl⟩
  rw [hW1] at X1 bb1 hs1
  have B1 := hide bb1
  have HBOX := hide (fun W (h : Below W1.heap.size W1 W) => (⟨(X1.below h).cells, (X1.below h).lt.2⟩ : (_ ∧ _ ∧ _ ∧ _) ∧ _))
  have HLD := hide (fun W (h : Below W1.heap.size W1 W) => (X1.below h).load)
  obtain ⟨⟨a0, a1, a2, a3⟩, hl1⟩ := (unhide HBOX) W1 (Below.refl _ _)
  clear X1 bb1
  go_enter Tryd.func6, Tryd.ntmps6
  go_wp2_with fail
  clear hW1 a0 a1 a2 a3 hl1
  refine ((unhide HCK) W1 (unhide B1)).mono ?_; rintro e w2 ⟨rfl, b2⟩
  have X3 := BX.new (base := w2.heap.size) w2 (Nat.le_refl _) q1 q2
  have bb3 := (Below.refl w2.heap.size w2).alloc (Nat.le_refl _) (.cells #[.int .i64 q1, .int .i64 q2] 52)
  obtain ⟨g3, hg3⟩ : ∃ g, w2.heap.size = g := ⟨_, rfl⟩
  obtain ⟨W3, hW3⟩ : ∃ W, w2.alloc (.cells #[.int .i64 q1, .int .i64 q2] 52) = W := ⟨_, rfl⟩
  rw [hW3] at X3 bb3
  rw [hg3] at X3
  have B3 := hide (bel_trans b2 bb3)
  have X3' := hide X3
  obtain ⟨c0, c1⟩ := X3.cells
  have hg3l := X3.lt.2
  clear X3 bb3 b2 HCK
  obtain ⟨⟨a0, a1, a2, a3⟩, hl3⟩ := (unhide HBOX) W3 (unhide B3)
  by_cases hz0 : z = 0
  case neg =>
    have hzb : (z != 0) = true := by simpa using hz0
    obtain ⟨e1, e2⟩ := (unhide HE1) hz0
    have HE := hide e1
    have HF := hide e2
    clear HE1 HE2 HE3 e1 e2 hz0
    go_wp2_with fail
    go_ret2
    exact ⟨ret_si (unhide HE).symm (unhide HF).symm, bel_trans (unhide B1) (unhide B3)⟩
  have HF2 := hide ((unhide HE2) hz0)
  have HF3 := hide ((unhide HE3) hz0)
  have HPT := hide (fun W v' h => (unhide HPR) W v' hz0 h)
  have hq1 := (unhide HQ1) hz0
  subst hz0 hq1
  clear HE1 HQ1 HE2 HE3 HPR
  go_wp2_with fail
  clear hW3 hg3 a0 a1 a2 a3 hl3 c0 c1
  refine ((unhide HST) W3 (bel_trans (unhide B1) (unhide B3))).mono ?_; rintro e w4 ⟨v4, rfl, own4, b4⟩
  obtain ⟨so, sc, rfl⟩ := own_forms own4
  have X5 := HX.new (base := w4.heap.size) w4 (Nat.le_refl _) x y so sf.length sc
  have bb5 := (Below.refl w4.heap.size w4).alloc (Nat.le_refl _) (.cells #[.string x, .string y, .slice so sf.length sc] 24)
  have hs5 : w4.heap.size < (w4.alloc (.cells #[.string x, .string y, .slice so sf.length sc] 24)).heap.size := by simp
  obtain ⟨W5, hW5⟩ : ∃ W, w4.alloc (.cells #[.string x, .string y, .slice so sf.length sc] 24) = W := ⟨_, rfl⟩
  rw [hW5] at X5 bb5 hs5
  have B5 := hide (bel_trans (unhide B3) (bel_trans b4 bb5))
  have HNR : Hid (∀ q, (Value.slice so sf.length sc).ownBlock = some q → W3.heap.size ≤ q ∧ q < w4.heap.size) := hide own4.lt
  have O5 := hide (own_below own4 bb5)
  obtain ⟨c0, c1⟩ := ((unhide X3').below (bel_trans b4 bb5)).cells
  have hg3l : g3 < W5.heap.size := ((unhide X3').below (bel_trans b4 bb5)).lt.2
  obtain ⟨g5, hg5⟩ : ∃ g, w4.heap.size = g := ⟨_, rfl⟩
  have hs3 : W3.heap.size ≤ g5 := by rw [← hg5]; exact b4.size
  have hW13 := (unhide B3).size
  rw [hg5] at X5 HNR hs5
  have X5' := hide X5
  obtain ⟨p0, p1, p2⟩ := X5.cells
  obtain ⟨f0, f1, f2⟩ := X5.frozen
  obtain ⟨⟨a0, a1, a2, a3⟩, hl5⟩ := (unhide HBOX) W5 (unhide B5)
  clear X5 bb5 b4 own4 HST X3' B3
  by_cases hk : q1 = 1
  · have hkb : (q1 != 1) = false := by rw [hk]; rfl
    have HOUT : Hid (OUT = sf) := hide (by rw [unhide HOU, if_pos hk])
    clear HOU HIT hk
    go_wp2_with fail
    clear hW5 hg5 a0 a1 a2 c0 c1 p0 p1 p2 f0 f1 f2
    refine ((unhide HPT) W5 _ (by rw [unhide HOUT]; exact Flds.own (unhide O5) (by omega))).mono ?_; rintro e w6 ⟨rfl, b6⟩
    have a3' := cell_below a3 hl5 b6
    have B6 := hide (bel_trans (unhide B1) (bel_trans (unhide B5) b6))
    have hl6 := Nat.lt_of_lt_of_le hl5 b6.size
    clear b6 a3 HPT
    by_cases h2 : z2 = 0
    · have h2b : (z2 != 0) = false := by rw [h2]; rfl
      obtain ⟨e1, e2⟩ := (unhide HF3) h2
      have HE := hide e1
      have HF := hide e2
      clear HF2 HF3 e1 e2 h2
      go_wp2_with fail
      go_ret2
      exact ⟨ret_si (unhide HE).symm (unhide HF).symm, unhide B6⟩
    · have h2b : (z2 != 0) = true := by simpa using h2
      obtain ⟨e1, e2⟩ := (unhide HF2) h2
      have HE := hide e1
      have HF := hide e2
      clear HF2 HF3 e1 e2 h2
      go_wp2_with fail
      go_ret2
      exact ⟨ret_si (unhide HE).symm (unhide HF).symm, unhide B6⟩
  · have hkb : (q1 != 1) = true := by simpa using hk
    have HOUT : Hid (OUT = sf ++ [Se.size d.size]) := hide (by rw [unhide HOU, if_neg hk])
    have b3 : sf.length + 1 ≤ maxLen := by unfold maxLen; omega
    have b4 : (sf.length + 1) * 32 ≤ 140737488355328 := by omega
    have HFC : Hid (∀ W, Below W5.heap.size W5 W → (W.cell? ⟨g5, 0, none⟩ = some (.string x) ∧ W.cell? ⟨g5, 1, none⟩ = some (.string y) ∧ W.cell? ⟨g5, 2, none⟩ = some (.slice so sf.length sc)) ∧ W.cell? ⟨w.heap.size, 3, none⟩ = some (.string d) ∧ W3.heap.size ≤ W.heap.size ∧ g5 < W.heap.size ∧ w.heap.size < W.heap.size) := hide (fun W h => ⟨((unhide X5').below h).cells, cell_below a3 hl5 h, by have := h.size; omega, ((unhide X5').below h).lt.2, by have := h.size; omega⟩)
    have HIT2 := hide (fun W (h : Below W5.heap.size W5 W) => (unhide HIT) W (bel_trans (unhide B1) (bel_trans (unhide B5) h)))
    have HOW := hide (fun W (h : Below W5.heap.size W5 W) => own_below (unhide O5) h)
    have HAP : Hid (∀ W w10 v1, Below W5.heap.size W5 W → (W.alloc (.cells #[.string ⟨#[67, 111, 110, 116, 101, 110, 116, 45, 76, 101, 110, 103, 116, 104]⟩, .string q] 57)).grownBy w10 (Value.slice so sf.length sc).ownBlock → w10.ownsRow W3.heap.size 57 2 v1 (sf.length + 1) (cellsF sf ++ [.string ⟨#[67, 111, 110, 116, 101, 110, 116, 45, 76, 101, 110, 103, 116, 104]⟩, .string q]) → (v1.ownBlock = (Value.slice so sf.length sc).ownBlock ∨ v1.ownBlock = some (W.alloc (.cells #[.string ⟨#[67, 111, 110, 116, 101, 110, 116, 45, 76, 101, 110, 103, 116, 104]⟩, .string q] 57)).heap.size) → HX w10 g5 g5 x y (.slice so sf.length sc) ∧ Below W1.heap.size W1 w10 ∧ (∀ p, v1.ownBlock = some p → p ≠ g5)) := hide (fun W w10 v1 hbc gr own at1 => by
      have bal := bel_trans hbc ((Below.refl W.heap.size W).alloc (Nat.le_refl _) (.cells #[.string ⟨#[67, 111, 110, 116, 101, 110, 116, 45, 76, 101, 110, 103, 116, 104]⟩, .string q] 57))
      have hr := unhide HNR
      have hal : (W.alloc (.cells #[.string ⟨#[67, 111, 110, 116, 101, 110, 116, 45, 76, 101, 110, 103, 116, 104]⟩, .string q] 57)).heap.size = W.heap.size + 1 := by simp
      have hw := hbc.size
      refine ⟨((unhide X5').below bal).kept gr (fun e => by have := (hr g5 e).2; omega), (bel_trans (unhide B5) bal).grown gr (bel_trans (unhide B5) bal).size (fun p hp => by have := (hr p hp).1; omega), fun p hp e => ?_⟩
      rcases at1 with h | h
      · have := (hr p (h.symm.trans hp)).2; omega
      · have := Option.some.inj (h.symm.trans hp); omega)
    clear HOU HIT hk
    go_upto_region 6 with fail
    clear hW5 hg5 c0 c1 f0 f1 f2 a0 a1 a2
    have HBC : Hid (Below W5.heap.size W5 W5.drew) := hide (Below.refl _ _).drew
    go_region_law (first
      | (go_simp; go_at_call 22; refine ((unhide HIT2) _ (unhide HBC)).mono ?_; rintro e w9 ⟨rfl, b9⟩; have hbc := bel_trans (unhide HBC) b9; obtain ⟨⟨p0, p1, p2⟩, a3, hsz, hg5w, hww⟩ := (unhide HFC) w9 hbc; have HBC := hide hbc; clear hbc b9)
      | (refine step_append_at rfl (.tmp 23) (.tmp 29) 22 rfl W3.heap.size 57 i1 (.agg #[.string ByteArray.empty, .string ByteArray.empty]) 2 32 Tryd.underlying22 hi1 hz10 hz11 hz12 rfl (by decide) _ sf.length (cellsF sf) rfl (((unhide HOW) _ (unhide HBC)).alloc _) _ 1 1 _ rfl rfl (cell_two_new _ _ _ _) (by simp [Value.oneCell']) b3 b4 (by simp; omega) ?_; intro vv w10 own10 grow10 at10; obtain ⟨Y10, B10, NE10⟩ := unhide HAP _ w10 vv (unhide HBC) grow10 own10 at10; obtain ⟨oo, cc, rfl⟩ := own_forms own10; obtain ⟨p0, p1, p2⟩ := Y10.cells; obtain ⟨r0, r1, r2⟩ := Y10.frozen; have hl10 := Y10.lt.2))
    all_goals (
      obtain ⟨Y11, k11⟩ := Y10.set2 (.slice oo (sf.length + 1) cc)
      have B11 := B10.grown k11 B10.size (fun p hp => by have := Option.some.inj hp; omega)
      have F11 := hide (size_own (unhide HQ) hsl (World.ownsRow.kept own10 k11 (.inr (fun e => NE10 g5 e rfl))))
      obtain ⟨⟨_, _, _, a3⟩, hlb⟩ := (unhide HBOX) _ B11
      have A3 := hide a3
      have HLB := hide hlb
      have B12 := hide B11
      clear a3 hlb B11 Y11 k11 own10 grow10 at10 NE10 B10
      go_wp2_with fail
      refine ((unhide HPT) _ _ (by rw [unhide HOUT]; exact unhide F11)).mono ?_; rintro e w6 ⟨rfl, b6⟩
      have a3' := cell_below (unhide A3) (unhide HLB) b6
      have B6 := hide (bel_trans (unhide B1) (bel_trans (unhide B12) b6))
      have hl6 := Nat.lt_of_lt_of_le (unhide HLB) b6.size
      clear b6 HPT A3 B12 HLB F11 p0 p1 p2 r0 r1 r2
      by_cases h2 : z2 = 0
      · have h2b : (z2 != 0) = false := by rw [h2]; rfl
        obtain ⟨e1, e2⟩ := (unhide HF3) h2
        have HE := hide e1
        have HF := hide e2
        clear HF2 HF3 e1 e2 h2
        go_wp2_with fail
        go_ret2
        exact ⟨ret_si (unhide HE).symm (unhide HF).symm, unhide B6⟩
      · have h2b : (z2 != 0) = true := by simpa using h2
        obtain ⟨e1, e2⟩ := (unhide HF2) h2
        have HE := hide e1
        have HF := hide e2
        clear HF2 HF3 e1 e2 h2
        go_wp2_with fail
        go_ret2
        exact ⟨ret_si (unhide HE).symm (unhide HF).symm, unhide B6⟩)
end Go.Proofs.YtmgealcolofomaaDoor

/- Walks: lists with room behind: roomy, kept, spoil over fields. -/
namespace Go.Proofs.YtmgealcolofomaaDoor
open Go.RowKit Kb
set_option linter.unusedVariables false
set_option maxRecDepth 20000
open Mh (Fl)

theorem cellsF_ones (l : List Fl) : ∀ u ∈ cellsF l, u.oneCell' = true := by
  intro u hu
  unfold cellsF at hu
  obtain ⟨f, _, hf⟩ := List.mem_flatMap.1 hu
  simp at hf
  rcases hf with rfl | rfl <;> rfl
theorem flds_news {w : World} {v : Value} {fs : List Fl} (h : Flds w v fs) (hne : fs ≠ []) : ∃ g off c, v = .slice (some ⟨g, off, none⟩) fs.length c ∧ g < w.heap.size ∧ ∀ j u, (cellsF fs)[j]? = some u → w.cell? ⟨g, off + j, none⟩ = some u := by
  obtain ⟨g, off, c, h1, h2, h3⟩ := h.at_ hne
  refine ⟨g, off, c, h1, h2, fun j u hj => ?_⟩
  have hl : j < (cellsF fs).length := (List.getElem?_eq_some_iff.1 hj).1
  rw [cellsF_len] at hl
  obtain ⟨f, hf⟩ : ∃ f, fs[j / 2]? = some f := ⟨fs[j / 2]'(by omega), List.getElem?_eq_getElem (by omega)⟩
  obtain ⟨e0, e1⟩ := cellsF_at hf
  obtain ⟨c0, c1⟩ := h3 _ f hf
  rcases Nat.mod_two_eq_zero_or_one j with h0 | h0
  · have ej : j / 2 * 2 = j := by omega
    rw [ej] at e0 c0
    rw [hj] at e0
    rw [c0, ← Option.some.inj e0]
  · have ej : j / 2 * 2 + 1 = j := by omega
    rw [ej] at e1
    rw [Nat.add_assoc, ej] at c1
    rw [hj] at e1
    rw [c1, ← Option.some.inj e1]
theorem step_append_flds {P : Program} {ops : Array Oper} {o : Oper} {a : Act} {w : World} {K : Act → World → Prop} {Q : Exit → Act → World → Prop} {E : Prop}
    (hg : o.guard = none) (s x : Operand) (t : TypeId) (hop : o.op = Op.call { callee := Callee.builtin Builtin.append, args := #[s, x], argTypes := #[t, t] })
    (base : Nat) (e : TypeId) (i : TypeInfo) (z : Value) (bytes : Nat) (h1 : P.underlying t = some (.slice e)) (h2 : P.info? e = some i) (h3 : i.zero = some z) (h4 : i.size = 2) (h5 : i.bytes = bytes) (h6 : z.cells.size = 2)
    (v : Value) (n : Nat) (xs : List Value) (hs : a.eval s = v) (hown : w.ownsRow base e 2 v n xs)
    (fs : List Fl) (u : Value) (hx : a.eval x = u) (hu : Flds w u fs)
    (b1 : n + fs.length ≤ maxLen) (b2 : (n + fs.length) * bytes ≤ 140737488355328) (hb : base ≤ w.heap.size)
    (hK : ∀ v' w', w'.ownsRow base e 2 v' (n + fs.length) (xs ++ cellsF fs) → w.grownBy w' v.ownBlock → (v'.ownBlock = v.ownBlock ∨ v'.ownBlock = some w.heap.size) → K (a.put o.dst v') w') :
    if Region.wanted o (yielded ops a.tmps) = true then Oper.wp P o a w K Q else E := by
  rcases hu.sort_ with rfl | ⟨ad, c, rfl⟩
  · have hnil : fs = [] := Classical.byContradiction fun hne => by
      obtain ⟨g, off, c', k1, _⟩ := hu.at_ hne
      cases k1
    subst hnil
    have hw : Region.wanted o (yielded ops a.tmps) = true := by simp [Region.wanted, hg]
    rw [if_pos hw]
    have hrun := run_append_owned_none (P := P) (w := w) base t o.type e i 2 h1 h2 v n xs hown
    unfold Oper.wp
    simp [execOp, hop, resolve, invoke, builtin, hs, hx, hrun, Result.andThen]
    exact hK v w (by simpa [cellsF] using hown) ⟨rfl, rfl, rfl, Nat.le_refl _, fun _ _ _ => rfl⟩ (.inl rfl)
  · refine step_append_at hg s x t hop base e i z 2 bytes h1 h2 h3 h4 h5 h6 (by decide) v n xs hs hown ad fs.length c (cellsF fs) hx (cellsF_len fs) ?_ (cellsF_ones fs) b1 b2 hb hK
    intro j q hj
    have hne : fs ≠ [] := fun e => by subst e; simp [cellsF] at hj
    obtain ⟨g, off, c', k1, hgl, k3⟩ := flds_news hu hne
    injection k1 with k1
    injection k1 with k1
    subst k1
    rw [Addr.add_lit]; exact k3 j q hj
theorem make_flds (m : Nat) (hm : m ≤ 1048579) (w : World) : (Instr.makeSlice 22 (.int .i64 0) (.int .i64 m)).run Tryd.prog w = .ok (.slice (some ⟨w.heap.size, 0, none⟩) 0 m) (w.alloc (.cells (madeCells #[.string ByteArray.empty, .string ByteArray.empty] (m * 2)) 57)) := by
  obtain ⟨i, hi, hz0, hz1, hz2⟩ := info_parts infoF
  have h := run_make (P := Tryd.prog) w 22 57 i (.agg #[.string ByteArray.empty, .string ByteArray.empty]) Tryd.underlying22 hi hz0 .i64 .i64 0 m (Int.le_refl _) (by omega) (by rw [hz2]; omega) (by omega)
  rw [hz1] at h
  exact h
theorem made_own (W : World) (base m : Nat) (hB : base ≤ W.heap.size) (hm : m ≤ 1048579) : (W.alloc (.cells (madeCells #[.string ByteArray.empty, .string ByteArray.empty] (m * 2)) 57)).ownsRow base 57 2 (.slice (some ⟨W.heap.size, 0, none⟩) 0 m) 0 [] :=
  World.ownsRow_made W _ m hB (by unfold maxLen; omega) (size_madeCells _ _)
theorem four_new (w : World) (a b c d : Value) (t : TypeId) : ∀ j u, [a, b, c, d][j]? = some u → (w.alloc (.cells #[a, b, c, d] t)).cell? ((⟨w.heap.size, 0, none⟩ : Addr).add j) = some u := by
  intro j u hj
  rw [Addr.add_lit, Nat.zero_add, World.cell?_alloc_new w _ _ j]
  simpa using hj
theorem four_old {w w' : World} {x : Obj} {a b c d : Value} {t : TypeId} {n m : Nat} (g : ((w.alloc (.cells #[a, b, c, d] t)).alloc x).grownBy w' (Value.slice (some ⟨w.heap.size + 1, 0, none⟩) n m).ownBlock) :
    ∀ j u, [a, b, c, d][j]? = some u → w'.cell? ((⟨w.heap.size, 0, none⟩ : Addr).add j) = some u := by
  intro j u hj
  have h := four_new w a b c d t j u hj
  rw [Addr.add_lit] at h ⊢
  have h2 := cell_below h (by simp) ((Below.refl _ _).alloc (Nat.le_refl _) x)
  exact g.cell h2 (fun e => by have h := Option.some.inj e; have h' : w.heap.size = w.heap.size + 1 := h; omega)
theorem four_mid {w w' : World} {x : Obj} {a b c d : Value} {t : TypeId} {n m : Nat} (g : ((w.alloc x).alloc (.cells #[a, b, c, d] t)).grownBy w' (Value.slice (some ⟨w.heap.size, 0, none⟩) n m).ownBlock) :
    ∀ j u, [a, b, c, d][j]? = some u → w'.cell? ((⟨w.heap.size + 1, 0, none⟩ : Addr).add j) = some u := by
  intro j u hj
  have h := four_new (w.alloc x) a b c d t j u hj
  have e : (w.alloc x).heap.size = w.heap.size + 1 := by simp
  rw [e] at h
  rw [Addr.add_lit] at h ⊢
  exact g.cell h (fun e => by have h := Option.some.inj e; have h' : w.heap.size + 1 = w.heap.size := h; omega)
theorem undrew {X w' : World} {row : Option Nat} (g : X.drew.grownBy w' row) : X.grownBy w' row := ⟨g.os, g.tape, g.output, g.size, g.block⟩
set_option maxHeartbeats 4000000 in
theorem roomy_any (v : Value) (fs : List Fl) (a b : ByteArray) (w : World) (hu : Flds w v fs) (hn : fs.length ≤ 1048576) :
    Calls Tryd.prog 18 #[v, .agg #[.string a, .string b]] w fun e w' => ∃ g c, e = .returned (.slice (some ⟨g, 0, none⟩) fs.length c) ∧ w'.ownsRow w.heap.size 57 2 (.slice (some ⟨g, 0, none⟩) (fs.length + 2) c) (fs.length + 2) (cellsF fs ++ [.string a, .string b, .string a, .string b]) ∧ Below w.heap.size w w' := by
  obtain ⟨i1, hi1, hz10, hz11, hz12⟩ := info_parts infoF
  obtain ⟨o, c, rfl, hc⟩ := hu.form
  have F1 := FX.new (base := w.heap.size) w (Nat.le_refl _) a b
  have bb1 := (Below.refl w.heap.size w).alloc (Nat.le_refl _) (.cells #[.string a, .string b] 57)
  have hs1 : w.heap.size < (w.alloc (.cells #[.string a, .string b] 57)).heap.size := by simp
  obtain ⟨W1, hW1⟩ : ∃ W, w.alloc (.cells #[.string a, .string b] 57) = W := ⟨_, rfl⟩
  rw [hW1] at F1 bb1 hs1
  have B1 := hide bb1
  have HU := hide (fun W (h : Below W1.heap.size W1 W) => (hu.below bb1).below h)
  have HFC := hide (fun W (h : Below W1.heap.size W1 W) => (⟨(F1.below h).cells, (F1.below h).lt.2⟩ : (_ ∧ _) ∧ _))
  obtain ⟨⟨z0, z1⟩, hl1⟩ := (unhide HFC) W1 (Below.refl _ _)
  obtain ⟨n, hnn⟩ : ∃ n, fs.length = n := ⟨_, rfl⟩
  have HNN := hide hnn
  rw [hnn] at hn hc HU ⊢
  have hmk0 : ∀ W, (Instr.makeSlice 22 (.int .i64 0) (.int .i64 ((n : Int) + 3))).run Tryd.prog W = .ok (.slice (some ⟨W.heap.size, 0, none⟩) 0 (n + 3)) (W.alloc (.cells (madeCells #[.string ByteArray.empty, .string ByteArray.empty] ((n + 3) * 2)) 57)) := fun W => by
    have := make_flds (n + 3) (by omega) W
    rw [show ((n + 3 : Nat) : Int) = (n : Int) + 3 by omega] at this
    exact this
  have hmo := fun W (hB : W1.heap.size ≤ W.heap.size) => made_own W W1.heap.size (n + 3) hB (by omega)
  obtain ⟨MC, hMC⟩ : ∃ MC, madeCells #[.string ByteArray.empty, .string ByteArray.empty] ((n + 3) * 2) = MC := ⟨_, rfl⟩
  rw [hMC] at hmk0 hmo
  have hmk := hmk0 W1
  have HMO := hide hmo
  have HMO2 : Hid (((W1.alloc (.cells #[.string a, .string b, .string a, .string b] 57)).alloc (.cells MC 57)).ownsRow W1.heap.size 57 2 (.slice (some ⟨W1.heap.size + 1, 0, none⟩) 0 (n + 3)) 0 []) := hide (by
    have := hmo (W1.alloc (.cells #[.string a, .string b, .string a, .string b] 57)) (by simp)
    rw [show (W1.alloc (.cells #[.string a, .string b, .string a, .string b] 57)).heap.size = W1.heap.size + 1 by simp] at this
    exact this)
  have hwr : IntKind.i64.wrap ((n : Int) + 3) = (n : Int) + 3 := wr64 _ (by omega) (by omega)
  have b3 : 0 + fs.length ≤ maxLen := by rw [hnn]; unfold maxLen; omega
  have b4 : (0 + fs.length) * 32 ≤ 140737488355328 := by rw [hnn]; omega
  have b5 : n + 2 ≤ maxLen := by unfold maxLen; omega
  have b6 : (n + 2) * 32 ≤ 140737488355328 := by omega
  clear F1 bb1 hu hMC hmo hmk hnn
  go_enter Tryd.func18, Tryd.ntmps18
  go_upto_region 1 with fail
  go_cut [5] from 6 to 15 (fun v wx => ∃ g c, v = .slice (some ⟨g, 0, none⟩) (n + 2) c ∧ n + 2 ≤ c ∧ wx.ownsRow W1.heap.size 57 2 (.slice (some ⟨g, 0, none⟩) (n + 2) c) (n + 2) (cellsF fs ++ [.string a, .string b, .string a, .string b]) ∧ Below W1.heap.size W1 wx)
  case first =>
    clear hW1
    go_region_law (first
      | (refine step_append_flds rfl (.tmp 9) (.tmp 10) 22 rfl W1.heap.size 57 i1 (.agg #[.string ByteArray.empty, .string ByteArray.empty]) 32 Tryd.underlying22 hi1 hz10 hz11 hz12 rfl _ 0 [] rfl (by first | exact (unhide HMO2).drew | exact ((unhide HMO) _ (by simp)).drew | exact (((unhide HMO) _ (by simp)).alloc _).drew | exact (unhide HMO) _ (by simp) | exact ((unhide HMO) _ (by simp)).alloc _) fs _ rfl ((unhide HU) _ (by first | exact ((Below.refl _ _).alloc (Nat.le_refl _) _).drew | exact (((Below.refl _ _).alloc (Nat.le_refl _) _).alloc (by simp) _).drew | exact (Below.refl _ _).drew.alloc (Nat.le_refl _) _ | exact ((Below.refl _ _).drew.alloc (Nat.le_refl _) _).alloc (by simp) _)) b3 b4 (by simp <;> omega) ?_; intro v9 w5 own5 grow5 at5; rw [Nat.zero_add, unhide HNN, List.nil_append] at own5; obtain ⟨o9, c9, rfl⟩ := own_forms own5; have O5 := hide own5; (first | have N5 := hide (four_old (w := W1) (undrew grow5)) | have N5 := hide (four_mid (w := W1) (undrew grow5)) | have N5 := hide trivial); have B5 := hide (by first | exact (((Below.refl W1.heap.size W1).alloc (Nat.le_refl _) _).drew).grown grow5 (by simp) (fun q hq => by have h := Option.some.inj hq; simp at h; omega) | exact ((((Below.refl W1.heap.size W1).alloc (Nat.le_refl _) _).alloc (by simp) _).drew).grown grow5 (by simp <;> omega) (fun q hq => by have h := Option.some.inj hq; simp at h; omega) : Below W1.heap.size W1 w5); obtain ⟨⟨z0, z1⟩, hl1⟩ := (unhide HFC) w5 (unhide B5); have hs5 := (unhide B5).size; clear own5 grow5 at5)
      | (refine step_append_at rfl (.tmp 11) (.tmp 14) 22 rfl W1.heap.size 57 i1 (.agg #[.string ByteArray.empty, .string ByteArray.empty]) 2 32 Tryd.underlying22 hi1 hz10 hz11 hz12 rfl (by decide) _ n (cellsF fs) rfl (by first | exact unhide O5 | exact (unhide O5).alloc _) _ 2 2 [.string a, .string b, .string a, .string b] rfl rfl (by first | exact four_new _ _ _ _ _ _ | exact unhide N5 | simpa using unhide N5) (by simp [Value.oneCell']) b5 b6 (by first | exact hs5 | (simp; omega)) ?_; intro vv w10 own10 grow10 at10; have O10 := hide own10; have B10 := hide (by first | exact (unhide B5).grown grow10 hs5 (own_lt (unhide O5)) | exact ((unhide B5).alloc hs5 _).grown grow10 (by simp; omega) (own_lt (unhide O5)) : Below W1.heap.size W1 w10); obtain ⟨⟨z0, z1⟩, hl1⟩ := (unhide HFC) w10 (unhide B10); clear own10 grow10 at10))
    all_goals (
      go_wp2_with fail
      go_meet
      obtain ⟨g, cc, hv, hcc⟩ := own_form (unhide O10) (by omega)
      subst hv
      exact ⟨g, cc, rfl, hcc, unhide O10, unhide B10⟩)
  case rest =>
    obtain ⟨g, cc, rfl, hcc, hO, hB⟩ := hcut
    have hcc2 : n ≤ cc := by omega
    have OO := hide hO
    have BB := hide hB
    clear hO hB
    go_wp2_with fail
    go_ret
    exact ⟨g, cc, rfl, own_mono2 (unhide OO) (by omega), bel_trans (unhide B1) (unhide BB)⟩
set_option maxHeartbeats 4000000 in
theorem kept_any (g c n B : Nat) (a b : ByteArray) (xs : List Value) (w : World) (own : w.ownsRow B 57 2 (.slice (some ⟨g, 0, none⟩) (n + 2) c) (n + 2) (xs ++ [.string a, .string b, .string a, .string b])) (hx : xs.length = n * 2) (hn : n ≤ 1048576) (hc : n + 2 ≤ c) :
    Calls Tryd.prog 19 #[.slice (some ⟨g, 0, none⟩) n c, .agg #[.string a, .string b]] w fun e w' => e = .returned (.bool true) ∧ Below w.heap.size w w' := by
  have hcell : ∀ j u, [Value.string a, .string b, .string a, .string b][j]? = some u → w.cell? ⟨g, n * 2 + j, none⟩ = some u := fun j u hj => by
    have hj4 : j < 4 := by simpa using (List.getElem?_eq_some_iff.1 hj).1
    rw [own.cellAt (n * 2 + j) (by omega), List.getElem?_append_right (by omega), hx, Nat.add_sub_cancel_left]; exact hj
  have hg := (own.lt g rfl).2
  have F1 := FX.new (base := w.heap.size) w (Nat.le_refl _) a b
  have bb1 := (Below.refl w.heap.size w).alloc (Nat.le_refl _) (.cells #[.string a, .string b] 57)
  have c0 := cell_below (hcell 0 _ rfl) hg bb1
  have c1 := cell_below (hcell 1 _ rfl) hg bb1
  have c2 := cell_below (hcell 2 _ rfl) hg bb1
  have c3 := cell_below (hcell 3 _ rfl) hg bb1
  rw [show n * 2 + 2 = (n + 1) * 2 by omega] at c2
  rw [show n * 2 + 3 = (n + 1) * 2 + 1 by omega] at c3
  rw [Nat.add_zero] at c0
  obtain ⟨W1, hW1⟩ : ∃ W, w.alloc (.cells #[.string a, .string b] 57) = W := ⟨_, rfl⟩
  rw [hW1] at F1 bb1 c0 c1 c2 c3
  obtain ⟨z0, z1⟩ := F1.cells
  have hl1 := F1.lt.2
  have hg1 : g < W1.heap.size := Nat.lt_of_lt_of_le hg bb1.size
  have hwr1 : IntKind.i64.wrap ((n : Int) + 2) = (n : Int) + 2 := wr64 _ (by omega) (by omega)
  have hwr2 : IntKind.i64.wrap ((n : Int) + 1) = (n : Int) + 1 := wr64 _ (by omega) (by omega)
  have B1 := hide bb1
  clear F1 bb1 hcell own hx hg
  go_enter Tryd.func19, Tryd.ntmps19
  go_wp2_with fail
  clear hW1
  go_quiet (fail)
  go_wp2_with fail
  go_ret
  exact ⟨rfl, Go.below_drewN (unhide B1) _⟩
theorem row_full {w : World} {B e size g n c : Nat} {xs : List Value} (h : w.ownsRow B e size (.slice (some ⟨g, 0, none⟩) n c) n xs) : ∃ ys, w.ownsRow B e size (.slice (some ⟨g, 0, none⟩) c c) c ys := by
  rcases h.2 with ⟨h1, _⟩ | ⟨g', cap, cur, h1, h2, h3, h4, h5, h6, h7⟩
  · cases h1
  · cases h1
    exact ⟨cur.toList, by rw [Array.length_toList, h6], .inr ⟨g, c, cur, rfl, h2, h3, Nat.le_refl _, h5, h6, by rw [← h6, ← Array.length_toList, List.take_length]⟩⟩
set_option maxHeartbeats 4000000 in
theorem spoil_any (g c n B : Nat) (a b : ByteArray) (xs : List Value) (w : World) (own : w.ownsRow B 57 2 (.slice (some ⟨g, 0, none⟩) n c) n xs) (hnc : n ≤ c) :
    Calls Tryd.prog 20 #[.slice (some ⟨g, 0, none⟩) n c, .agg #[.string a, .string b]] w fun e w' => e = .returned (.tuple #[]) ∧ w.grownBy w' (some g) := by
  obtain ⟨ys0, full⟩ := row_full own
  have hcm : c ≤ 9223372036854775807 := by
    rcases full.2 with ⟨h1, _⟩ | ⟨g', cap, cur, h1, h2, h3, h4, h5, h6, h7⟩
    · cases h1
    · cases h1; unfold maxLen at h5; omega
  have hg := (own.lt g rfl).2
  have F1 := FX.new (base := w.heap.size) w (Nat.le_refl _) a b
  have bb1 := (Below.refl w.heap.size w).alloc (Nat.le_refl _) (.cells #[.string a, .string b] 57)
  have gr1 : w.grownBy (w.alloc (.cells #[.string a, .string b] 57)) (some g) := World.grownBy_alloc w _ _
  obtain ⟨W1, hW1⟩ : ∃ W, w.alloc (.cells #[.string a, .string b] 57) = W := ⟨_, rfl⟩
  rw [hW1] at F1 bb1 gr1
  have O1 := hide (own_below full bb1)
  have G1 := hide gr1
  have HF := hide F1
  clear own full F1 bb1 gr1
  go_enter Tryd.func20, Tryd.ntmps20
  go_wp2_with fail
  clear hW1
  go_loopw [11] (fun x wr => ∃ (i : Nat) (ys : List Value), x = .int .i64 i ∧ i ≤ c ∧ wr.ownsRow B 57 2 (.slice (some ⟨g, 0, none⟩) c c) c ys ∧ FX wr w.heap.size w.heap.size a b ∧ w.grownBy wr (some g)) (fun x _ => c - (intOf x).toNat)
  case atStart => exact ⟨0, ys0, rfl, Nat.zero_le _, unhide O1, unhide HF, unhide G1⟩
  case round =>
    obtain ⟨i, ys, rfl, hi, hO, hF, hG⟩ := hrel
    by_cases hlt : i < c
    · have hyl : ys.length = c * 2 := hO.1
      obtain ⟨y0, hy0⟩ : ∃ y, ys[i * 2]? = some y := ⟨ys[i * 2]'(by omega), List.getElem?_eq_getElem (by omega)⟩
      obtain ⟨y1, hy1⟩ : ∃ y, ys[i * 2 + 1]? = some y := ⟨ys[i * 2 + 1]'(by omega), List.getElem?_eq_getElem (by omega)⟩
      have k0 := (hO.cellAt (i * 2) (by omega)).trans hy0
      have k1 := (hO.cellAt (i * 2 + 1) (by omega)).trans hy1
      have r0 := hO.frozenAt (i * 2)
      have r1 := hO.frozenAt (i * 2 + 1)
      obtain ⟨z0, z1⟩ := hF.cells
      have hlr := hF.lt.2
      have hgr := (hO.lt g rfl).2
      obtain ⟨v0, m0⟩ := hO.stored (i * 2) (.string a)
      obtain ⟨v1, m1⟩ := v0.stored (i * 2 + 1) (.string b)
      have O2 := hide v1
      have hne : some g ≠ some w.heap.size := fun e => by have := Option.some.inj e; omega
      have F2 := hide (World.ownsRow.kept hF (m0.trans m1) (.inr (fun e => hne e.symm)))
      have G2 := hide (hG.trans (m0.trans m1))
      have hwr : IntKind.i64.wrap ((i : Int) + 1) = (i : Int) + 1 := wr64 _ (by omega) (by omega)
      clear hO hF hG v0 m0 v1 m1 hy0 hy1 hyl hne
      go_wp2_with fail
      refine ⟨?_, by simp [intOf]; omega⟩
      exact ⟨i + 1, _, by go_num, by omega, unhide O2, unhide F2, unhide G2⟩
    · obtain rfl : i = c := by omega
      have G2 := hide hG
      clear hG hF hO
      go_wp2_with fail
      go_end0
      exact ⟨rfl, unhide G2⟩
theorem spoil_nil (a b : ByteArray) (w : World) : Calls Tryd.prog 20 #[.slice none 0 0, .agg #[.string a, .string b]] w fun e w' => e = .returned (.tuple #[]) ∧ Below w.heap.size w w' := by
  have bb1 := hide ((Below.refl w.heap.size w).alloc (Nat.le_refl _) (.cells #[.string a, .string b] 57))
  obtain ⟨W1, hW1⟩ : ∃ W, w.alloc (.cells #[.string a, .string b] 57) = W := ⟨_, rfl⟩
  rw [hW1] at bb1
  go_enter Tryd.func20, Tryd.ntmps20
  go_wp2_with fail
  clear hW1
  go_loopw [11] (fun x wr => x = .int .i64 0 ∧ wr = W1) (fun x _ => 0)
  case atStart => exact ⟨rfl, rfl⟩
  case round =>
    obtain ⟨rfl, rfl⟩ := hrel
    go_wp2_with fail
    go_end0
    exact ⟨rfl, unhide bb1⟩
end Go.Proofs.YtmgealcolofomaaDoor
