/- Walk: what is wrong with a request that is to be handed on (the program's). -/
import Derived.Test.YtmgealcolofomaaDoorDX
import Derived.Test.YtmgealcolofomaaDoorTh
import Derived.Test.YtmgealcolofomaaDoorUk
import Derived.Test.YtmgealcolofomaaDoorMf
import Derived.Lib.ItoaLen
import Derived.Lib.AppendIntMem
import Derived.Maps.AppendAt
import Derived.Deep.RegionLaw
import Derived.BigRegion
import Derived.Test.YtmgealcolofomaaDoorMn
import Derived.Test.YtmgealcolofomaaDoorTp
import Derived.Test.YtmgealcolofomaaDoorMg
namespace Go.Proofs.YtmgealcolofomaaDoor
open Go.RowKit Kb
set_option linter.unusedVariables false
set_option maxRecDepth 20000
open Mh (Fl)

set_option maxHeartbeats 8000000 in
theorem scheck_any (m t : List UInt8) (u : Value) (fs : List Fl) (d : ByteArray) (w : World) (hu : Flds w u fs) (hn : fs.length ≤ 1048576) (hmt : m.length + t.length ≤ 1048576) (hb : d.size ≤ 1048576) (hfs : ∀ f ∈ fs, f.1.length + f.2.length ≤ 1048576) (z : Int) (hz : Se.wrong m t fs d.data.toList = z) (r : Int × Int × Int) (hr : Cu.sizeOf fs = r) :
    Calls Tryd.prog 21 #[.agg #[.string (mk m), .string (mk t), u, .string d]] w fun e w' => e = .returned (.tuple #[.agg #[.int .i64 (if z = 0 then r.1 else 0), .int .i64 (if z = 0 then r.2.1 else 0)], .int .i64 z]) ∧ Below w.heap.size w w' := by
  have HC := hide (fun W (h : Below w.heap.size w W) => hcheck_any m t u fs W (hu.below h) (by omega) (fun f hf => by have := hfs f hf; omega))
  have HO := hide (fun W (h : Below w.heap.size w W) => of_any m t u fs W (hu.below h) (fun f hf => by have := hfs f hf; omega) (by omega) r hr)
  unfold Se.wrong at hz
  rw [hr] at hz
  unfold headV at HC HO
  obtain ⟨o, c, rfl, hc⟩ := hu.form
  obtain ⟨x, hx⟩ : ∃ x, mk m = x := ⟨_, rfl⟩
  obtain ⟨y, hy⟩ : ∃ y, mk t = y := ⟨_, rfl⟩
  rw [hx, hy] at HC HO ⊢
  obtain ⟨r1, r2, r3⟩ := r
  dsimp only at hz HO ⊢
  obtain ⟨k, hk⟩ : ∃ k, Mh.check m t fs = k := ⟨_, rfl⟩
  rw [hk] at HC hz
  have HZ := hide hz
  obtain ⟨V, hV⟩ : ∃ V, Value.tuple #[.agg #[.int .i64 (if z = 0 then r1 else 0), .int .i64 (if z = 0 then r2 else 0)], .int .i64 z] = V := ⟨_, rfl⟩
  rw [hV]
  have HV := hide hV
  clear hx hy hu hfs hz hk hr hV
  have X1 := QX.new (base := w.heap.size) w (Nat.le_refl _) x y o fs.length c d
  have bb1 := (Below.refl w.heap.size w).alloc (Nat.le_refl _) (.cells #[.string x, .string y, .slice o fs.length c, .string d] 26)
  have hs1 : (w.alloc (.cells #[.string x, .string y, .slice o fs.length c, .string d] 26)).heap.size = w.heap.size + 1 := by simp
  obtain ⟨W1, hW1⟩ : ∃ W, w.alloc (.cells #[.string x, .string y, .slice o fs.length c, .string d] 26) = W := ⟨_, rfl⟩
  rw [hW1] at X1 bb1 hs1
  have X2 := BX.new (base := W1.heap.size) W1 (Nat.le_refl _) 0 0
  have bb2 := (Below.refl W1.heap.size W1).alloc (Nat.le_refl _) (.cells #[.int .i64 0, .int .i64 0] 52)
  obtain ⟨W2, hW2⟩ : ∃ W, W1.alloc (.cells #[.int .i64 0, .int .i64 0] 52) = W := ⟨_, rfl⟩
  have Y1 := X1.below bb2
  rw [hW2] at X2 bb2 Y1
  have B2 := hide (bel_trans bb1 bb2)
  rw [hs1] at X2
  have HBOX := hide (fun W (h : Below W2.heap.size W2 W) => (⟨(Y1.below h).cells, (X2.below h).cells, (X2.below h).frozen, (X2.below h).lt.2⟩ : (_ ∧ _ ∧ _ ∧ _) ∧ (_ ∧ _) ∧ (_ ∧ _) ∧ _))
  have HRS := hide (fun W (h : Below W2.heap.size W2 W) (p q : Int) => (⟨((X2.below h).loaded p q), (bel_trans (unhide B2) h).grown ((X2.below h).put p q).2 (bel_trans (unhide B2) h).size (fun q hq => by have := Option.some.inj hq; omega)⟩ : _ ∧ Below w.heap.size w _))
  obtain ⟨⟨a0, a1, a2, a3⟩, ⟨b0, b1⟩, ⟨f0, f1⟩, hl2⟩ := (unhide HBOX) W2 (Below.refl _ _)
  clear X1 X2 Y1 bb1 bb2
  go_enter Tryd.func21, Tryd.ntmps21
  go_wp2_with fail
  clear hW1 hW2 a0 a1 a2 a3 b0 b1 f0 f1 hl2
  refine ((unhide HC) W2 (unhide B2)).mono ?_; rintro e w3 ⟨rfl, b3⟩
  have B3 := hide b3
  obtain ⟨⟨a0, a1, a2, a3⟩, ⟨b0, b1⟩, ⟨f0, f1⟩, hl3⟩ := (unhide HBOX) w3 b3
  clear b3 HC
  by_cases hk0 : k = 0
  case neg =>
    have hkb : (k != 0) = true := by simpa using hk0
    have HE : Hid (V = .tuple #[.agg #[.int .i64 0, .int .i64 0], .int .i64 k]) := hide (by
      have := unhide HZ; rw [if_pos hk0] at this; rw [← unhide HV, ← this, if_neg hk0, if_neg hk0])
    have P1 := hide ((unhide HRS) w3 (unhide B3) 0 0)
    clear HZ HV HBOX HRS hk0
    go_wp2_with fail
    (try simp only [Exit.inBlock, Exit.then])
    refine bodyPost_ret_by (v := .tuple #[.agg #[.int .i64 0, .int .i64 0], .int .i64 k]) ?_ rfl ⟨by rw [unhide HE], (unhide P1).2⟩
    refine results_cb (p := 2) (u := 3) (ty := 52) ?_ _ _ (w.heap.size + 1) _ ?_ (unhide P1).1 _ ?_ <;> rfl
  subst hk0
  go_wp2_with fail
  refine ((unhide HO) w3 (bel_trans (unhide B2) (unhide B3))).mono ?_; rintro e w4 ⟨rfl, b4⟩
  have X5 := BX.new (base := w4.heap.size) w4 (Nat.le_refl _) r1 r2
  have bb5 := (Below.refl w4.heap.size w4).alloc (Nat.le_refl _) (.cells #[.int .i64 r1, .int .i64 r2] 52)
  obtain ⟨g5, hg5⟩ : ∃ g, w4.heap.size = g := ⟨_, rfl⟩
  obtain ⟨W5, hW5⟩ : ∃ W, w4.alloc (.cells #[.int .i64 r1, .int .i64 r2] 52) = W := ⟨_, rfl⟩
  rw [hW5] at X5 bb5
  rw [hg5] at X5
  have B5 := hide (bel_trans (bel_trans (unhide B3) b4) bb5)
  obtain ⟨c0, c1⟩ := X5.cells
  have hg5l := X5.lt.2
  clear a0 a1 a2 a3 b0 b1 f0 f1 hl3 X5 bb5 b4 HO B3
  obtain ⟨⟨a0, a1, a2, a3⟩, ⟨b0, b1⟩, ⟨f0, f1⟩, hl5⟩ := (unhide HBOX) W5 (unhide B5)
  by_cases hr0 : r3 = 0
  case neg =>
    have hrb : (r3 != 0) = true := by simpa using hr0
    have HE : Hid (V = .tuple #[.agg #[.int .i64 0, .int .i64 0], .int .i64 r3]) := hide (by
      have := unhide HZ; rw [if_neg (by simp), if_pos hr0] at this; rw [← unhide HV, ← this, if_neg hr0, if_neg hr0])
    have P1 := hide ((unhide HRS) W5 (unhide B5) 0 0)
    clear HZ HV HBOX HRS hr0
    go_wp2_with fail
    (try simp only [Exit.inBlock, Exit.then])
    refine bodyPost_ret_by (v := .tuple #[.agg #[.int .i64 0, .int .i64 0], .int .i64 r3]) ?_ rfl ⟨by rw [unhide HE], (unhide P1).2⟩
    refine results_cb (p := 2) (u := 3) (ty := 52) ?_ _ _ (w.heap.size + 1) _ ?_ (unhide P1).1 _ ?_ <;> rfl
  subst hr0
  have hz2 : (if r1 = 1 ∧ d.data.toList ≠ [] then (4 : Int) else if 4096 < d.data.toList.length then 6 else 0) = z := by
    have := unhide HZ; rw [if_neg (by simp), if_neg (by simp)] at this; exact this
  have HZ2 := hide hz2
  clear HZ hz2
  by_cases h4 : r1 = 1 ∧ d.data.toList ≠ []
  case pos =>
    have HE : Hid (V = .tuple #[.agg #[.int .i64 0, .int .i64 0], .int .i64 4]) := hide (by
      have := unhide HZ2; rw [if_pos h4] at this; rw [← unhide HV, ← this, if_neg (by decide), if_neg (by decide)])
    have P1 := hide ((unhide HRS) W5 (unhide B5) 0 0)
    obtain ⟨h41, h42⟩ := h4
    have he1 : d.toList.isEmpty = false := by rw [Lib.toList_data]; simpa using h42
    have he2 : (d.toList == []) = false := by rw [Lib.toList_data]; simpa using h42
    subst h41
    clear HZ2 HV HBOX HRS h42
    go_wp2_with fail
    (try simp only [Exit.inBlock, Exit.then])
    refine bodyPost_ret_by (v := .tuple #[.agg #[.int .i64 0, .int .i64 0], .int .i64 4]) ?_ rfl ⟨by rw [unhide HE], (unhide P1).2⟩
    refine results_cb (p := 2) (u := 3) (ty := 52) ?_ _ _ (w.heap.size + 1) _ ?_ (unhide P1).1 _ ?_ <;> rfl
  have hz3 : (if 4096 < d.size then (6 : Int) else 0) = z := by have := unhide HZ2; rw [if_neg h4, len_data] at this; exact this
  have HZ3 := hide hz3
  clear HZ2 hz3
  have HFIN : Hid (V = if 4096 < d.size then .tuple #[.agg #[.int .i64 0, .int .i64 0], .int .i64 6] else .tuple #[.agg #[.int .i64 r1, .int .i64 r2], .int .i64 0]) := hide (by
    have h := unhide HZ3
    rw [← unhide HV]
    by_cases hq : 4096 < d.size
    · rw [if_pos hq] at h ⊢; subst h; rfl
    · rw [if_neg hq] at h ⊢; subst h; rfl)
  have P0 := hide ((unhide HRS) W5 (unhide B5) 0 0)
  have PR := hide ((unhide HRS) W5 (unhide B5) r1 r2)
  clear HZ3 HV HBOX HRS
  by_cases h1 : r1 = 1
  · have h2 : d.data.toList = [] := Classical.byContradiction fun h => h4 ⟨h1, h⟩
    have he1 : d.toList.isEmpty = true := by rw [Lib.toList_data, h2]; rfl
    have he2 : (d.toList == []) = true := by rw [Lib.toList_data, h2]; rfl
    have hd0 : d.size = 0 := by rw [← len_data, h2]; rfl
    have HE : Hid (V = .tuple #[.agg #[.int .i64 r1, .int .i64 r2], .int .i64 0]) := hide (by rw [unhide HFIN, if_neg (by omega)])
    clear HFIN h4 h2
    subst h1
    go_wp2_with fail
    (try simp only [Exit.inBlock, Exit.then])
    refine bodyPost_ret_by (v := .tuple #[.agg #[.int .i64 1, .int .i64 r2], .int .i64 0]) ?_ rfl ⟨by rw [unhide HE], (unhide PR).2⟩
    refine results_cb (p := 2) (u := 3) (ty := 52) ?_ _ _ (w.heap.size + 1) _ ?_ (unhide PR).1 _ ?_ <;> rfl
  · have h1b : (r1 == 1) = false := by simpa using h1
    clear h4
    by_cases hq : 4096 < d.size
    · have hqI : (4096 : Int) < d.size := by omega
      have HE : Hid (V = .tuple #[.agg #[.int .i64 0, .int .i64 0], .int .i64 6]) := hide (by rw [unhide HFIN, if_pos hq])
      clear HFIN PR
      go_wp2_with fail
      (try simp only [Exit.inBlock, Exit.then])
      refine bodyPost_ret_by (v := .tuple #[.agg #[.int .i64 0, .int .i64 0], .int .i64 6]) ?_ rfl ⟨by rw [unhide HE], (unhide P0).2⟩
      refine results_cb (p := 2) (u := 3) (ty := 52) ?_ _ _ (w.heap.size + 1) _ ?_ (unhide P0).1 _ ?_ <;> rfl
    · have hqI : ¬ (4096 : Int) < d.size := by omega
      have HE : Hid (V = .tuple #[.agg #[.int .i64 r1, .int .i64 r2], .int .i64 0]) := hide (by rw [unhide HFIN, if_neg hq])
      clear HFIN P0
      go_wp2_with fail
      (try simp only [Exit.inBlock, Exit.then])
      refine bodyPost_ret_by (v := .tuple #[.agg #[.int .i64 r1, .int .i64 r2], .int .i64 0]) ?_ rfl ⟨by rw [unhide HE], (unhide PR).2⟩
      refine results_cb (p := 2) (u := 3) (ty := 52) ?_ _ _ (w.heap.size + 1) _ ?_ (unhide PR).1 _ ?_ <;> rfl
end Go.Proofs.YtmgealcolofomaaDoor

/- Walk: a request that is handed on (the program's). -/
namespace Go.Proofs.YtmgealcolofomaaDoor
open Go.RowKit Kb
set_option linter.unusedVariables false
set_option maxRecDepth 20000
open Mh (Fl)

theorem stab_below {w w' : World} {name : String} {k : IntKind} {zs : List Int} (h : Lib.TabIs Tryd.prog w name k zs) (b : Below w.heap.size w w') : Lib.TabIs Tryd.prog w' name k zs := by
  unfold Lib.TabIs at *
  unfold World.var? at *
  cases hg : Tryd.prog.globalNamed name with
  | none => rw [hg] at h; cases h
  | some g =>
    rw [hg, Option.bind_some] at h
    rw [Option.bind_some]
    have hlt : g < w.heap.size := by
      rcases Nat.lt_or_ge g w.heap.size with hl | hl
      · exact hl
      · rw [Array.getElem?_eq_none hl] at h; cases h
    rw [b.block g hlt]; exact h
theorem sitoa_at (k : Int) (w : World) (h0 : 0 ≤ k) (h1 : k < 1000000000000) (ht : Lib.TabIs Tryd.prog w "internal/strconv.uint64pow10" .u64 Lib.pow10Tab) :
    Calls Tryd.prog 22 #[.int .i64 k] w fun e w' => e = .returned (.string ⟨(Lib.itoa k).toArray⟩) ∧ Below w.heap.size w w' := by
  refine (Tryd.strconv_Itoa k (by omega) (by omega) w ht).mono ?_
  rintro e w' ⟨rfl, j, os, rfl⟩
  exact ⟨rfl, Lib.below_grow _ w (Nat.le_refl _) j os⟩
theorem step_append_at {P : Program} {ops : Array Oper} {o : Oper} {a : Act} {w : World} {K : Act → World → Prop} {Q : Exit → Act → World → Prop} {E : Prop}
    (hg : o.guard = none) (s x : Operand) (t : TypeId) (hop : o.op = Op.call { callee := Callee.builtin Builtin.append, args := #[s, x], argTypes := #[t, t] })
    (base : Nat) (e : TypeId) (i : TypeInfo) (z : Value) (size bytes : Nat) (h1 : P.underlying t = some (.slice e)) (h2 : P.info? e = some i) (h3 : i.zero = some z) (h4 : i.size = size) (h5 : i.bytes = bytes) (h6 : z.cells.size = size) (h7 : 0 < size)
    (v : Value) (n : Nat) (xs : List Value) (hs : a.eval s = v) (hown : w.ownsRow base e size v n xs)
    (ad : Addr) (m c : Nat) (news : List Value) (hx : a.eval x = .slice (some ad) m c) (hn : news.length = m * size) (hc : ∀ j u, news[j]? = some u → w.cell? (ad.add j) = some u) (h1c : ∀ u ∈ news, u.oneCell' = true)
    (b1 : n + m ≤ maxLen) (b2 : (n + m) * bytes ≤ 140737488355328) (hb : base ≤ w.heap.size)
    (hK : ∀ v' w', w'.ownsRow base e size v' (n + m) (xs ++ news) → w.grownBy w' v.ownBlock → (v'.ownBlock = v.ownBlock ∨ v'.ownBlock = some w.heap.size) → K (a.put o.dst v') w') :
    if Region.wanted o (yielded ops a.tmps) = true then Oper.wp P o a w K Q else E := by
  have hw : Region.wanted o (yielded ops a.tmps) = true := by simp [Region.wanted, hg]
  rw [if_pos hw]
  obtain ⟨v', w', hrun, r1, r2, _, r3⟩ := run_append_own_at (P := P) w base t o.type e i z size bytes h1 h2 h3 h4 h5 h6 h7 v n xs hown ad m c news hn hc h1c b1 b2 hb
  unfold Oper.wp
  simp [execOp, hop, resolve, invoke, builtin, hs, hx, hrun, Result.andThen]
  exact hK v' w' r1 r2 r3
theorem print_any (m t : List UInt8) (u : Value) (fs : List Fl) (z : Int) (w : World) (hu : Flds w u fs) (hm : m.length + t.length ≤ 68719476736) (hfs : ∀ f ∈ fs, f.1.length + f.2.length ≤ 68719476736) (hz : Mh.check m t fs = z) :
    Calls Tryd.prog 23 #[headV m t u] w fun e w' => e = .returned (.tuple #[.string (mk (if z = 0 then Mh.text m t fs else [])), .int .i64 z]) ∧ Below w.heap.size w w' := by
  by_cases h : z = 0
  · subst h
    rw [if_pos rfl]; exact hprint_ok m t u fs w hu hz
  · rw [if_neg h]; exact hprint_bad m t u fs z w hu hm hfs hz h
theorem out_len {k : Int} {fs : List Fl} {n : Nat} (h : fs.length ≤ 1048576) : (Se.out k fs n).length ≤ 1048577 := by
  have := Se.less_len (Se.own fs) fs
  have h2 : (Se.strip fs).length ≤ 1048576 := Nat.le_trans this h
  unfold Se.out; split
  · omega
  · rw [List.length_append]; simp; omega
theorem out_mem {k : Int} {fs : List Fl} {n : Nat} (hn : n ≤ 4096) (hfs : ∀ f ∈ fs, f.1.length + f.2.length ≤ 1048576) : ∀ f ∈ Se.out k fs n, f.1.length + f.2.length ≤ 1048576 := by
  have h1 : ∀ f ∈ Se.strip fs, f.1.length + f.2.length ≤ 1048576 := fun f hf => hfs f (Se.less_mem hf).1
  have h2 : ∀ f ∈ [Se.size n], f.1.length + f.2.length ≤ 1048576 := fun f hf => by
    simp at hf; subst hf
    have := Se.itoa_len n hn
    have h3 : Cu.nameL.length = 14 := rfl
    show Cu.nameL.length + (Lib.itoa (n : Int)).length ≤ _
    omega
  unfold Se.out; split
  · exact h1
  · intro f hf
    rcases List.mem_append.1 hf with hf | hf
    · exact h1 f hf
    · exact h2 f hf
theorem size_cells (sf : List Fl) (n : Nat) (q : ByteArray) (h : q.data.toList = Lib.itoa (n : Int)) : cellsF (sf ++ [Se.size n]) = cellsF sf ++ [.string ⟨#[67, 111, 110, 116, 101, 110, 116, 45, 76, 101, 110, 103, 116, 104]⟩, .string q] := by
  rw [cellsF_append]
  show cellsF sf ++ [Value.string (mk Cu.nameL), Value.string (mk (Lib.itoa (n : Int)))] = _
  rw [← h, mk_data]; rfl
theorem size_own {w : World} {B : Nat} {v : Value} {sf : List Fl} {n : Nat} {q : ByteArray} (h : q.data.toList = Lib.itoa (n : Int)) (hr : sf.length ≤ 1048576)
    (own : w.ownsRow B 57 2 v (sf.length + 1) (cellsF sf ++ [.string ⟨#[67, 111, 110, 116, 101, 110, 116, 45, 76, 101, 110, 103, 116, 104]⟩, .string q])) : Flds w v (sf ++ [Se.size n]) := by
  refine Flds.own (B := B) ?_ (by rw [List.length_append]; simp; omega)
  rw [List.length_append, size_cells sf n q h]
  exact own
set_option maxHeartbeats 8000000 in
theorem sfwd_any (m t : List UInt8) (u : Value) (fs : List Fl) (d : ByteArray) (k : Int) (w : World) (hu : Flds w u fs) (hn : fs.length ≤ 1048576) (hmt : m.length + t.length ≤ 1048576) (hb : d.size ≤ 1048576) (hfs : ∀ f ∈ fs, f.1.length + f.2.length ≤ 1048576) (hm : MH k w)
    (hT : Lib.TabIs Tryd.prog w "internal/strconv.uint64pow10" .u64 Lib.pow10Tab) (o : List UInt8 × Int) (ho : Se.fwd m t fs d.data.toList = o) :
    Calls Tryd.prog 6 #[.agg #[.string (mk m), .string (mk t), u, .string d]] w fun e w' => e = .returned (.tuple #[.string (mk o.1), .int .i64 o.2]) ∧ Below w.heap.size w w' := by
  obtain ⟨z, hz⟩ : ∃ z, Se.wrong m t fs d.data.toList = z := ⟨_, rfl⟩
  obtain ⟨r, hr⟩ : ∃ r, Cu.sizeOf fs = r := ⟨_, rfl⟩
  have HCK := hide (fun W (h : Below w.heap.size w W) => scheck_any m t u fs d W (hu.below h) hn hmt hb hfs z hz r hr)
  have HST := hide (fun W (h : Below w.heap.size w W) => strip_any m t u fs k W (hu.below h) hn hmt hfs (hm.below h))
  have HIT := hide (fun W (h : Below w.heap.size w W) => sitoa_at (d.size : Int) W (by omega) (by omega) (stab_below hT h))
  have hsl : (Se.strip fs).length ≤ 1048576 := Nat.le_trans (Se.less_len _ _) hn
  obtain ⟨q, hq⟩ := ex_list (Lib.itoa (d.size : Int))
  rw [back_list q _ hq] at HIT
  unfold Se.fwd at ho
  rw [hz, hr, len_data] at ho
  have hz4 : z = 0 → d.size ≤ 4096 := fun h => by have := (Se.wrong_ok (hz.trans h)).2.2.2; rw [len_data] at this; exact this
  obtain ⟨OUT, hOUT⟩ : ∃ l, Se.out r.1 fs d.size = l := ⟨_, rfl⟩
  rw [hOUT] at ho
  have hou1 : OUT = if r.1 = 1 then Se.strip fs else Se.strip fs ++ [Se.size d.size] := by rw [← hOUT]; rfl
  obtain ⟨z2, hz2⟩ : ∃ z, Mh.check m t OUT = z := ⟨_, rfl⟩
  rw [hz2] at ho
  obtain ⟨P, hP⟩ : ∃ P, mk (if z2 = 0 then Mh.text m t OUT else []) = P := ⟨_, rfl⟩
  have hPs : P.size ≤ 40000 := by
    rw [← hP, mk_size]; split
    · rename_i h; exact Mh.text_len (hz2.trans h)
    · simp
  have HPR := hide (fun W v' (hz0 : z = 0) (h : Flds W v' OUT) => print_any m t v' OUT z2 W h (by omega) (fun f hf => by
    have := out_mem (hz4 hz0) hfs f (by rw [hOUT]; exact hf); omega) hz2)
  rw [hP] at HPR
  have HE1 : Hid (z ≠ 0 → mk o.1 = ⟨#[]⟩ ∧ o.2 = z) := hide (fun h => by rw [if_pos h] at ho; rw [← ho]; exact ⟨rfl, rfl⟩)
  have HE2 : Hid (z = 0 → z2 ≠ 0 → mk o.1 = ⟨#[]⟩ ∧ o.2 = z2) := hide (fun h h2 => by rw [if_neg (by simpa using h), if_pos h2] at ho; rw [← ho]; exact ⟨rfl, rfl⟩)
  have HE3 : Hid (z = 0 → z2 = 0 → mk o.1 = P ++ d ∧ o.2 = 0) := hide (fun h h2 => by
    rw [if_neg (by simpa using h), if_neg (by simpa using h2)] at ho
    rw [← ho, ← hP, if_pos h2]
    refine ⟨?_, rfl⟩
    show mk (_ ++ d.data.toList) = _
    rw [← cat_mk, mk_data])
  have HOU := hide hou1
  have HQ := hide hq
  unfold headV at HST HPR
  obtain ⟨uo, c, rfl, hc⟩ := hu.form
  obtain ⟨i1, hi1, hz10, hz11, hz12⟩ := info_parts infoF
  obtain ⟨x, hx⟩ : ∃ x, mk m = x := ⟨_, rfl⟩
  obtain ⟨y, hy⟩ : ∃ y, mk t = y := ⟨_, rfl⟩
  rw [hx, hy] at HCK HST HPR ⊢
  obtain ⟨sf, hsf⟩ : ∃ l, Se.strip fs = l := ⟨_, rfl⟩
  rw [hsf] at HST hsl HOU
  obtain ⟨r1, r2, r3⟩ := r
  dsimp only at HCK HOU
  obtain ⟨q1, hq1⟩ : ∃ x, (if z = 0 then r1 else 0) = x := ⟨_, rfl⟩
  obtain ⟨q2, hq2⟩ : ∃ x, (if z = 0 then r2 else 0) = x := ⟨_, rfl⟩
  rw [hq1, hq2] at HCK
  have HQ1 : Hid (z = 0 → q1 = r1) := hide (fun h => by rw [← hq1, if_pos h])
  clear hx hy hu hfs hz hr hq ho hOUT hou1 hz2 hP hq1 hq2 hsf hm hT hz4
  have X1 := QX.new (base := w.heap.size) w (Nat.le_refl _) x y uo fs.length c d
  have bb1 := (Below.refl w.heap.size w).alloc (Nat.le_refl _) (.cells #[.string x, .string y, .slice uo fs.length c, .string d] 26)
  have hs1 : (w.alloc (.cells #[.string x, .string y, .slice uo fs.length c, .string d] 26)).heap.size = w.heap.size + 1 := by simp
  obtain ⟨W1, hW1⟩ : ∃ W, w.alloc (.cells #[.string x, .string y, .slice uo fs.length c, .string d] 26) = W := ⟨_, rfl⟩
  rw [hW1] at X1 bb1 hs1
  have B1 := hide bb1
  have HBOX := hide (fun W (h : Below W1.heap.size W1 W) => (⟨(X1.below h).cells, (X1.below h).lt.2⟩ : (_ ∧ _ ∧ _ ∧ _) ∧ _))
  have HLD := hide (fun W (h : Below W1.heap.size W1 W) => (X1.below h).load)
  obtain ⟨⟨a0, a1, a2, a3⟩, hl1⟩ := (unhide HBOX) W1 (Below.refl _ _)
  clear X1 bb1
  go_enter Tryd.func6, Tryd.ntmps6
  go_wp2_with fail
  clear hW1 a0 a1 a2 a3 hl1
  refine ((unhide HCK) W1 (unhide B1)).mono ?_; rintro e w2 ⟨rfl, b2⟩
  have X3 := BX.new (base := w2.heap.size) w2 (Nat.le_refl _) q1 q2
  have bb3 := (Below.refl w2.heap.size w2).alloc (Nat.le_refl _) (.cells #[.int .i64 q1, .int .i64 q2] 52)
  obtain ⟨g3, hg3⟩ : ∃ g, w2.heap.size = g := ⟨_, rfl⟩
  obtain ⟨W3, hW3⟩ : ∃ W, w2.alloc (.cells #[.int .i64 q1, .int .i64 q2] 52) = W := ⟨_, rfl⟩
  rw [hW3] at X3 bb3
  rw [hg3] at X3
  have B3 := hide (bel_trans b2 bb3)
  have X3' := hide X3
  obtain ⟨c0, c1⟩ := X3.cells
  have hg3l := X3.lt.2
  clear X3 bb3 b2 HCK
  obtain ⟨⟨a0, a1, a2, a3⟩, hl3⟩ := (unhide HBOX) W3 (unhide B3)
  by_cases hz0 : z = 0
  case neg =>
    have hzb : (z != 0) = true := by simpa using hz0
    obtain ⟨e1, e2⟩ := (unhide HE1) hz0
    have HE := hide e1
    have HF := hide e2
    clear HE1 HE2 HE3 e1 e2 hz0
    go_wp2_with fail
    go_ret2
    exact ⟨ret_si (unhide HE).symm (unhide HF).symm, bel_trans (unhide B1) (unhide B3)⟩
  have HF2 := hide ((unhide HE2) hz0)
  have HF3 := hide ((unhide HE3) hz0)
  have HPT := hide (fun W v' h => (unhide HPR) W v' hz0 h)
  have hq1 := (unhide HQ1) hz0
  subst hz0 hq1
  clear HE1 HQ1 HE2 HE3 HPR
  go_wp2_with fail
  clear hW3 hg3 a0 a1 a2 a3 hl3 c0 c1
  refine ((unhide HST) W3 (bel_trans (unhide B1) (unhide B3))).mono ?_; rintro e w4 ⟨v4, rfl, own4, b4⟩
  obtain ⟨so, sc, rfl⟩ := own_forms own4
  have X5 := HX.new (base := w4.heap.size) w4 (Nat.le_refl _) x y so sf.length sc
  have bb5 := (Below.refl w4.heap.size w4).alloc (Nat.le_refl _) (.cells #[.string x, .string y, .slice so sf.length sc] 24)
  have hs5 : w4.heap.size < (w4.alloc (.cells #[.string x, .string y, .slice so sf.length sc] 24)).heap.size := by simp
  obtain ⟨W5, hW5⟩ : ∃ W, w4.alloc (.cells #[.string x, .string y, .slice so sf.length sc] 24) = W := ⟨_, rfl⟩
  rw [hW5] at X5 bb5 hs5
  have B5 := hide (bel_trans (unhide B3) (bel_trans b4 bb5))
  have HNR : Hid (∀ q, (Value.slice so sf.length sc).ownBlock = some q → W3.heap.size ≤ q ∧ q < w4.heap.size) := hide own4.lt
  have O5 := hide (own_below own4 bb5)
  obtain ⟨c0, c1⟩ := ((unhide X3').below (bel_trans b4 bb5)).cells
  have hg3l : g3 < W5.heap.size := ((unhide X3').below (bel_trans b4 bb5)).lt.2
  obtain ⟨g5, hg5⟩ : ∃ g, w4.heap.size = g := ⟨_, rfl⟩
  have hs3 : W3.heap.size ≤ g5 := by rw [← hg5]; exact b4.size
  have hW13 := (unhide B3).size
  rw [hg5] at X5 HNR hs5
  have X5' := hide X5
  obtain ⟨p0, p1, p2⟩ := X5.cells
  obtain ⟨f0, f1, f2⟩ := X5.frozen
  obtain ⟨⟨a0, a1, a2, a3⟩, hl5⟩ := (unhide HBOX) W5 (unhide B5)
  clear X5 bb5 b4 own4 HST X3' B3
  by_cases hk : q1 = 1
  · have hkb : (q1 != 1) = false := by rw [hk]; rfl
    have HOUT : Hid (OUT = sf) := hide (by rw [unhide HOU, if_pos hk])
    clear HOU HIT hk
    go_wp2_with fail
    clear hW5 hg5 a0 a1 a2 c0 c1 p0 p1 p2 f0 f1 f2
    refine ((unhide HPT) W5 _ (by rw [unhide HOUT]; exact Flds.own (unhide O5) (by omega))).mono ?_; rintro e w6 ⟨rfl, b6⟩
    have a3' := cell_below a3 hl5 b6
    have B6 := hide (bel_trans (unhide B1) (bel_trans (unhide B5) b6))
    have hl6 := Nat.lt_of_lt_of_le hl5 b6.size
    clear b6 a3 HPT
    by_cases h2 : z2 = 0
    · have h2b : (z2 != 0) = false := by rw [h2]; rfl
      obtain ⟨e1, e2⟩ := (unhide HF3) h2
      have HE := hide e1
      have HF := hide e2
      clear HF2 HF3 e1 e2 h2
      go_wp2_with fail
      go_ret2
      exact ⟨ret_si (unhide HE).symm (unhide HF).symm, unhide B6⟩
    · have h2b : (z2 != 0) = true := by simpa using h2
      obtain ⟨e1, e2⟩ := (unhide HF2) h2
      have HE := hide e1
      have HF := hide e2
      clear HF2 HF3 e1 e2 h2
      go_wp2_with fail
      go_ret2
      exact ⟨ret_si (unhide HE).symm (unhide HF).symm, unhide B6⟩
  · have hkb : (q1 != 1) = true := by simpa using hk
    have HOUT : Hid (OUT = sf ++ [Se.size d.size]) := hide (by rw [unhide HOU, if_neg hk])
    have b3 : sf.length + 1 ≤ maxLen := by unfold maxLen; omega
    have b4 : (sf.length + 1) * 32 ≤ 140737488355328 := by omega
    have HFC : Hid (∀ W, Below W5.heap.size W5 W → (W.cell? ⟨g5, 0, none⟩ = some (.string x) ∧ W.cell? ⟨g5, 1, none⟩ = some (.string y) ∧ W.cell? ⟨g5, 2, none⟩ = some (.slice so sf.length sc)) ∧ W.cell? ⟨w.heap.size, 3, none⟩ = some (.string d) ∧ W3.heap.size ≤ W.heap.size ∧ g5 < W.heap.size ∧ w.heap.size < W.heap.size) := hide (fun W h => ⟨((unhide X5').below h).cells, cell_below a3 hl5 h, by have := h.size; omega, ((unhide X5').below h).lt.2, by have := h.size; omega⟩)
    have HIT2 := hide (fun W (h : Below W5.heap.size W5 W) => (unhide HIT) W (bel_trans (unhide B1) (bel_trans (unhide B5) h)))
    have HOW := hide (fun W (h : Below W5.heap.size W5 W) => own_below (unhide O5) h)
    have HAP : Hid (∀ W w10 v1, Below W5.heap.size W5 W → (W.alloc (.cells #[.string ⟨#[67, 111, 110, 116, 101, 110, 116, 45, 76, 101, 110, 103, 116, 104]⟩, .string q] 57)).grownBy w10 (Value.slice so sf.length sc).ownBlock → w10.ownsRow W3.heap.size 57 2 v1 (sf.length + 1) (cellsF sf ++ [.string ⟨#[67, 111, 110, 116, 101, 110, 116, 45, 76, 101, 110, 103, 116, 104]⟩, .string q]) → (v1.ownBlock = (Value.slice so sf.length sc).ownBlock ∨ v1.ownBlock = some (W.alloc (.cells #[.string ⟨#[67, 111, 110, 116, 101, 110, 116, 45, 76, 101, 110, 103, 116, 104]⟩, .string q] 57)).heap.size) → HX w10 g5 g5 x y (.slice so sf.length sc) ∧ Below W1.heap.size W1 w10 ∧ (∀ p, v1.ownBlock = some p → p ≠ g5)) := hide (fun W w10 v1 hbc gr own at1 => by
      have bal := bel_trans hbc ((Below.refl W.heap.size W).alloc (Nat.le_refl _) (.cells #[.string ⟨#[67, 111, 110, 116, 101, 110, 116, 45, 76, 101, 110, 103, 116, 104]⟩, .string q] 57))
      have hr := unhide HNR
      have hal : (W.alloc (.cells #[.string ⟨#[67, 111, 110, 116, 101, 110, 116, 45, 76, 101, 110, 103, 116, 104]⟩, .string q] 57)).heap.size = W.heap.size + 1 := by simp
      have hw := hbc.size
      refine ⟨((unhide X5').below bal).kept gr (fun e => by have := (hr g5 e).2; omega), (bel_trans (unhide B5) bal).grown gr (bel_trans (unhide B5) bal).size (fun p hp => by have := (hr p hp).1; omega), fun p hp e => ?_⟩
      rcases at1 with h | h
      · have := (hr p (h.symm.trans hp)).2; omega
      · have := Option.some.inj (h.symm.trans hp); omega)
    clear HOU HIT hk
    go_upto_region 6 with fail
    clear hW5 hg5 c0 c1 f0 f1 f2 a0 a1 a2
    have HBC : Hid (Below W5.heap.size W5 W5.drew) := hide (Below.refl _ _).drew
    go_region_law (first
      | (go_simp; go_at_call 22; refine ((unhide HIT2) _ (unhide HBC)).mono ?_; rintro e w9 ⟨rfl, b9⟩; have hbc := bel_trans (unhide HBC) b9; obtain ⟨⟨p0, p1, p2⟩, a3, hsz, hg5w, hww⟩ := (unhide HFC) w9 hbc; have HBC := hide hbc; clear hbc b9)
      | (refine step_append_at rfl (.tmp 23) (.tmp 29) 22 rfl W3.heap.size 57 i1 (.agg #[.string ByteArray.empty, .string ByteArray.empty]) 2 32 Tryd.underlying22 hi1 hz10 hz11 hz12 rfl (by decide) _ sf.length (cellsF sf) rfl (((unhide HOW) _ (unhide HBC)).alloc _) _ 1 1 _ rfl rfl (cell_two_new _ _ _ _) (by simp [Value.oneCell']) b3 b4 (by simp; omega) ?_; intro vv w10 own10 grow10 at10; obtain ⟨Y10, B10, NE10⟩ := unhide HAP _ w10 vv (unhide HBC) grow10 own10 at10; obtain ⟨oo, cc, rfl⟩ := own_forms own10; obtain ⟨p0, p1, p2⟩ := Y10.cells; obtain ⟨r0, r1, r2⟩ := Y10.frozen; have hl10 := Y10.lt.2))
    all_goals (
      obtain ⟨Y11, k11⟩ := Y10.set2 (.slice oo (sf.length + 1) cc)
      have B11 := B10.grown k11 B10.size (fun p hp => by have := Option.some.inj hp; omega)
      have F11 := hide (size_own (unhide HQ) hsl (World.ownsRow.kept own10 k11 (.inr (fun e => NE10 g5 e rfl))))
      obtain ⟨⟨_, _, _, a3⟩, hlb⟩ := (unhide HBOX) _ B11
      have A3 := hide a3
      have HLB := hide hlb
      have B12 := hide B11
      clear a3 hlb B11 Y11 k11 own10 grow10 at10 NE10 B10
      go_wp2_with fail
      refine ((unhide HPT) _ _ (by rw [unhide HOUT]; exact unhide F11)).mono ?_; rintro e w6 ⟨rfl, b6⟩
      have a3' := cell_below (unhide A3) (unhide HLB) b6
      have B6 := hide (bel_trans (unhide B1) (bel_trans (unhide B12) b6))
      have hl6 := Nat.lt_of_lt_of_le (unhide HLB) b6.size
      clear b6 HPT A3 B12 HLB F11 p0 p1 p2 r0 r1 r2
      by_cases h2 : z2 = 0
      · have h2b : (z2 != 0) = false := by rw [h2]; rfl
        obtain ⟨e1, e2⟩ := (unhide HF3) h2
        have HE := hide e1
        have HF := hide e2
        clear HF2 HF3 e1 e2 h2
        go_wp2_with fail
        go_ret2
        exact ⟨ret_si (unhide HE).symm (unhide HF).symm, unhide B6⟩
      · have h2b : (z2 != 0) = true := by simpa using h2
        obtain ⟨e1, e2⟩ := (unhide HF2) h2
        have HE := hide e1
        have HF := hide e2
        clear HF2 HF3 e1 e2 h2
        go_wp2_with fail
        go_ret2
        exact ⟨ret_si (unhide HE).symm (unhide HF).symm, unhide B6⟩)
end Go.Proofs.YtmgealcolofomaaDoor

/- Walk: a head without what is for one connection (the document's). -/
namespace Go.Proofs.YtmgealcolofomaaDoor
open Go.RowKit Kb Go.Maps
set_option linter.unusedVariables false
set_option maxRecDepth 20000
open Mh (Fl)

theorem hasS_any (w : World) (B : Nat) (v : Value) (l : List (List UInt8)) (x : ByteArray) (h : w.ownsRow B 9 1 v l.length (cellsS l)) (hl : l.length ≤ 8796093022208) :
    Calls Tryd.prog 35 #[v, .string x] w fun e w' => e = .returned (.bool (decide (x.data.toList ∈ l))) ∧ w' = w := by
  by_cases hn : l = []
  · subst hn
    obtain ⟨o1, c1, rfl, _⟩ := own_forms h
    refine (Tryd.slices_Contains_string_empty o1 c1 x w).mono ?_
    rintro e w' ⟨rfl, rfl⟩
    exact ⟨by simp, rfl⟩
  · obtain ⟨g1, c1, rfl, _⟩ := own_form h (List.length_pos_iff.2 hn)
    refine (Tryd.slices_Contains_string g1 0 l.length c1 (l.map mk) x w (by simp) (by omega) ?_).mono ?_
    · intro j hj
      rw [List.length_map] at hj
      rw [Nat.zero_add, h.cellAt j (by omega), cellsS, List.getElem?_map, List.getElem?_eq_getElem hj, List.getD, List.getElem?_map, List.getElem?_eq_getElem hj]; rfl
    · rintro e w' ⟨rfl, rfl⟩
      refine ⟨?_, rfl⟩
      have : Lib.containsS ((l.map mk).take l.length) x = decide (x.data.toList ∈ l) := by
        rw [Bool.eq_iff_iff, Lib.containsS_iff, decide_eq_true_eq, List.take_of_length_le (by simp), List.mem_map]
        constructor
        · rintro ⟨a, ha, rfl⟩; simpa [mk] using ha
        · intro hx; exact ⟨_, hx, mk_data x⟩
      rw [this]
theorem base_own (W : World) : (W.alloc (.cells #[.string ⟨#[99, 111, 110, 110, 101, 99, 116, 105, 111, 110]⟩, .string ⟨#[107, 101, 101, 112, 45, 97, 108, 105, 118, 101]⟩, .string ⟨#[112, 114, 111, 120, 121, 45, 99, 111, 110, 110, 101, 99, 116, 105, 111, 110]⟩, .string ⟨#[116, 101]⟩, .string ⟨#[116, 114, 97, 105, 108, 101, 114]⟩, .string ⟨#[116, 114, 97, 110, 115, 102, 101, 114, 45, 101, 110, 99, 111, 100, 105, 110, 103]⟩, .string ⟨#[117, 112, 103, 114, 97, 100, 101]⟩, .string ⟨#[99, 111, 110, 116, 101, 110, 116, 45, 108, 101, 110, 103, 116, 104]⟩] 9)).ownsRow W.heap.size 9 1 (.slice (some ⟨W.heap.size, 0, none⟩) 8 8) 8 (cellsS Se.base) :=
  lit_own W Se.base (by decide)
set_option maxHeartbeats 8000000 in
theorem rstrip_any (m t : List UInt8) (u : Value) (fs : List Fl) (w : World) (hu : Flds w u fs) (hn : fs.length ≤ 1048576) (hmt : m.length + t.length ≤ 1048576) (hfs : ∀ f ∈ fs, f.1.length + f.2.length ≤ 1048576) :
    Calls Tryd.prog 10 #[headV m t u] w fun e w' => ∃ v, e = .returned (headV m t v) ∧ w'.ownsRow w.heap.size 57 2 v (Se.strip fs).length (cellsF (Se.strip fs)) ∧ Below w.heap.size w w' := by
  have hgl := Mh.gets_len Se.conn fs
  have HML := hide (fun x (hx : x ∈ Mh.gets Se.conn fs) => show x.length ≤ 1048576 by
    obtain ⟨f, hf, rfl⟩ := gets_from hx
    have := hfs f hf; omega)
  have HG := hide (fun W (h : Below w.heap.size w W) => rget_any m t u fs ⟨#[67, 111, 110, 110, 101, 99, 116, 105, 111, 110]⟩ W (hu.below h) (by decide) (fun f hf => by have := hfs f hf; omega) (Mh.gets Se.conn fs) rfl)
  have HST : Hid (Se.strip fs = Se.less (Se.base ++ (Mh.gets Se.conn fs).flatMap Se.nms) fs) := hide rfl
  obtain ⟨gs, hgs⟩ : ∃ gs, Mh.gets Se.conn fs = gs := ⟨_, rfl⟩
  rw [hgs] at hgl HML HG HST
  clear hgs
  have HFS := hide hfs
  have HU := hide hu
  unfold headV at HG ⊢
  obtain ⟨o, c, rfl, hc⟩ := hu.form
  obtain ⟨i0, hi, hz0, hz1, hz2⟩ := info_parts infoS
  obtain ⟨i1, hi1, hz10, hz11, hz12⟩ := info_parts infoF
  obtain ⟨x, hx⟩ : ∃ x, mk m = x := ⟨_, rfl⟩
  obtain ⟨y, hy⟩ : ∃ y, mk t = y := ⟨_, rfl⟩
  rw [hx, hy] at HG ⊢
  clear hx hy hu hfs
  have X1 := HX.new (base := w.heap.size) w (Nat.le_refl _) x y o fs.length c
  have bb1 := (Below.refl w.heap.size w).alloc (Nat.le_refl _) (.cells #[.string x, .string y, .slice o fs.length c] 24)
  have hs1 : (w.alloc (.cells #[.string x, .string y, .slice o fs.length c] 24)).heap.size = w.heap.size + 1 := by simp
  obtain ⟨W1, hW1⟩ : ∃ W, w.alloc (.cells #[.string x, .string y, .slice o fs.length c] 24) = W := ⟨_, rfl⟩
  rw [hW1] at X1 bb1 hs1
  have X2 := HX.new (base := W1.heap.size) W1 (Nat.le_refl _) ⟨#[]⟩ ⟨#[]⟩ none 0 0
  have bb2 := (Below.refl W1.heap.size W1).alloc (Nat.le_refl _) (.cells #[.string ⟨#[]⟩, .string ⟨#[]⟩, .slice none 0 0] 24)
  obtain ⟨W2, hW2⟩ : ∃ W, W1.alloc (.cells #[.string ⟨#[]⟩, .string ⟨#[]⟩, .slice none 0 0] 24) = W := ⟨_, rfl⟩
  have Y1 := X1.below bb2
  rw [hW2] at X2 bb2 Y1
  have B2 := hide (bel_trans bb1 bb2)
  rw [hs1] at X2
  have HBOX := hide (fun W (h : Below W2.heap.size W2 W) => (⟨(Y1.below h).cells, (X2.below h).cells, (X2.below h).frozen, (X2.below h).lt.2⟩ : (_ ∧ _ ∧ _) ∧ (_ ∧ _ ∧ _) ∧ (_ ∧ _ ∧ _) ∧ _))
  have HRS := hide (fun W (h : Below W2.heap.size W2 W) => X2.below h)
  have R3 := base_own W2
  have b3 := (Below.refl W2.heap.size W2).alloc (Nat.le_refl _) (.cells #[.string ⟨#[99, 111, 110, 110, 101, 99, 116, 105, 111, 110]⟩, .string ⟨#[107, 101, 101, 112, 45, 97, 108, 105, 118, 101]⟩, .string ⟨#[112, 114, 111, 120, 121, 45, 99, 111, 110, 110, 101, 99, 116, 105, 111, 110]⟩, .string ⟨#[116, 101]⟩, .string ⟨#[116, 114, 97, 105, 108, 101, 114]⟩, .string ⟨#[116, 114, 97, 110, 115, 102, 101, 114, 45, 101, 110, 99, 111, 100, 105, 110, 103]⟩, .string ⟨#[117, 112, 103, 114, 97, 100, 101]⟩, .string ⟨#[99, 111, 110, 116, 101, 110, 116, 45, 108, 101, 110, 103, 116, 104]⟩] 9)
  obtain ⟨W3, hW3⟩ : ∃ W, W2.alloc (.cells #[.string ⟨#[99, 111, 110, 110, 101, 99, 116, 105, 111, 110]⟩, .string ⟨#[107, 101, 101, 112, 45, 97, 108, 105, 118, 101]⟩, .string ⟨#[112, 114, 111, 120, 121, 45, 99, 111, 110, 110, 101, 99, 116, 105, 111, 110]⟩, .string ⟨#[116, 101]⟩, .string ⟨#[116, 114, 97, 105, 108, 101, 114]⟩, .string ⟨#[116, 114, 97, 110, 115, 102, 101, 114, 45, 101, 110, 99, 111, 100, 105, 110, 103]⟩, .string ⟨#[117, 112, 103, 114, 97, 100, 101]⟩, .string ⟨#[99, 111, 110, 116, 101, 110, 116, 45, 108, 101, 110, 103, 116, 104]⟩] 9) = W := ⟨_, rfl⟩
  have hs3 : W2.heap.size < W3.heap.size := by rw [← hW3]; simp
  rw [hW3] at R3 b3
  have BW3 := hide b3
  have R3' := hide R3
  obtain ⟨⟨a0, a1, a2⟩, _, _, hl2⟩ := (unhide HBOX) W3 b3
  clear X1 X2 Y1 bb1 bb2 R3 b3
  go_enter Tryd.func10, Tryd.ntmps10
  go_wp2_with fail
  clear hW1 hW2 hW3
  refine ((unhide HG) W3 (bel_trans (unhide B2) (unhide BW3))).mono ?_; rintro e w4 ⟨v4, rfl, own4, b4⟩
  obtain ⟨vo, vc, rfl⟩ := own_forms own4
  have R4 := hide (own_below (unhide R3') b4)
  have HV4 : Hid (∀ q, (Value.slice vo gs.length vc).ownBlock = some q → W3.heap.size ≤ q ∧ q < w4.heap.size) := hide (fun q hq => own4.lt q hq)
  have O4 := hide own4
  have B4 := hide (bel_trans (unhide BW3) b4)
  have hs4 := b4.size
  clear own4 b4 R3' HG a0 a1 a2
  go_wp2_with fail
  go_loopw [3, 5] (fun nv x wr => ∃ (i n nc : Nat) (no : Option Addr) (L : List (List UInt8)), nv = .slice no n nc ∧ x = .int .i64 i ∧ i ≤ gs.length ∧ L = Se.base ++ (gs.take i).flatMap Se.nms ∧ L.length = n ∧ n ≤ 8 + i * 1048577 ∧ wr.ownsRow W2.heap.size 9 1 (.slice no n nc) n (cellsS L) ∧ (∀ q, (Value.slice no n nc).ownBlock = some q → q = W2.heap.size ∨ w4.heap.size ≤ q) ∧ wr.ownsRow W3.heap.size 9 1 (.slice vo gs.length vc) gs.length (cellsS gs) ∧ Below W2.heap.size W2 wr ∧ w4.heap.size ≤ wr.heap.size) (fun _ x _ => gs.length - (intOf x).toNat)
  case atStart => exact ⟨0, 8, 8, _, Se.base, rfl, rfl, Nat.zero_le _, by simp, rfl, by omega, unhide R4, fun q hq => .inl (Option.some.inj hq).symm, unhide O4, unhide B4, Nat.le_refl _⟩
  case round =>
    obtain ⟨i, n, nc, no, L, rfl, rfl, hi', hL, hLn, hnn, hN, hQ, hO, hB, hsr⟩ := hrel
    by_cases hlt : i < gs.length
    · obtain ⟨v, hv⟩ : ∃ v, gs[i]? = some v := ⟨gs[i], List.getElem?_eq_getElem hlt⟩
      obtain ⟨g, c', he, hcc⟩ := own_form hO (by omega)
      cases he
      have l0 := (hO.cellAt i (by omega)).trans (cellsS_at hv)
      have hvl := (unhide HML) v (List.mem_of_getElem? hv)
      obtain ⟨a, ha⟩ : ∃ a, mk v = a := ⟨_, rfl⟩
      have hva : v = a.data.toList := by rw [← ha]; simp [mk]
      have has : a.size ≤ 1048576 := by rw [← ha, mk_size]; exact hvl
      rw [ha] at l0
      have HP := hide (fun W => rpieces_s ⟨#[44]⟩ a W (by omega) ⟨by decide, by decide⟩)
      rw [show (⟨#[44]⟩ : ByteArray).data.toList = [44] from rfl, pc_one] at HP
      have HMC := hide (fun p (hp : p ∈ Cs.cut 44 a.data.toList) => show p.length ≤ 1048576 by
        have := Mh.pc_mem_len (t := [44]) (by simp) a.data.toList p (by rw [pc_one]; exact hp)
        rw [len_data] at this; omega)
      have hcl := Mh.pc_len (t := [44]) (by simp) a.data.toList
      rw [pc_one, len_data] at hcl
      have HSP : Hid (Se.base ++ (gs.take (i + 1)).flatMap Se.nms = L ++ (Cs.cut 44 a.data.toList).map fun p => lower (trim p)) := hide (by
        rw [List.take_add_one, hv, hva, hL]; simp [Se.nms])
      obtain ⟨cs, hcs⟩ : ∃ cs, Cs.cut 44 a.data.toList = cs := ⟨_, rfl⟩
      rw [hcs] at HP HMC hcl HSP
      have hgv := (unhide HV4) g rfl
      have HN := hide hN
      have HQ := hide hQ
      have HO := hide hO
      have HB := hide hB
      have HLN := hide hLn
      have hgr := (hO.lt g rfl).2
      clear hcs hN hQ hO hB ha hva hv hvl hL hLn O4 R4 B4
      go_wp2_with fail
      refine ((unhide HP) wr).mono ?_; rintro e w5 ⟨v5, rfl, own5, b5⟩
      obtain ⟨po, pc, rfl⟩ := own_forms own5
      have N5 := hide (own_below (unhide HN) b5)
      have O5 := hide (own_below (unhide HO) b5)
      have B5 := hide (bel_trans (unhide HB) b5)
      have hs5 := b5.size
      have HQ5 : Hid (∀ q, (Value.slice no n nc).ownBlock = some q → (q = W2.heap.size ∨ w4.heap.size ≤ q) ∧ q < wr.heap.size) := hide (fun q hq => ⟨unhide HQ q hq, ((unhide HN).lt q hq).2⟩)
      have HPV : Hid (∀ q, (Value.slice po cs.length pc).ownBlock = some q → wr.heap.size ≤ q ∧ q < w5.heap.size) := hide (fun q hq => own5.lt q hq)
      have OC5 := hide own5
      clear HN HQ HO HB own5 b5 HP l0
      obtain ⟨wp, hwp⟩ : ∃ z, wr.heap.size = z := ⟨_, rfl⟩
      rw [hwp] at OC5 HQ5 HPV hs5 hsr hgr
      clear hwp
      go_wp2_with fail
      go_loopw [3, 7] (fun nv x w6 => ∃ (j n2 nc2 : Nat) (no2 : Option Addr) (L2 : List (List UInt8)), nv = .slice no2 n2 nc2 ∧ x = .int .i64 j ∧ j ≤ cs.length ∧ L2 = L ++ (cs.take j).map (fun p => lower (trim p)) ∧ L2.length = n2 ∧ n2 ≤ 8 + i * 1048577 + j ∧ w6.ownsRow W2.heap.size 9 1 (.slice no2 n2 nc2) n2 (cellsS L2) ∧ (∀ q, (Value.slice no2 n2 nc2).ownBlock = some q → (q = W2.heap.size ∨ w4.heap.size ≤ q) ∧ (q < wp ∨ w5.heap.size ≤ q)) ∧ w6.ownsRow W3.heap.size 9 1 (.slice (some ⟨g, 0, none⟩) gs.length vc) gs.length (cellsS gs) ∧ w6.ownsRow wp 9 1 (.slice po cs.length pc) cs.length (cellsS cs) ∧ Below W2.heap.size W2 w6 ∧ w5.heap.size ≤ w6.heap.size) (fun _ x _ => cs.length - (intOf x).toNat)
      case atStart => exact ⟨0, n, nc, no, L, rfl, rfl, Nat.zero_le _, by simp, unhide HLN, by omega, unhide N5, fun q hq => ⟨((unhide HQ5) q hq).1, .inl ((unhide HQ5) q hq).2⟩, unhide O5, unhide OC5, unhide B5, Nat.le_refl _⟩
      case round =>
        clear N5 O5 OC5 B5 HQ5
        obtain ⟨j, n2, nc2, no2, L2, rfl, rfl, hj, hL2, hLn2, hn2, hN, hQ, hO, hC, hB, hsr6⟩ := hrel
        by_cases hlt2 : j < cs.length
        · obtain ⟨p, hp⟩ : ∃ p, cs[j]? = some p := ⟨cs[j], List.getElem?_eq_getElem hlt2⟩
          obtain ⟨gp, cp, he, hcc2⟩ := own_form hC (by omega)
          cases he
          have l0 := (hC.cellAt j (by omega)).trans (cellsS_at hp)
          have hpl := (unhide HMC) p (List.mem_of_getElem? hp)
          obtain ⟨q, hq⟩ : ∃ q, mk p = q := ⟨_, rfl⟩
          have hpq : p = q.data.toList := by rw [← hq]; simp [mk]
          have hqs : q.size ≤ 1048576 := by rw [← hq, mk_size]; exact hpl
          rw [hq] at l0
          obtain ⟨r, hr⟩ := ex_list (trim q.data.toList)
          have hrs : r.size ≤ 1048576 := by
            have := trim_len q.data.toList
            rw [← hr, len_data, len_data] at this; omega
          obtain ⟨z, hz⟩ := ex_list (lower r.data.toList)
          have HTR := hide (fun W => rtrim_any q W (by omega))
          have HLW := hide (fun W => rlow_any r W (by omega))
          rw [back_list r _ hr] at HTR
          rw [back_list z _ hz] at HLW
          have HPS : Hid (L ++ (cs.take (j + 1)).map (fun p => lower (trim p)) = L2 ++ [z.data.toList]) := hide (by
            rw [List.take_add_one, hp, hz, hr, hpq, hL2]; simp)
          have hgp := (unhide HPV) gp rfl
          have hgpr := (hC.lt gp rfl).2
          have HN := hide hN
          have HQ := hide hQ
          have HO := hide hO
          have HC := hide hC
          have HB := hide hB
          have HLN2 := hide hLn2
          have b3 : n2 + 1 ≤ maxLen := by unfold maxLen; omega
          have b4 : (n2 + 1) * 16 ≤ 140737488355328 := by omega
          clear hN hQ hO hC hB hp hq hpq hr hz hpl hL2 hLn2
          go_wp2_with fail
          refine ((unhide HTR) wr).mono ?_; rintro e wx ⟨rfl, hwx⟩; rw [hwx]; clear hwx wx
          go_wp2_with fail
          refine ((unhide HLW) wr).mono ?_; rintro e w7 ⟨rfl, b7⟩
          have N7 := hide (own_below (unhide HN) b7)
          have bal := (Below.refl w7.heap.size w7).alloc (Nat.le_refl _) (.cells #[.string z] 9)
          have O7 := hide (own_below (own_below (unhide HO) b7) bal)
          have C7 := hide (own_below (own_below (unhide HC) b7) bal)
          have B7 := hide (bel_trans (unhide HB) b7)
          have hB7 := (unhide B7).size
          have hs7 := b7.size
          clear b7 bal HN HO HC HB l0 HTR HLW
          go_wp2_with (at_builtin; refine wpList_append_own_at _ rfl _ _ 72 rfl W2.heap.size 9 i0 (.string ByteArray.empty) 1 16 Tryd.underlying72 hi hz0 hz1 hz2 rfl (by decide) _ n2 (cellsS L2) rfl ((unhide N7).alloc _) _ 1 1 _ rfl rfl (cell_one_n _ _ _) (by simp [Value.oneCell']) b3 b4 (by simp; omega) ?_; intro v1 w8 own1 grow1 _ at1)
          obtain ⟨oo, cc, rfl⟩ := own_forms own1
          have at1 : (Value.slice oo (n2 + 1) cc).ownBlock = (Value.slice no2 n2 nc2).ownBlock ∨ (Value.slice oo (n2 + 1) cc).ownBlock = some (w7.alloc (.cells #[.string z] 9)).heap.size := at1
          have grow1 : (w7.alloc (.cells #[.string z] 9)).grownBy w8 (Value.slice no2 n2 nc2).ownBlock := grow1
          have hs8 : w5.heap.size ≤ w8.heap.size := by
            have h2 := grow1.size
            have h3 : (w7.alloc (.cells #[.string z] 9)).heap.size = w7.heap.size + 1 := by simp
            omega
          have hkey : ∀ q, (Value.slice oo (n2 + 1) cc).ownBlock = some q → (q = W2.heap.size ∨ w4.heap.size ≤ q) ∧ (q < wp ∨ w5.heap.size ≤ q) := fun q hq => by
            rcases at1 with h | h
            · exact (unhide HQ) q (by rw [← h]; exact hq)
            · rw [h] at hq
              have h2 := Option.some.inj hq
              have h3 : (w7.alloc (.cells #[.string z] 9)).heap.size = w7.heap.size + 1 := by simp
              have h4 : (w7.alloc (.cells #[.string z] 9)).heap.size = q := h2
              omega
          refine ⟨?_, by simp [intOf]; omega⟩
          refine ⟨j + 1, n2 + 1, cc, oo, L2 ++ [z.data.toList], rfl, by go_num, by omega, (unhide HPS).symm, by rw [List.length_append, unhide HLN2]; rfl, by omega, ?_, hkey, World.ownsRow.kept (unhide O7) grow1 (.inr (fun e => by rcases ((unhide HQ) g e.symm).1 with h | h <;> omega)), World.ownsRow.kept (unhide C7) grow1 (.inr (fun e => by rcases ((unhide HQ) gp e.symm).2 with h | h <;> omega)), ((unhide B7).alloc hB7 _).grown grow1 (by simp; omega) (own_lt (unhide N7)), hs8⟩
          rw [cellsS_append]
          show World.ownsRow _ _ _ _ _ _ (cellsS L2 ++ [Value.string (mk z.data.toList)])
          rw [mk_data]; exact own1
        · obtain rfl : j = cs.length := by omega
          rw [List.take_length] at hL2
          have HL2 := hide hL2
          have HLN2 := hide hLn2
          have HN := hide hN
          have HQ := hide hQ
          have HO := hide hO
          have HB := hide hB
          clear hN hQ hO hC hB hL2 hLn2
          go_wp2_with fail
          refine ⟨?_, by simp [intOf]; omega⟩
          exact ⟨i + 1, n2, nc2, no2, L2, rfl, by go_num, by omega, (unhide HL2).trans (unhide HSP).symm, unhide HLN2, by omega, unhide HN, fun q hq => ((unhide HQ) q hq).1, unhide HO, unhide HB, by omega⟩
    · obtain rfl : i = gs.length := by omega
      rw [List.take_length] at hL
      have HST2 : Hid (Se.strip fs = Se.less L fs) := hide (by rw [unhide HST, hL])
      have HB := hide hB
      have HLN := hide hLn
      have hnr : ∀ q, (Value.slice no n nc).ownBlock = some q → q < wr.heap.size := fun q hq => (hN.lt q hq).2
      have HN := hide hN
      obtain ⟨⟨a0, a1, a2⟩, _, _, hlr⟩ := (unhide HBOX) wr hB
      clear hN hQ hO hB hL hLn O4 R4 B4 HST HML
      have X5 := hide (HX.new (base := wr.heap.size) wr (Nat.le_refl _) x y none 0 0)
      have bb5 := (Below.refl wr.heap.size wr).alloc (Nat.le_refl _) (.cells #[.string x, .string y, .slice none 0 0] 24)
      obtain ⟨g5, hg5⟩ : ∃ g, wr.heap.size = g := ⟨_, rfl⟩
      obtain ⟨W5, hW5⟩ : ∃ W, wr.alloc (.cells #[.string x, .string y, .slice none 0 0] 24) = W := ⟨_, rfl⟩
      rw [hW5] at X5 bb5
      have N5 := hide (own_below (unhide HN) bb5)
      have B5 := hide (bel_trans (unhide HB) bb5)
      have hs5 : W2.heap.size ≤ g5 := by rw [← hg5]; exact (unhide HB).size
      have hlg : w.heap.size + 1 < g5 := by rw [← hg5]; exact hlr
      have hs6 : g5 < W5.heap.size := by rw [← hg5, ← hW5]; simp
      rw [hg5] at X5
      have HNR : Hid (∀ q, (Value.slice no n nc).ownBlock = some q → q < g5) := hide (by rw [← hg5]; exact hnr)
      obtain ⟨f50, f51, f52⟩ := (unhide X5).frozen
      obtain ⟨_, _, c52⟩ := (unhide X5).cells
      have hput : W5.setCell ⟨g5, 2, none⟩ (.slice none 0 0) = W5 := by rw [← hW5, ← hg5, World.setCell_alloc_new]; rfl
      clear bb5 hnr HN HB
      go_wp2_with fail
      clear hW5 hg5 a0 a1 a2 f50 f51 f52 c52 hput
      go_loopw [9] (fun z w6 => ∃ (j : Nat) (acc : List Fl) (o' : Option Addr) (c' : Nat), z = .int .i64 j ∧ j ≤ fs.length ∧ acc = Se.less L (fs.take j) ∧ HX w6 g5 g5 x y (.slice o' acc.length c') ∧ w6.ownsRow W5.heap.size 57 2 (.slice o' acc.length c') acc.length (cellsF acc) ∧ W5.grownBy w6 (some g5)) (fun z _ => fs.length - (intOf z).toNat)
      case atStart => exact ⟨0, [], none, 0, rfl, Nat.zero_le _, rfl, unhide X5, World.ownsRow_nil _ _ _ _, ⟨rfl, rfl, rfl, Nat.le_refl _, fun _ _ _ => rfl⟩⟩
      case round =>
        obtain ⟨j, acc, o', c', rfl, hj, hacc, hX, hO, hGR⟩ := hrel
        have HB2 : Hid (Below W2.heap.size W2 wr) := hide ((unhide B5).grown hGR (unhide B5).size (fun q hq => by have := Option.some.inj hq; omega))
        have HNr : Hid (wr.ownsRow W2.heap.size 9 1 (.slice no n nc) n (cellsS L)) := hide (World.ownsRow.kept (unhide N5) hGR (.inr (fun e => by have := (unhide HNR) g5 e; omega)))
        have XR := hide hX
        have OR := hide hO
        have GR := hide hGR
        have HACC := hide hacc
        have hal : acc.length ≤ j := by rw [hacc]; exact Nat.le_trans (Se.less_len _ _) (by rw [List.length_take]; omega)
        obtain ⟨⟨a0, a1, a2⟩, ⟨q0, q1, q2⟩, ⟨f0, f1, f2⟩, hlr⟩ := (unhide HBOX) wr (unhide HB2)
        clear hacc hX hO hGR
        by_cases hlt : j < fs.length
        · obtain ⟨f, hf⟩ : ∃ f, fs[j]? = some f := ⟨fs[j], List.getElem?_eq_getElem hlt⟩
          obtain ⟨g, off, c1, hv, hg, hcell⟩ := ((unhide HU).below (bel_trans (unhide B2) (unhide HB2))).at_ (by intro e; rw [e] at hlt; cases hlt)
          cases hv
          obtain ⟨l0, l1⟩ := hcell j f hf
          have hfl := (unhide HFS) f (List.mem_of_getElem? hf)
          have HSN := hide (Se.less_snoc L fs j f hf)
          obtain ⟨a, ha⟩ : ∃ a, mk f.1 = a := ⟨_, rfl⟩
          obtain ⟨b, hb⟩ : ∃ b, mk f.2 = b := ⟨_, rfl⟩
          have ha' : f.1 = a.data.toList := by rw [← ha]; simp [mk]
          have hb' : f.2 = b.data.toList := by rw [← hb]; simp [mk]
          rw [ha] at l0
          rw [hb] at l1
          rw [ha', hb', len_data, len_data] at hfl
          have has : a.size ≤ 1048576 := by omega
          obtain ⟨q, hq⟩ := ex_list (lower a.data.toList)
          have HLA := hide (fun W => rlow_any a W (by omega))
          rw [back_list q _ hq] at HLA
          rw [ha', ← hq] at HSN
          have HFE : Hid (f = (a.data.toList, b.data.toList)) := hide (by rw [← ha', ← hb'])
          have HCE : Hid (∀ W, Below wr.heap.size wr W → (W.cell? ⟨w.heap.size, 2, none⟩ = some (.slice (some ⟨g, off, none⟩) fs.length c)) ∧ W.cell? ⟨g, off + j * 2, none⟩ = some (.string a) ∧ W.cell? ⟨g, off + j * 2 + 1, none⟩ = some (.string b) ∧ w.heap.size < W.heap.size ∧ g < W.heap.size) := hide (fun W h => ⟨cell_below a2 (by omega) h, cell_below l0 hg h, cell_below l1 hg h, by have := h.size; omega, by have := h.size; omega⟩)
          clear ha hb ha' hb' hcell hf hq hfl f0 f1 f2 q0 q1 q2 a0 a1
          go_wp2_with fail
          refine ((unhide HLA) wr).mono ?_; rintro e w7 ⟨rfl, b7⟩
          have X7 := hide ((unhide XR).below b7)
          have O7 := hide (own_below (unhide OR) b7)
          have G7 := hide (grown_below' (unhide GR) b7)
          have N7 := own_below (unhide HNr) b7
          have HCO := hide (hasS_any w7 W2.heap.size (.slice no n nc) L q (by rw [unhide HLN]; exact N7) (by rw [unhide HLN]; omega))
          obtain ⟨m2, l0', l1', hlw, hlg⟩ := (unhide HCE) w7 b7
          clear b7 N7 l0 l1 a2 HCE HLA XR OR GR HNr HB2
          go_wp2_with fail
          by_cases hin : q.data.toList ∈ L
          · rw [decide_eq_true hin] at HCO
            have HXX : Hid (Se.less L (fs.take (j + 1)) = acc) := hide (by rw [unhide HSN, if_pos hin, List.append_nil, unhide HACC])
            clear HSN hin
            refine (unhide HCO).mono ?_; rintro e wx ⟨rfl, hwx⟩; rw [hwx]; clear hwx wx HCO
            go_wp2_with fail
            exact ⟨⟨j + 1, acc, o', c', by go_num, by omega, (unhide HXX).symm, unhide X7, unhide O7, unhide G7⟩, by simp [intOf]; omega⟩
          · rw [decide_eq_false hin] at HCO
            have HXX : Hid (Se.less L (fs.take (j + 1)) = acc ++ [(a.data.toList, b.data.toList)]) := hide (by rw [unhide HSN, if_neg hin, unhide HFE, unhide HACC])
            clear HSN hin HACC
            refine (unhide HCO).mono ?_; rintro e wx ⟨rfl, hwx⟩; rw [hwx]; clear hwx wx HCO
            obtain ⟨n1, hn1⟩ : ∃ n1, acc.length = n1 := ⟨_, rfl⟩
            rw [hn1] at X7 O7 hal
            have HN1 := hide hn1
            have b3 : n1 + 1 ≤ maxLen := by unfold maxLen; omega
            have b4 : (n1 + 1) * 32 ≤ 140737488355328 := by omega
            have OWD := hide ((unhide O7).drew)
            have hs7 := (unhide G7).size
            have HAP : Hid (∀ w8 v1, (w7.drew.alloc (.cells #[.string a, .string b] 57)).grownBy w8 (Value.slice o' n1 c').ownBlock → w8.ownsRow W5.heap.size 57 2 v1 (n1 + 1) (cellsF acc ++ [.string a, .string b]) → HX w8 g5 g5 x y (.slice o' n1 c') ∧ W5.grownBy w8 (some g5)) := hide (fun w8 v1 gr own => by
              have bd : Below w7.heap.size w7 w7.drew := (Below.refl _ _).drew
              have bal := bel_trans bd ((Below.refl w7.drew.heap.size w7.drew).alloc (Nat.le_refl _) (.cells #[.string a, .string b] 57))
              have hr : ∀ q, (Value.slice o' n1 c').ownBlock = some q → W5.heap.size ≤ q := own_lt (unhide O7)
              exact ⟨((unhide X7).below bal).kept gr (fun e => by have := hr g5 e; omega), grown_row (grown_below' (unhide G7) bal) gr (Nat.le_refl _) hr⟩)
            obtain ⟨v0, v1, v2⟩ := (unhide X7).cells
            obtain ⟨e0, e1, e2⟩ := (unhide X7).frozen
            have hg57 := (unhide X7).lt.2
            clear hn1
            go_wp2_with fail
            go_region_law (first
              | (refine Kb.step_append_owned rfl (.tmp 62) (.tmp 68) 22 rfl W5.heap.size 57 i1 (.agg #[.string ByteArray.empty, .string ByteArray.empty]) 2 32 Tryd.underlying22 hi1 hz10 hz11 hz12 rfl (by decide) _ n1 (cellsF acc) rfl ((unhide OWD).alloc _) _ 1 1 _ rfl rfl (cell_two_new _ _ _ _) (by simp [Value.oneCell']) b3 b4 (by simp; omega) ?_; intro vv w8 own8 grow8; obtain ⟨Y8, G8⟩ := unhide HAP w8 vv grow8 own8; obtain ⟨oo, cc, rfl⟩ := own_forms own8; obtain ⟨q0, q1, q2⟩ := Y8.cells; obtain ⟨r0, r1, r2⟩ := Y8.frozen; have hl8 := Y8.lt.2))
            all_goals (
              go_wp2_with fail
              obtain ⟨Y9, k9⟩ := Y8.set2 (.slice oo (n1 + 1) cc)
              have own9 := World.ownsRow.kept own8 k9 (.inr (fun e => by have := (own8.lt g5 e).1; omega))
              refine ⟨⟨j + 1, acc ++ [(a.data.toList, b.data.toList)], oo, cc, by go_num, by omega, (unhide HXX).symm, by rw [List.length_append, unhide HN1]; exact Y9, ?_, G8.trans k9⟩, by simp [intOf]; omega⟩
              rw [cellsF_append, List.length_append, unhide HN1]
              show World.ownsRow _ _ _ _ _ _ (cellsF acc ++ [Value.string (mk a.data.toList), Value.string (mk b.data.toList)])
              rw [mk_data, mk_data]; exact own9)
        · obtain rfl : j = fs.length := by omega
          have HE : Hid (Se.strip fs = acc) := hide (by rw [unhide HST2, unhide HACC, List.take_length])
          obtain ⟨n1, hn1⟩ : ∃ n1, acc.length = n1 := ⟨_, rfl⟩
          rw [hn1] at XR OR hal
          have HN1 := hide hn1
          have XF := (unhide HRS) wr (unhide HB2)
          obtain ⟨p0, p1, p2⟩ := (unhide XR).cells
          have PK := (XF.put x y (.slice o' n1 c') rfl).2
          have PL := (XF.put x y (.slice o' n1 c') rfl).1
          have P1 := hide PL.load
          have P2 := hide ((bel_trans (unhide B2) (unhide HB2)).grown PK (bel_trans (unhide B2) (unhide HB2)).size (fun q hq => by have := Option.some.inj hq; omega))
          have P3 := hide (World.ownsRow.kept (unhide OR) PK (.inr (fun e => by have := ((unhide OR).lt (w.heap.size + 1) e).1; omega)))
          have hww : w.heap.size ≤ W5.heap.size := by have := (unhide B2).size; omega
          have hg5r := (unhide XR).lt.2
          clear hn1 PK PL XF HACC
          go_wp2_with fail
          (try simp only [Exit.inBlock, Exit.then])
          refine bodyPost_ret_by (v := .agg #[.string x, .string y, .slice o' n1 c']) ?_ rfl ⟨.slice o' n1 c', rfl, by rw [unhide HE, unhide HN1]; exact own_mono2 (unhide P3) hww, unhide P2⟩
          refine results_c1s (p := 2) (ty := 24) ?_ _ _ (w.heap.size + 1) _ ?_ (unhide P1) <;> rfl
end Go.Proofs.YtmgealcolofomaaDoor

/- Walk: a request that is handed on (the document's). -/
namespace Go.Proofs.YtmgealcolofomaaDoor
open Go.RowKit Kb
set_option linter.unusedVariables false
set_option maxRecDepth 20000
open Mh (Fl)

theorem fwd_of {m t : List UInt8} {fs : List Fl} {b : List UInt8} {k r1 r2 r3 : Int} (hk : Mh.check m t fs = k) (hr : Cu.sizeOf fs = (r1, r2, r3)) :
    Se.fwd m t fs b = if k ≠ 0 then ([], k) else if r3 ≠ 0 then ([], r3) else if r1 = 1 ∧ b ≠ [] then ([], 4) else if 4096 < b.length then ([], 6)
      else if Mh.check m t (Se.out r1 fs b.length) ≠ 0 then ([], Mh.check m t (Se.out r1 fs b.length)) else (Mh.text m t (Se.out r1 fs b.length) ++ b, 0) := by
  unfold Se.fwd Se.wrong
  rw [hk, hr]
  dsimp only
  by_cases h1 : k ≠ 0
  · rw [if_pos h1, if_pos h1, if_pos h1]
  rw [if_neg h1, if_neg h1]
  by_cases h2 : r3 ≠ 0
  · rw [if_pos h2, if_pos h2, if_pos h2]
  rw [if_neg h2, if_neg h2]
  by_cases h3 : r1 = 1 ∧ b ≠ []
  · rw [if_pos h3, if_pos (by decide), if_pos h3]
  rw [if_neg h3, if_neg h3]
  by_cases h4 : 4096 < b.length
  · rw [if_pos h4, if_pos (by decide), if_pos h4]
  rw [if_neg h4, if_neg (by decide), if_neg h4]
set_option maxHeartbeats 8000000 in
theorem rfwd_any (m t : List UInt8) (u : Value) (fs : List Fl) (d : ByteArray) (w : World) (hu : Flds w u fs) (hn : fs.length ≤ 1048576) (hmt : m.length + t.length ≤ 1048576) (hb : d.size ≤ 1048576) (hfs : ∀ f ∈ fs, f.1.length + f.2.length ≤ 1048576)
    (hT : Lib.TabIs Tryd.prog w "internal/strconv.uint64pow10" .u64 Lib.pow10Tab) (o : List UInt8 × Int) (ho : Se.fwd m t fs d.data.toList = o) :
    Calls Tryd.prog 7 #[.agg #[.string (mk m), .string (mk t), u, .string d]] w fun e w' => e = .returned (.tuple #[.string (mk o.1), .int .i64 o.2]) ∧ Below w.heap.size w w' := by
  obtain ⟨k, hk⟩ : ∃ z, Mh.check m t fs = z := ⟨_, rfl⟩
  obtain ⟨⟨r1, r2, r3⟩, hr⟩ : ∃ r, Cu.sizeOf fs = r := ⟨_, rfl⟩
  have HCK := hide (fun W (h : Below w.heap.size w W) => rhead_any m t u fs W (hu.below h) (by omega) (fun f hf => by have := hfs f hf; omega))
  rw [hk] at HCK
  have HOF := hide (fun W (h : Below w.heap.size w W) => rof_any m t u fs W (hu.below h) (fun f hf => by have := hfs f hf; omega) (by omega) _ hr)
  dsimp only at HOF
  have HST := hide (fun W (h : Below w.heap.size w W) => rstrip_any m t u fs W (hu.below h) hn hmt hfs)
  have HIT := hide (fun W (h : Below w.heap.size w W) => sitoa_at (d.size : Int) W (by omega) (by omega) (stab_below hT h))
  have hsl : (Se.strip fs).length ≤ 1048576 := Nat.le_trans (Se.less_len _ _) hn
  obtain ⟨q, hq⟩ := ex_list (Lib.itoa (d.size : Int))
  rw [back_list q _ hq] at HIT
  rw [fwd_of hk hr, len_data] at ho
  obtain ⟨OUT, hOUT⟩ : ∃ l, Se.out r1 fs d.size = l := ⟨_, rfl⟩
  rw [hOUT] at ho
  have hou1 : OUT = if r1 = 1 then Se.strip fs else Se.strip fs ++ [Se.size d.size] := by rw [← hOUT]; rfl
  obtain ⟨z2, hz2⟩ : ∃ z, Mh.check m t OUT = z := ⟨_, rfl⟩
  rw [hz2] at ho
  have HOM : Hid (d.size ≤ 4096 → ∀ f ∈ OUT, f.1.length + f.2.length ≤ 68719476736) := hide (fun h f hf => by have := out_mem h hfs f (by rw [hOUT]; exact hf); omega)
  obtain ⟨P, hP⟩ : ∃ P, mk (Mh.text m t OUT) = P := ⟨_, rfl⟩
  have HPS : Hid (z2 = 0 → P.size ≤ 40000) := hide (fun h => by rw [← hP, mk_size]; exact Mh.text_len (hz2.trans h))
  have HPH := hide (fun W v' (h4 : d.size ≤ 4096) (h : Flds W v' OUT) => rhead_any m t v' OUT W h (by omega) ((unhide HOM) h4))
  rw [hz2] at HPH
  have HPT := hide (fun W v' (h0 : z2 = 0) (h : Flds W v' OUT) => rtext_any m t v' OUT W h (hz2.trans h0))
  rw [hP] at HPT
  have HO := hide ho
  have HPD : Hid (mk (Mh.text m t OUT ++ d.data.toList) = P ++ d) := hide (by rw [← cat_mk, mk_data, hP])
  have HOU := hide hou1
  have HQ := hide hq
  unfold headV at HCK HOF HST HPH HPT
  obtain ⟨uo, c, rfl, hc⟩ := hu.form
  obtain ⟨i1, hi1, hz10, hz11, hz12⟩ := info_parts infoF
  obtain ⟨x, hx⟩ : ∃ x, mk m = x := ⟨_, rfl⟩
  obtain ⟨y, hy⟩ : ∃ y, mk t = y := ⟨_, rfl⟩
  rw [hx, hy] at HCK HOF HST HPH HPT ⊢
  obtain ⟨sf, hsf⟩ : ∃ l, Se.strip fs = l := ⟨_, rfl⟩
  rw [hsf] at HST hsl HOU
  clear hx hy hu hfs hk hr hq ho hOUT hou1 hz2 hP hsf hT
  have X1 := QX.new (base := w.heap.size) w (Nat.le_refl _) x y uo fs.length c d
  have bb1 := (Below.refl w.heap.size w).alloc (Nat.le_refl _) (.cells #[.string x, .string y, .slice uo fs.length c, .string d] 26)
  have hs1 : (w.alloc (.cells #[.string x, .string y, .slice uo fs.length c, .string d] 26)).heap.size = w.heap.size + 1 := by simp
  obtain ⟨W1, hW1⟩ : ∃ W, w.alloc (.cells #[.string x, .string y, .slice uo fs.length c, .string d] 26) = W := ⟨_, rfl⟩
  rw [hW1] at X1 bb1 hs1
  have B1 := hide bb1
  have HBOX := hide (fun W (h : Below W1.heap.size W1 W) => (⟨(X1.below h).cells, (X1.below h).lt.2⟩ : (_ ∧ _ ∧ _ ∧ _) ∧ _))
  have HLD := hide (fun W (h : Below W1.heap.size W1 W) => (X1.below h).load)
  obtain ⟨⟨a0, a1, a2, a3⟩, hl1⟩ := (unhide HBOX) W1 (Below.refl _ _)
  clear X1 bb1
  go_enter Tryd.func7, Tryd.ntmps7
  go_wp2_with fail
  clear hW1 a0 a1 a2 a3 hl1
  refine ((unhide HCK) W1 (unhide B1)).mono ?_; rintro e w2 ⟨rfl, b2⟩
  obtain ⟨⟨a0, a1, a2, a3⟩, hl2⟩ := (unhide HBOX) w2 b2
  have BB2 := hide b2
  clear b2 HCK
  by_cases hk0 : k = 0
  case neg =>
    have hkb : (k != 0) = true := by simpa using hk0
    have HE : Hid (o = ([], k)) := hide (by rw [← unhide HO, if_pos hk0])
    clear hk0 HO
    go_wp2_with fail
    go_ret2
    exact ⟨ret_si (by rw [unhide HE]; rfl) (by rw [unhide HE]), bel_trans (unhide B1) (unhide BB2)⟩
  subst hk0
  have HO1 := hide ((if_neg (show ¬ ((0 : Int) ≠ 0) by simp)).symm.trans (unhide HO))
  clear HO
  go_wp2_with fail
  clear a0 a1 a2 a3 hl2
  refine ((unhide HOF) w2 (bel_trans (unhide B1) (unhide BB2))).mono ?_; rintro e w3 ⟨rfl, b3'⟩
  have X3 := BX.new (base := w3.heap.size) w3 (Nat.le_refl _) r1 r2
  have bb3 := (Below.refl w3.heap.size w3).alloc (Nat.le_refl _) (.cells #[.int .i64 r1, .int .i64 r2] 52)
  obtain ⟨g3, hg3⟩ : ∃ g, w3.heap.size = g := ⟨_, rfl⟩
  obtain ⟨W3, hW3⟩ : ∃ W, w3.alloc (.cells #[.int .i64 r1, .int .i64 r2] 52) = W := ⟨_, rfl⟩
  rw [hW3] at X3 bb3
  rw [hg3] at X3
  have B3 := hide (bel_trans (unhide BB2) (bel_trans b3' bb3))
  have X3' := hide X3
  obtain ⟨c0, c1⟩ := X3.cells
  have hg3l := X3.lt.2
  clear X3 bb3 b3' HOF BB2
  obtain ⟨⟨a0, a1, a2, a3⟩, hl3⟩ := (unhide HBOX) W3 (unhide B3)
  by_cases hr0 : r3 = 0
  case neg =>
    have hzb : (r3 != 0) = true := by simpa using hr0
    have HE : Hid (o = ([], r3)) := hide (by rw [← unhide HO1, if_pos hr0])
    clear hr0 HO1
    go_wp2_with fail
    go_ret2
    exact ⟨ret_si (by rw [unhide HE]; rfl) (by rw [unhide HE]), bel_trans (unhide B1) (unhide B3)⟩
  subst hr0
  have HO2 := hide ((if_neg (show ¬ ((0 : Int) ≠ 0) by simp)).symm.trans (unhide HO1))
  clear HO1
  by_cases h4 : r1 = 1 ∧ d.data.toList ≠ []
  case pos =>
    have HE : Hid (o = ([], 4)) := hide (by rw [← unhide HO2, if_pos h4])
    obtain ⟨h41, h42⟩ := h4
    have hds : (d.size : Int) > 0 := by
      have h := List.length_pos_iff.2 h42
      rw [len_data] at h; omega
    subst h41
    clear HO2 h42
    go_wp2_with fail
    go_ret2
    exact ⟨ret_si (by rw [unhide HE]; rfl) (by rw [unhide HE]), bel_trans (unhide B1) (unhide B3)⟩
  have HO3 := hide ((if_neg h4).symm.trans (unhide HO2))
  clear HO2
  by_cases h1 : r1 = 1
  · have h2 : d.data.toList = [] := Classical.byContradiction fun h => h4 ⟨h1, h⟩
    have hd0 : d.size = 0 := by rw [← len_data, h2]; rfl
    have h4096 : d.size ≤ 4096 := by omega
    have HO4 := hide ((if_neg (show ¬ 4096 < d.size by omega)).symm.trans (unhide HO3))
    have HOUT : Hid (OUT = sf) := hide (by rw [unhide HOU, if_pos h1])
    have hdI : ¬ (d.size : Int) > 0 := by omega
    have hdJ : ¬ (d.size : Int) > 4096 := by omega
    clear h4 h2 HO3 HOU
    subst h1
    clear hd0
    go_wp2_with fail
    clear hW3 hg3 a0 a1 a2 a3 hl3 c0 c1
    refine ((unhide HST) W3 (bel_trans (unhide B1) (unhide B3))).mono ?_; rintro e w4 ⟨v4, rfl, own4, b4⟩
    obtain ⟨so, sc, rfl⟩ := own_forms own4
    have X5 := HX.new (base := w4.heap.size) w4 (Nat.le_refl _) x y so sf.length sc
    have bb5 := (Below.refl w4.heap.size w4).alloc (Nat.le_refl _) (.cells #[.string x, .string y, .slice so sf.length sc] 24)
    have hs5 : w4.heap.size < (w4.alloc (.cells #[.string x, .string y, .slice so sf.length sc] 24)).heap.size := by simp
    obtain ⟨W5, hW5⟩ : ∃ W, w4.alloc (.cells #[.string x, .string y, .slice so sf.length sc] 24) = W := ⟨_, rfl⟩
    rw [hW5] at X5 bb5 hs5
    have B5 := hide (bel_trans (unhide B3) (bel_trans b4 bb5))
    have HNR : Hid (∀ q, (Value.slice so sf.length sc).ownBlock = some q → W3.heap.size ≤ q ∧ q < w4.heap.size) := hide own4.lt
    have O5 := hide (own_below own4 bb5)
    obtain ⟨c0, c1⟩ := ((unhide X3').below (bel_trans b4 bb5)).cells
    have hg3l : g3 < W5.heap.size := ((unhide X3').below (bel_trans b4 bb5)).lt.2
    obtain ⟨g5, hg5⟩ : ∃ g, w4.heap.size = g := ⟨_, rfl⟩
    have hs3 : W3.heap.size ≤ g5 := by rw [← hg5]; exact b4.size
    have hW13 := (unhide B3).size
    rw [hg5] at X5 HNR hs5
    have X5' := hide X5
    obtain ⟨f0, f1, f2⟩ := X5.frozen
    clear X5 bb5 b4 own4 HST X3' B3
    obtain ⟨⟨_, _, _, a3⟩, hl5⟩ := (unhide HBOX) W5 (unhide B5)
    obtain ⟨p0, p1, p2⟩ := (unhide X5').cells
    have hg5l := (unhide X5').lt.2
    have YN := X5'
    have FN : Hid (Flds W5 (.slice so sf.length sc) OUT) := hide (by rw [unhide HOUT]; exact Flds.own (unhide O5) (by omega))
    have BN := B5
    clear X5' O5 B5 HOUT
    go_wp2_with fail
    clear hW5 hg5 c0 c1 f0 f1 f2 p0 p1 p2 a3 hl5
    refine ((unhide HPH) W5 _ h4096 (unhide FN)).mono ?_; rintro e w6 ⟨rfl, b6⟩
    have Y6 := hide ((unhide YN).below b6)
    have F6 := hide ((unhide FN).below b6)
    have B6 := hide (bel_trans (unhide BN) b6)
    clear b6 YN FN BN HPH
    obtain ⟨⟨a0, a1, a2, a3⟩, hl6⟩ := (unhide HBOX) w6 (unhide B6)
    obtain ⟨p0, p1, p2⟩ := (unhide Y6).cells
    have hg6 := (unhide Y6).lt.2
    by_cases h2 : z2 = 0
    · have h2b : (z2 != 0) = false := by rw [h2]; rfl
      have HE : Hid (o = (Mh.text m t OUT ++ d.data.toList, 0)) := hide (by rw [← unhide HO4, if_neg (by simpa using h2)])
      have hPs : P.size ≤ 40000 := (unhide HPS) h2
      have hPd : ¬ 9223372036854775807 < P.size + d.size := by omega
      have HPT2 := hide (fun W (h : Below w6.heap.size w6 W) => (unhide HPT) W _ h2 ((unhide F6).below h))
      have HFD := hide (fun W (h : Below w6.heap.size w6 W) => ((unhide HBOX) W (bel_trans (unhide B6) h)))
      clear h2 HO4 HPS HPT
      go_upto_region 17 with fail
      have HBC : Hid (Below w6.heap.size w6 w6.drew) := hide (Below.refl _ _).drew
      go_region_law (go_simp; go_at_call 26; refine ((unhide HPT2) _ (unhide HBC)).mono ?_; rintro e w7 ⟨rfl, b7⟩; have hbc := bel_trans (unhide HBC) b7; obtain ⟨⟨a0, a1, a2, a3⟩, hl6⟩ := (unhide HFD) w7 hbc; have HBC := hide hbc; clear hbc b7)
      all_goals (
        go_wp2_with fail
        go_ret2
        exact ⟨ret_si (by rw [unhide HE]; exact (unhide HPD).symm) (by rw [unhide HE]), bel_trans (unhide B1) (bel_trans (unhide B6) (unhide HBC))⟩)
    · have h2b : (z2 != 0) = true := by simpa using h2
      have HE : Hid (o = ([], z2)) := hide (by rw [← unhide HO4, if_pos h2])
      clear h2 HO4 HPS HPT
      go_wp2_with fail
      go_ret2
      exact ⟨ret_si (by rw [unhide HE]; rfl) (by rw [unhide HE]), bel_trans (unhide B1) (unhide B6)⟩
  · have h1b : (r1 == 1) = false := by simpa using h1
    have h1n : (r1 != 1) = true := by simpa using h1
    by_cases h5 : 4096 < d.size
    · have hdI : (d.size : Int) > 4096 := by omega
      have HE : Hid (o = ([], 6)) := hide (by rw [← unhide HO3, if_pos h5])
      clear h5 h4 HO3 h1
      go_wp2_with fail
      go_ret2
      exact ⟨ret_si (by rw [unhide HE]; rfl) (by rw [unhide HE]), bel_trans (unhide B1) (unhide B3)⟩
    have hdI : ¬ (d.size : Int) > 4096 := by omega
    have h4096 : d.size ≤ 4096 := by omega
    have HO4 := hide ((if_neg h5).symm.trans (unhide HO3))
    have HOUT : Hid (OUT = sf ++ [Se.size d.size]) := hide (by rw [unhide HOU, if_neg h1])
    clear h4 h5 HO3 HOU h1
    go_wp2_with fail
    clear hW3 hg3 a0 a1 a2 a3 hl3 c0 c1
    refine ((unhide HST) W3 (bel_trans (unhide B1) (unhide B3))).mono ?_; rintro e w4 ⟨v4, rfl, own4, b4⟩
    obtain ⟨so, sc, rfl⟩ := own_forms own4
    have X5 := HX.new (base := w4.heap.size) w4 (Nat.le_refl _) x y so sf.length sc
    have bb5 := (Below.refl w4.heap.size w4).alloc (Nat.le_refl _) (.cells #[.string x, .string y, .slice so sf.length sc] 24)
    have hs5 : w4.heap.size < (w4.alloc (.cells #[.string x, .string y, .slice so sf.length sc] 24)).heap.size := by simp
    obtain ⟨W5, hW5⟩ : ∃ W, w4.alloc (.cells #[.string x, .string y, .slice so sf.length sc] 24) = W := ⟨_, rfl⟩
    rw [hW5] at X5 bb5 hs5
    have B5 := hide (bel_trans (unhide B3) (bel_trans b4 bb5))
    have HNR : Hid (∀ q, (Value.slice so sf.length sc).ownBlock = some q → W3.heap.size ≤ q ∧ q < w4.heap.size) := hide own4.lt
    have O5 := hide (own_below own4 bb5)
    obtain ⟨c0, c1⟩ := ((unhide X3').below (bel_trans b4 bb5)).cells
    have hg3l : g3 < W5.heap.size := ((unhide X3').below (bel_trans b4 bb5)).lt.2
    obtain ⟨g5, hg5⟩ : ∃ g, w4.heap.size = g := ⟨_, rfl⟩
    have hs3 : W3.heap.size ≤ g5 := by rw [← hg5]; exact b4.size
    have hW13 := (unhide B3).size
    rw [hg5] at X5 HNR hs5
    have X5' := hide X5
    obtain ⟨f0, f1, f2⟩ := X5.frozen
    clear X5 bb5 b4 own4 HST X3' B3
    obtain ⟨⟨_, _, _, a3⟩, hl5⟩ := (unhide HBOX) W5 (unhide B5)
    obtain ⟨p0, p1, p2⟩ := (unhide X5').cells
    have hg5l := (unhide X5').lt.2
    have b3 : sf.length + 1 ≤ maxLen := by unfold maxLen; omega
    have b4 : (sf.length + 1) * 32 ≤ 140737488355328 := by omega
    have HFC : Hid (∀ W, Below W5.heap.size W5 W → (W.cell? ⟨g5, 0, none⟩ = some (.string x) ∧ W.cell? ⟨g5, 1, none⟩ = some (.string y) ∧ W.cell? ⟨g5, 2, none⟩ = some (.slice so sf.length sc)) ∧ W.cell? ⟨w.heap.size, 3, none⟩ = some (.string d) ∧ W3.heap.size ≤ W.heap.size ∧ g5 < W.heap.size ∧ w.heap.size < W.heap.size) := hide (fun W h => ⟨((unhide X5').below h).cells, cell_below a3 hl5 h, by have := h.size; omega, ((unhide X5').below h).lt.2, by have := h.size; omega⟩)
    have HIT2 := hide (fun W (h : Below W5.heap.size W5 W) => (unhide HIT) W (bel_trans (unhide B1) (bel_trans (unhide B5) h)))
    have HOW := hide (fun W (h : Below W5.heap.size W5 W) => own_below (unhide O5) h)
    have HAP : Hid (∀ W w10 v1, Below W5.heap.size W5 W → (W.alloc (.cells #[.string ⟨#[67, 111, 110, 116, 101, 110, 116, 45, 76, 101, 110, 103, 116, 104]⟩, .string q] 57)).grownBy w10 (Value.slice so sf.length sc).ownBlock → w10.ownsRow W3.heap.size 57 2 v1 (sf.length + 1) (cellsF sf ++ [.string ⟨#[67, 111, 110, 116, 101, 110, 116, 45, 76, 101, 110, 103, 116, 104]⟩, .string q]) → (v1.ownBlock = (Value.slice so sf.length sc).ownBlock ∨ v1.ownBlock = some (W.alloc (.cells #[.string ⟨#[67, 111, 110, 116, 101, 110, 116, 45, 76, 101, 110, 103, 116, 104]⟩, .string q] 57)).heap.size) → HX w10 g5 g5 x y (.slice so sf.length sc) ∧ Below W1.heap.size W1 w10 ∧ (∀ p, v1.ownBlock = some p → p ≠ g5)) := hide (fun W w10 v1 hbc gr own at1 => by
      have bal := bel_trans hbc ((Below.refl W.heap.size W).alloc (Nat.le_refl _) (.cells #[.string ⟨#[67, 111, 110, 116, 101, 110, 116, 45, 76, 101, 110, 103, 116, 104]⟩, .string q] 57))
      have hr := unhide HNR
      have hal : (W.alloc (.cells #[.string ⟨#[67, 111, 110, 116, 101, 110, 116, 45, 76, 101, 110, 103, 116, 104]⟩, .string q] 57)).heap.size = W.heap.size + 1 := by simp
      have hw := hbc.size
      refine ⟨((unhide X5').below bal).kept gr (fun e => by have := (hr g5 e).2; omega), (bel_trans (unhide B5) bal).grown gr (bel_trans (unhide B5) bal).size (fun p hp => by have := (hr p hp).1; omega), fun p hp e => ?_⟩
      rcases at1 with h | h
      · have := (hr p (h.symm.trans hp)).2; omega
      · have := Option.some.inj (h.symm.trans hp); omega)
    go_upto_region 13 with fail
    clear hW5 hg5 c0 c1 f0 f1 f2
    have HBC : Hid (Below W5.heap.size W5 W5.drew) := hide (Below.refl _ _).drew
    go_region_law (first
      | (go_simp; go_at_call 22; refine ((unhide HIT2) _ (unhide HBC)).mono ?_; rintro e w9 ⟨rfl, b9⟩; have hbc := bel_trans (unhide HBC) b9; obtain ⟨⟨p0, p1, p2⟩, a3, hsz, hg5w, hww⟩ := (unhide HFC) w9 hbc; have HBC := hide hbc; clear hbc b9)
      | (refine step_append_at rfl (.tmp 44) (.tmp 50) 22 rfl W3.heap.size 57 i1 (.agg #[.string ByteArray.empty, .string ByteArray.empty]) 2 32 Tryd.underlying22 hi1 hz10 hz11 hz12 rfl (by decide) _ sf.length (cellsF sf) rfl (((unhide HOW) _ (unhide HBC)).alloc _) _ 1 1 _ rfl rfl (cell_two_new _ _ _ _) (by simp [Value.oneCell']) b3 b4 (by simp; omega) ?_; intro vv w10 own10 grow10 at10; obtain ⟨Y10, B10, NE10⟩ := unhide HAP _ w10 vv (unhide HBC) grow10 own10 at10; obtain ⟨oo, cc, rfl⟩ := own_forms own10; obtain ⟨p0, p1, p2⟩ := Y10.cells; obtain ⟨r0, r1, r2⟩ := Y10.frozen; have hl10 := Y10.lt.2))
    all_goals (
      obtain ⟨Y11, k11⟩ := Y10.set2 (.slice oo (sf.length + 1) cc)
      have B11 := B10.grown k11 B10.size (fun p hp => by have := Option.some.inj hp; omega)
      have F11 := size_own (unhide HQ) hsl (World.ownsRow.kept own10 k11 (.inr (fun e => NE10 g5 e rfl)))
      obtain ⟨WN, hWN⟩ : ∃ W, w10.setCell ⟨g5, 2, none⟩ (.slice oo (sf.length + 1) cc) = W := ⟨_, rfl⟩
      rw [hWN] at Y11 B11 F11
      have YN := hide Y11
      have FN : Hid (Flds WN (.slice oo (sf.length + 1) cc) OUT) := hide (by rw [unhide HOUT]; exact F11)
      have BN := hide B11
      obtain ⟨p0, p1, p2⟩ := Y11.cells
      clear Y11 k11 own10 grow10 at10 NE10 B10 B11 F11
      go_wp2_with fail
      clear hWN p0 p1 p2 r0 r1 r2
      refine ((unhide HPH) WN _ h4096 (unhide FN)).mono ?_; rintro e w6 ⟨rfl, b6⟩
      have Y6 := hide ((unhide YN).below b6)
      have F6 := hide ((unhide FN).below b6)
      have B6 := hide (bel_trans (unhide BN) b6)
      clear b6 YN FN BN HPH
      obtain ⟨⟨a0, a1, a2, a3⟩, hl6⟩ := (unhide HBOX) w6 (unhide B6)
      obtain ⟨p0, p1, p2⟩ := (unhide Y6).cells
      have hg6 := (unhide Y6).lt.2
      by_cases h2 : z2 = 0
      · have h2b : (z2 != 0) = false := by rw [h2]; rfl
        have HE : Hid (o = (Mh.text m t OUT ++ d.data.toList, 0)) := hide (by rw [← unhide HO4, if_neg (by simpa using h2)])
        have hPs : P.size ≤ 40000 := (unhide HPS) h2
        have hPd : ¬ 9223372036854775807 < P.size + d.size := by omega
        have HPT2 := hide (fun W (h : Below w6.heap.size w6 W) => (unhide HPT) W _ h2 ((unhide F6).below h))
        have HFD := hide (fun W (h : Below w6.heap.size w6 W) => ((unhide HBOX) W (bel_trans (unhide B6) h)))
        clear h2 HO4 HPS HPT
        go_upto_region 17 with fail
        have HBC : Hid (Below w6.heap.size w6 w6.drew) := hide (Below.refl _ _).drew
        go_region_law (go_simp; go_at_call 26; refine ((unhide HPT2) _ (unhide HBC)).mono ?_; rintro e w7 ⟨rfl, b7⟩; have hbc := bel_trans (unhide HBC) b7; obtain ⟨⟨a0, a1, a2, a3⟩, hl6⟩ := (unhide HFD) w7 hbc; have HBC := hide hbc; clear hbc b7)
        all_goals (
          go_wp2_with fail
          go_ret2
          exact ⟨ret_si (by rw [unhide HE]; exact (unhide HPD).symm) (by rw [unhide HE]), bel_trans (unhide B1) (bel_trans (unhide B6) (unhide HBC))⟩)
      · have h2b : (z2 != 0) = true := by simpa using h2
        have HE : Hid (o = ([], z2)) := hide (by rw [← unhide HO4, if_pos h2])
        clear h2 HO4 HPS HPT
        go_wp2_with fail
        go_ret2
        exact ⟨ret_si (by rw [unhide HE]; rfl) (by rw [unhide HE]), bel_trans (unhide B1) (unhide B6)⟩)
end Go.Proofs.YtmgealcolofomaaDoor
