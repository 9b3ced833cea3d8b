/- The document's Trie: all beginnings text by text, then their nodes. -/
import Derived.Test.YtmmjcbfffcnfiaaGf
namespace Go.Proofs.Ytmmjcbfffcnfiaa
open Go.RowKit Kb Ph
set_option linter.unusedVariables false
set_option maxRecDepth 20000

/-- what the document's nodes are -/
structure Rt (ws : List ByteArray) (R : List (List UInt8)) (M : List Nd) : Prop where
  len : M.length = R.length
  zero : (nd M 0).c = 0 ∧ (nd M 0).up = 0 ∧ (nd M 0).fail = 0
  node : ∀ j, 1 ≤ j → j < M.length → ∃ (p : Nat) (b : UInt8), p < j ∧ (nd M j).c = (b.toNat : Int) ∧ (nd M j).up = (p : Int) ∧ xt R j = xt R p ++ [b] ∧ ∀ q, q < p → xt R q ≠ xt R p
  fail : ∀ j, 1 ≤ j → j < M.length → (nd M j).fail = (lastP R (xt R j) R.length : Int)
  ends : ∀ j, j < M.length → (nd M j).ends = En ws (xt R j)
theorem rt_made {ws : List ByteArray} {T : List Nd} {at_ : List Nat} {X : List (List UInt8)} {lev : Nat} (h : GI ws 40 T at_ X lev) (hw : Wt ws T at_ X) (hsz : ∀ x ∈ ws, x.size ≤ 40) : Rt ws (Rl ws 40) (made ws T X) := by
  have hX := h.Rl hsz
  have hl := h.len
  generalize Rl ws 40 = R at hX ⊢
  subst hX
  refine ⟨by rw [made_len]; exact hl.symm, ?_, ?_, ?_, ?_⟩
  · rw [made_nd hw.tx.pos]; exact ⟨hw.tx.c0, hw.tx.up0, by dsimp only; rw [hw.tx.ff_zero]; rfl⟩
  · intro j h1 h2
    rw [made_len] at h2
    rw [made_nd h2]
    obtain ⟨p, b, hp, hc, hu, hx⟩ := hw.tx.node j h1 h2
    exact ⟨p, b, hp, hc, hu, hx, fun q hq => hw.tx.inj p (by omega) q hq⟩
  · intro j h1 h2
    rw [made_len] at h2
    rw [made_nd h2, hl, hw.tx.lastP (hw.tx.fails T.length (Nat.le_refl _) j h2 (by omega))]
  · intro j h2
    rw [made_len] at h2
    rw [made_nd h2]
theorem cell_one_new (w : World) (a : Value) (t : TypeId) : ∀ j u, [a][j]? = some u → (w.alloc (.cells #[a] t)).cell? ((⟨w.heap.size, 0, none⟩ : Addr).add j) = some u := by
  intro j u hj
  rw [Addr.add_lit, Nat.zero_add, World.cell?_alloc_new w _ _ j]
  simpa using hj
theorem cellsS_at {R : List (List UInt8)} {j : Nat} (h : j < R.length) : (cellsS R)[j]? = some (.string (mk (xt R j))) := by
  simp [cellsS, xt, List.getD, List.getElem?_eq_getElem h]
theorem own_text {w : World} {B g n cap : Nat} {R : List (List UInt8)} (h : w.ownsRow B 9 1 (.slice (some ⟨g, 0, none⟩) n cap) n (cellsS R)) {j : Nat} (hj : j < R.length) : w.cell? ⟨g, j, none⟩ = some (.string (mk (xt R j))) := by
  have hl : R.length = n := by have := h.1; rw [cellsS_length] at this; omega
  rw [h.cellAt j (by omega), cellsS_at hj]
theorem one_cellsS (l : List (List UInt8)) : ∀ u ∈ cellsS l, u.oneCell' = true := by
  intro u hu
  simp only [cellsS, List.mem_map] at hu
  obtain ⟨b, _, rfl⟩ := hu; rfl
theorem mk_len (l : List UInt8) : (mk l).size = l.length := Kb.mk_sz l
theorem mk_list (l : List UInt8) : (mk l).data.toList = l := by simp [mk]
theorem index_text {w : World} {B g cap : Nat} {R : List (List UInt8)} (h : w.ownsRow B 9 1 (.slice (some ⟨g, 0, none⟩) R.length cap) R.length (cellsS R)) {p : Nat} (hp : p < R.length) (hbig : R.length ≤ 400) (hne : ∀ q, q < p → xt R q ≠ xt R p) {x : ByteArray} (hx : x = mk (xt R p)) :
    Calls Try.prog 26 #[.slice (some ⟨g, 0, none⟩) R.length cap, .string x] w fun e w' => e = .returned (.int .i64 p) ∧ w' = w := by
  have hget : ∀ j, j < R.length → (R.map mk).getD j ByteArray.empty = mk (xt R j) := by
    intro j hj
    simp [List.getD, xt, List.getElem?_eq_getElem hj]
  have := Try.slices_Index_string g 0 R.length cap (R.map mk) x w (by simp) (by omega) (by
    intro j hj
    rw [List.length_map] at hj
    rw [Nat.zero_add, hget j hj]; exact own_text h hj)
  rw [Lib.idxOfS_hit (R.map mk) R.length p x hp (by simp) (by rw [hget p hp, hx]) (by
    intro j hj e
    rw [hget j (by omega), hx] at e
    exact hne j hj (mk_inj e))] at this
  exact this
/-- the cells of the first n nodes -/
def mnP (M : List Nd) (eV : Nat → Value) (n : Nat) : List Mn := (List.range n).map fun j => ⟨(nd M j).c, (nd M j).up, (nd M j).fail, eV j⟩
theorem mnP_len (M : List Nd) (eV : Nat → Value) (n : Nat) : (mnP M eV n).length = n := by simp [mnP]
theorem mnP_at {M : List Nd} {eV : Nat → Value} {n j : Nat} (h : j < n) : (mnP M eV n)[j]? = some ⟨(nd M j).c, (nd M j).up, (nd M j).fail, eV j⟩ := by
  simp [mnP, h]
theorem mnP_snoc (M : List Nd) (eV : Nat → Value) (n : Nat) (v : Value) : mnP M (fun j => if j = n then v else eV j) (n + 1) = mnP M eV n ++ [⟨(nd M n).c, (nd M n).up, (nd M n).fail, v⟩] := by
  unfold mnP
  rw [List.range_succ, List.map_append]
  congr 1
  · apply List.map_congr_left
    intro j hj
    have := List.mem_range.1 hj
    dsimp only
    rw [if_neg (by omega)]
  · simp
theorem Rt.fits {ws : List ByteArray} {R : List (List UInt8)} {M : List Nd} (h : Rt ws R M) (hR : R.length ≤ 400) (hn : ws.length ≤ 30) : ∀ j, j < M.length → ((0 ≤ (nd M j).c ∧ (nd M j).c ≤ 255) ∧ (0 ≤ (nd M j).up ∧ (nd M j).up ≤ 400) ∧ (0 ≤ (nd M j).fail ∧ (nd M j).fail ≤ 400)) ∧ (nd M j).ends.length ≤ 30 ∧ ∀ z ∈ (nd M j).ends, 0 ≤ z ∧ z ≤ 30 := by
  intro j hj
  refine ⟨?_, ?_, ?_⟩
  · by_cases h0 : j = 0
    · subst h0; have := h.zero; omega
    · obtain ⟨p, b, hp, hc, hu, _⟩ := h.node j (by omega) hj
      have hf := h.fail j (by omega) hj
      have hl := lastP_lt R (xt R j) R.length (by rw [← h.len]; omega)
      have hb := b.toNat_lt
      have := h.len
      omega
  · rw [h.ends j hj]; have := En_len ws (xt R j); omega
  · intro z hz
    rw [h.ends j hj] at hz
    have := En_bounds hz
    omega
theorem tree_of_mn {w : World} {B : Nat} {v : Value} {ws : List ByteArray} {R : List (List UInt8)} {M : List Nd} {eV : Nat → Value} (h : Rt ws R M) (hR : R.length ≤ 400) (hn : ws.length ≤ 30) (hpos : 0 < R.length)
    (row : w.ownsRow B 57 4 v R.length (cellsM (mnP M eV R.length))) (ends : ∀ j, j < R.length → w.ownsRow B 3 1 (eV j) (nd M j).ends.length (cellsZ (nd M j).ends)) : Tree w v M := by
  obtain ⟨g, cap, rfl, hcap⟩ := own_form row hpos
  have hl := h.len
  have hget : ∀ {i x}, M[i]? = some x → i < M.length ∧ x = nd M i := by
    intro i x hi
    exact ⟨(List.getElem?_eq_some_iff.1 hi).1, (nd_of hi).symm⟩
  refine ⟨⟨_, cap, by rw [hl], by rw [hl]; exact hcap⟩, by rw [hl]; omega, ?_, ?_⟩
  · intro x hx
    obtain ⟨i, hi⟩ := List.mem_iff_getElem?.1 hx
    obtain ⟨hil, rfl⟩ := hget hi
    have := (h.fits hR hn i hil).1
    omega
  · intro _
    refine ⟨g, 0, cap, by rw [hl], (row.lt g rfl).2, ?_⟩
    intro i x hi
    obtain ⟨hil, rfl⟩ := hget hi
    obtain ⟨k0, k1, k2, k3⟩ := own_node row (mnP_at (j := i) (by omega))
    refine ⟨by rw [Nat.zero_add]; exact k0, by rw [Nat.zero_add]; exact k1, by rw [Nat.zero_add]; exact k2, eV i, by rw [Nat.zero_add]; exact k3, ?_⟩
    have hf := h.fits hR hn i hil
    refine Ints.own (ends i (by omega)) (by omega) ?_
    intro z hz
    have := hf.2.2 z hz
    omega
theorem nd_eta {x : Nd} {c p f : Int} {e : List Int} (h1 : x.c = c) (h2 : x.up = p) (h3 : x.fail = f) (h4 : x.ends = e) : x = ⟨c, p, f, e⟩ := by subst h1 h2 h3 h4; rfl
theorem one_node {w : World} {B g : Nat} {c p f : Int} {e : Value} (h : w.ownsRow B 57 4 (.slice (some ⟨g, 0, none⟩) 1 1) 1 (cellsM [⟨c, p, f, e⟩])) :
    w.cell? ⟨g, 0, none⟩ = some (.int .u8 c) ∧ w.cell? ⟨g, 1, none⟩ = some (.int .i64 p) ∧ w.cell? ⟨g, 2, none⟩ = some (.int .i64 f) ∧ w.cell? ⟨g, 3, none⟩ = some e := by
  have := own_node h (j := 0) rfl
  simpa using this
theorem one_setF {w : World} {B g : Nat} {c p f : Int} {e : Value} (h : w.ownsRow B 57 4 (.slice (some ⟨g, 0, none⟩) 1 1) 1 (cellsM [⟨c, p, f, e⟩])) (f' : Int) :
    (w.setCell ⟨g, 2, none⟩ (.int .i64 f')).ownsRow B 57 4 (.slice (some ⟨g, 0, none⟩) 1 1) 1 (cellsM [⟨c, p, f', e⟩]) ∧ w.grownBy (w.setCell ⟨g, 2, none⟩ (.int .i64 f')) (some g) := h.stored 2 (.int .i64 f')
theorem one_setE {w : World} {B g : Nat} {c p f : Int} {e : Value} (h : w.ownsRow B 57 4 (.slice (some ⟨g, 0, none⟩) 1 1) 1 (cellsM [⟨c, p, f, e⟩])) (e' : Value) :
    (w.setCell ⟨g, 3, none⟩ e').ownsRow B 57 4 (.slice (some ⟨g, 0, none⟩) 1 1) 1 (cellsM [⟨c, p, f, e'⟩]) ∧ w.grownBy (w.setCell ⟨g, 3, none⟩ e') (some g) := h.stored 3 e'
set_option maxHeartbeats 8000000 in
theorem trie_any (w : World) (v : Value) (ws : List ByteArray) (M : List Nd) (hv : Strs w v ws) (hn : ws.length ≤ 30) (hsz : ∀ x ∈ ws, x.size ≤ 40) (hM : Rt ws (Rl ws 40) M) :
    Calls Try.prog 9 #[v] w fun e w' => Below w.heap.size w w' ∧ ((400 < M.length ∧ e = .returned (.tuple #[.slice none 0 0, .int .i64 2])) ∨ (M.length ≤ 400 ∧ ∃ x, e = .returned (.tuple #[x, .int .i64 0]) ∧ Tree w' x M)) := by
  have HM := hide hM
  obtain ⟨o, c, rfl, hc⟩ := hv.form
  have hroom := hv.room
  have HV := hide hv
  have HSZ := hide hsz
  clear hv hsz hM
  obtain ⟨i0, hi, hz0, hz1, hz2⟩ := info_parts infoS
  obtain ⟨i1, hj1, hy0, hy1, hy2⟩ := info_parts infoI64
  obtain ⟨i2, hj2, hx0, hx1, hx2⟩ := info_parts infoN
  go_enter Try.func9, Try.ntmps9
  go_wp2_with fail
  go_loopw [5, 4] (fun x y wr => ∃ d : Nat, x = .int .i64 ((d : Int) + 1) ∧ d ≤ 40 ∧ Below w.heap.size w wr ∧ (Rl ws d).length ≤ 400 ∧ wr.ownsRow w.heap.size 9 1 y (Rl ws d).length (cellsS (Rl ws d))) (fun x _ _ => 41 - (intOf x).toNat)
  case atStart =>
    refine ⟨0, rfl, Nat.zero_le _, (Below.refl _ _).alloc (Nat.le_refl _) _, by simp [Rl], ?_⟩
    exact World.ownsRow_lit w #[.string ⟨#[]⟩] 1 (Nat.le_refl _) (by unfold maxLen; omega) rfl
  case round =>
    obtain ⟨w1, rfl⟩ : ∃ w1, w1 = wr := ⟨_, rfl⟩
    obtain ⟨d, rfl, hd, hbel, h400, hown⟩ := hrel
    have BEL := hide hbel
    have ROW := hide hown
    have hB : w.heap.size ≤ w1.heap.size := hbel.size
    clear hbel
    have hpos : 0 < (Rl ws d).length := List.length_pos_of_mem (Rl_mem.2 (.inl rfl))
    have HSH := hide (fun j (hj : j < (Rl ws d).length) => Rl_short (xt_mem hj))
    have HG := hide (Rl_grow ws d)
    obtain ⟨g, cap, hform, hcap⟩ := own_form hown hpos
    subst hform
    have HSUC : Hid (Rl ws (d + 1) = Rl ws d ++ lvP ws (Rl ws d) d (Rl ws d).length) := hide rfl
    obtain ⟨R, hR⟩ : ∃ R, Rl ws d = R := ⟨_, rfl⟩
    rw [hR] at ROW h400 hpos HSH HG HSUC hcap ⊢
    have HR := hide hR
    clear hR hown
    by_cases hlt : d < 40
    · have hdI : (d : Int) + 1 ≤ 40 := by omega
      go_wp2_with fail
      go_loopw [7, 6] (fun x y w2 => ∃ u : Nat, x = .int .i64 u ∧ u ≤ R.length ∧ Below w1.heap.size w1 w2 ∧ w2.ownsRow w1.heap.size 9 1 y (lvP ws R d u).length (cellsS (lvP ws R d u))) (fun x _ _ => R.length - (intOf x).toNat)
      case atStart => exact ⟨0, rfl, Nat.zero_le _, Below.refl _ _, World.ownsRow_nil _ _ _ _⟩
      case round =>
        obtain ⟨w2, rfl⟩ : ∃ w2, w2 = wr := ⟨_, rfl⟩
        obtain ⟨u, rfl, hu, hbel, hown⟩ := hrel
        have B2 := hide hbel
        have OWN := hide hown
        have hB2 : w1.heap.size ≤ w2.heap.size := hbel.size
        clear hbel hown
        by_cases hlu : u < R.length
        · have huI : (u : Int) < R.length := by omega
          have HXS := (unhide HSH) u hlu
          have htx := own_text (own_below (unhide ROW) (unhide B2)) hlu
          have HL0 : Hid ((xt R u).length = d → lvP ws R d (u + 1) = lvP ws R d u ++ kidP ws (xt R u) 256) := hide (fun h => by rw [lvP, if_pos h])
          have HL1 : Hid ((xt R u).length ≠ d → lvP ws R d (u + 1) = lvP ws R d u) := hide (fun h => by rw [lvP, if_neg h, List.append_nil])
          have hlen := lvP_len ws R d u
          obtain ⟨t, ht⟩ : ∃ t, xt R u = t := ⟨_, rfl⟩
          rw [ht] at HXS htx HL0 HL1
          have HT := hide ht
          clear ht
          obtain ⟨q, hq⟩ : ∃ q, mk t = q := ⟨_, rfl⟩
          have hqs : q.size = t.length := by rw [← hq, mk_len]
          have HQ := hide hq
          rw [hq] at htx
          clear hq
          by_cases hdl : t.length = d
          · have HL0 := hide ((unhide HL0) hdl)
            have hbne : (((q.size : Nat) : Int) != (d : Int)) = false := by rw [hqs, hdl]; simp
            clear HL1
            obtain ⟨L, hL⟩ : ∃ L, lvP ws R d u = L := ⟨_, rfl⟩
            rw [hL] at OWN HL0 hlen
            clear hL
            have hsub : (d : Int) + 1 - 1 = (d : Int) := by omega
            go_wp2_with fail
            go_loopw [8, 6] (fun x y w3 => ∃ b : Nat, x = .int .i64 b ∧ b ≤ 256 ∧ Below w1.heap.size w1 w3 ∧ w3.ownsRow w1.heap.size 9 1 y (L ++ kidP ws t b).length (cellsS (L ++ kidP ws t b))) (fun x _ _ => 256 - (intOf x).toNat)
            case atStart => exact ⟨0, rfl, Nat.zero_le _, unhide B2, by simpa [kidP] using unhide OWN⟩
            case round =>
              obtain ⟨w3, rfl⟩ : ∃ w3, w3 = wr := ⟨_, rfl⟩
              obtain ⟨vL, rfl⟩ : ∃ vL, vL = u6 := ⟨_, rfl⟩
              obtain ⟨b, rfl, hb, hbel, hown⟩ := hrel
              have B3 := hide hbel
              have OWN3 := hide hown
              have hB3 : w1.heap.size ≤ w3.heap.size := hbel.size
              clear hbel hown OWN
              by_cases hlb : b < 256
              · have htx3 := own_text (own_below (unhide ROW) (unhide B3)) hlu
                rw [unhide HT, unhide HQ] at htx3
                obtain ⟨z, hz⟩ : ∃ z : UInt8, z.toNat = b := ⟨UInt8.ofNat b, by simp; omega⟩
                have hzb : UInt8.ofNat b = z := by rw [← hz]; simp
                have hcv : ∀ (W : World) (bk : Nat), W.cell? ⟨bk, 0, none⟩ = some (.int .u8 b) → (convert 53 9 (.slice (some ⟨bk, 0, none⟩) 1 1)).run Try.prog W = .ok (.string ⟨[z].toArray⟩) W := fun W bk h => Kb.conv_one W bk _ (by rw [hz]; exact h)
                have HK0 : Hid (okp ws (t ++ [z]) = true → kidP ws t (b + 1) = kidP ws t b ++ [t ++ [z]]) := hide (fun h => by rw [kidP, hzb, if_pos h])
                have HK1 : Hid (okp ws (t ++ [z]) = false → kidP ws t (b + 1) = kidP ws t b) := hide (fun h => by rw [kidP, hzb, if_neg (by rw [h]; simp), List.append_nil])
                have hkl := kidP_len ws t b
                have hbI : (b : Int) < 256 := by omega
                obtain ⟨r, hr⟩ : ∃ r : ByteArray, q ++ ⟨[z].toArray⟩ = r := ⟨_, rfl⟩
                have HRR : Hid (mk (t ++ [z]) = r) := hide (by rw [← hr, ← unhide HQ, ← cat_mk]; rfl)
                have hrs : r.size ≤ 41 := by rw [← unhide HRR, mk_len]; simp; omega
                clear hz hzb htx
                have hw8 : IntKind.u8.wrap (b : Int) = b := by simp [IntKind.wrap, IntKind.signed, IntKind.bits]; omega
                have hux : 0 ≤ (u : Int) ∧ (u : Int) < R.length := by omega
                have hg3 : g < w3.heap.size := ((own_below (unhide ROW) (unhide B3)).lt g rfl).2
                go_wp2_with fail
                go_region
                have b4 : Below w1.heap.size w1 (w3.alloc (.cells #[.int .u8 b] 5)).drew := ((unhide B3).alloc hB3 _).drew
                have OWN4 := hide (((unhide OWN3).alloc (.cells #[.int .u8 b] 5)).drew)
                have hB4 : w1.heap.size ≤ (w3.alloc (.cells #[.int .u8 b] 5)).drew.heap.size := b4.size
                have B4 := hide b4
                clear b4 OWN3 B3 hB3 hg3 htx3 hcv
                obtain ⟨w4, hw4⟩ : ∃ w4, (w3.alloc (.cells #[.int .u8 b] 5)).drew = w4 := ⟨_, rfl⟩
                rw [hw4] at B4 OWN4 hB4 ⊢
                clear hw4
                have HVW := hide ((unhide HV).below (bel_trans (unhide BEL) (unhide B4)))
                go_wp2_with fail
                go_loopw [10, 6] (fun x y wr => ∃ i : Nat, x = .int .i64 i ∧ y = vL ∧ i ≤ ws.length ∧ wr = w4 ∧ ∀ j x, j < i → ws[j]? = some x → pfx (t ++ [z]) x.data.toList = false) (fun x _ _ => ws.length - (intOf x).toNat)
                case atStart => exact ⟨0, rfl, rfl, Nat.zero_le _, rfl, fun j x hj => by omega⟩
                case round =>
                  obtain ⟨i, rfl, rfl, hi', hw, hall⟩ := hrel
                  have hw := hw.symm
                  subst hw
                  have HALL := hide hall
                  clear hall
                  by_cases hli : i < ws.length
                  · obtain ⟨x, hx⟩ : ∃ x, ws[i]? = some x := ⟨ws[i], List.getElem?_eq_getElem hli⟩
                    obtain ⟨gx, off, c', he, hg, hcell⟩ := (unhide HVW).at_ (by intro e; rw [e] at hli; cases hli)
                    have hload := hcell i x hx
                    have hiI : (i : Int) < ws.length := by omega
                    have hxs := (unhide HSZ) x (List.mem_of_getElem? hx)
                    have HA := hide (at0_any x r w4 (by omega) (by omega))
                    have HX := hide hx
                    rw [← unhide HRR, mk_list, unhide HRR] at HA
                    cases he
                    clear hcell hx
                    go_wp2_with fail
                    refine (unhide HA).mono ?_; rintro e wx ⟨rfl, hwx⟩; rw [hwx]; clear hwx wx HA
                    by_cases hp : pfx (t ++ [z]) x.data.toList = true
                    · rw [hp]
                      have HK := hide ((unhide HK0) (List.any_eq_true.2 ⟨x, List.mem_of_getElem? (unhide HX), hp⟩))
                      have b3 : (L ++ kidP ws t b).length + 1 ≤ maxLen := by unfold maxLen; rw [List.length_append]; omega
                      have b4 : ((L ++ kidP ws t b).length + 1) * 16 ≤ 140737488355328 := by rw [List.length_append]; omega
                      obtain ⟨Lb, hLb⟩ : ∃ Lb, L ++ kidP ws t b = Lb := ⟨_, rfl⟩
                      rw [hLb] at b3 b4 OWN4
                      have HLB := hide hLb
                      clear hLb hp
                      go_wp2_with (at_builtin; refine wpList_append_own _ rfl _ _ 22 rfl w1.heap.size 9 i0 (.string ByteArray.empty) 1 16 Try.underlying22 hi hz0 hz1 hz2 rfl (by decide) _ Lb.length (cellsS Lb) rfl ((unhide OWN4).alloc _) _ 1 1 _ rfl rfl (cell_one_new _ _ _) (by simp [Value.oneCell']) b3 b4 (by simp; omega) ?_; intro v1 w6 own1 grow1 _)
                      refine ⟨⟨b + 1, by go_num, by omega, ((unhide B4).alloc hB4 _).grown grow1 (by simp; omega) (own_lt (unhide OWN4)), ?_⟩, by simp [intOf]; omega⟩
                      rw [unhide HK, ← List.append_assoc, unhide HLB, List.length_append, cellsS_append]
                      rw [show cellsS [t ++ [z]] = [.string r] by rw [← unhide HRR]; rfl]
                      exact own1
                    · have hp := Bool.eq_false_iff.2 hp
                      rw [hp]
                      have HP := hide hp
                      clear hp
                      go_wp2_with fail
                      refine ⟨⟨i + 1, by go_num, rfl, by omega, trivial, ?_⟩, by simp [intOf]; omega⟩
                      intro j y hj hy
                      by_cases hji : j = i
                      · subst hji; rw [unhide HX] at hy; cases hy; exact unhide HP
                      · exact (unhide HALL) j y (by omega) hy
                  · obtain rfl : i = ws.length := by omega
                    have HK := hide ((unhide HK1) (by
                      rw [Bool.eq_false_iff]; intro h
                      obtain ⟨x, hx, hd⟩ := List.any_eq_true.1 h
                      obtain ⟨j, hj⟩ := List.mem_iff_getElem?.1 hx
                      change pfx (t ++ [z]) x.data.toList = true at hd
                      rw [(unhide HALL) j x (List.getElem?_eq_some_iff.1 hj).1 hj] at hd; cases hd))
                    go_wp2_with fail
                    exact ⟨⟨b + 1, by go_num, by omega, unhide B4, by rw [unhide HK]; exact unhide OWN4⟩, by simp [intOf]; omega⟩
              · obtain rfl : b = 256 := by omega
                go_wp2_with fail
                exact ⟨⟨u + 1, by go_num, by omega, unhide B3, by rw [unhide HL0]; exact unhide OWN3⟩, by simp [intOf]; omega⟩
          · have HL1 := hide ((unhide HL1) hdl)
            have hbne : (((q.size : Nat) : Int) != (d : Int)) = true := by rw [hqs]; simp; omega
            have hsub : (d : Int) + 1 - 1 = (d : Int) := by omega
            clear HL0 hdl
            go_wp2_with fail
            exact ⟨⟨u + 1, by go_num, by omega, unhide B2, by rw [unhide HL1]; exact unhide OWN⟩, by simp [intOf]; omega⟩
        · obtain rfl : u = R.length := by omega
          have OWN2 := OWN
          have ROW2 := hide (own_below (unhide ROW) (unhide B2))
          have BW2 := hide (bel_trans (unhide BEL) (unhide B2))
          have hBW : w.heap.size ≤ w2.heap.size := (unhide BW2).size
          have hl := lvP_len ws R d R.length
          obtain ⟨L, hL⟩ : ∃ L, lvP ws R d R.length = L := ⟨_, rfl⟩
          rw [hL] at OWN2 HSUC hl
          clear hL OWN ROW B2
          rcases (unhide OWN2).2 with ⟨h0, h1⟩ | ⟨g2, cap2, cur2, h0, h1⟩
          · subst h0
            have hLn : L = [] := List.length_eq_zero_iff.1 h1
            subst hLn
            clear h1
            go_wp2_with (at_builtin; refine wpList_append_own_none rfl _ _ 22 rfl w.heap.size 9 i0 1 Try.underlying22 hi _ R.length (cellsS R) rfl (unhide ROW2) rfl ?_)
            refine ⟨⟨d + 1, by go_num, by omega, unhide BW2, by rw [unhide HSUC, List.append_nil]; exact h400, by rw [unhide HSUC, List.append_nil]; exact unhide ROW2⟩, by simp [intOf]; omega⟩
          · subst h0
            clear h1
            have hnews : ∀ k u, (cellsS L)[k]? = some u → w2.cell? ((⟨g2, 0, none⟩ : Addr).add k) = some u := by
              intro k u hk
              have hkl : k < L.length := by have := (List.getElem?_eq_some_iff.1 hk).1; rwa [cellsS_length] at this
              rw [add_addr, Nat.zero_add, own_text (unhide OWN2) hkl, ← hk, cellsS_at hkl]
            have HNW := hide hnews
            clear hnews
            have b3 : R.length + L.length ≤ maxLen := by unfold maxLen; omega
            have b4 : (R.length + L.length) * 16 ≤ 140737488355328 := by omega
            have HSL : Hid ((Rl ws (d + 1)).length = R.length + L.length) := hide (by rw [unhide HSUC, List.length_append])
            by_cases hbig : 400 < R.length + L.length
            · have hbI : ((R.length : Int) + (L.length : Int)) > 400 := by omega
              go_wp2_with (at_builtin; refine wpList_append_own _ rfl _ _ 22 rfl w.heap.size 9 i0 (.string ByteArray.empty) 1 16 Try.underlying22 hi hz0 hz1 hz2 rfl (by decide) _ R.length (cellsS R) rfl (unhide ROW2) ⟨g2, 0, none⟩ L.length cap2 (cellsS L) rfl (by simp [cellsS]) (unhide HNW) (one_cellsS L) b3 b4 hBW ?_; intro v5 w5 own5 grow5 _; obtain ⟨o5, c5, rfl⟩ := own_forms own5)
              go_ret2
              refine ⟨(unhide BW2).grown grow5 hBW (own_lt (unhide ROW2)), .inl ⟨?_, rfl⟩⟩
              rw [(unhide HM).len]
              have h1 := Rl_grow ws (d + 1) (39 - d)
              rw [unhide HSL, show d + 1 + (39 - d) = 40 by omega] at h1
              omega
            · have hbI : ¬ (((R.length : Int) + (L.length : Int)) > 400) := by omega
              go_wp2_with (at_builtin; refine wpList_append_own _ rfl _ _ 22 rfl w.heap.size 9 i0 (.string ByteArray.empty) 1 16 Try.underlying22 hi hz0 hz1 hz2 rfl (by decide) _ R.length (cellsS R) rfl (unhide ROW2) ⟨g2, 0, none⟩ L.length cap2 (cellsS L) rfl (by simp [cellsS]) (unhide HNW) (one_cellsS L) b3 b4 hBW ?_; intro v5 w5 own5 grow5 _; obtain ⟨o5, c5, rfl⟩ := own_forms own5)
              refine ⟨⟨d + 1, by go_num, by omega, (unhide BW2).grown grow5 hBW (own_lt (unhide ROW2)), by rw [unhide HSL]; omega, by rw [unhide HSL, unhide HSUC, cellsS_append]; exact own5⟩, by simp [intOf]; omega⟩
    · have hd40 : d = 40 := by omega
      subst hd40
      have HMR : Hid (Rt ws R M) := hide (by rw [← unhide HR]; exact unhide HM)
      have hMl : M.length = R.length := (unhide HMR).len
      have hdI : ¬ (((40 : Nat) : Int) + 1 ≤ 40) := by omega
      clear HM HG HSUC HR
      go_wp2_with fail
      go_loopw [12, 11] (fun x y wr => ∃ i : Nat, x = .int .i64 i ∧ i ≤ R.length ∧ Below w1.heap.size w1 wr ∧ ∃ eV, wr.ownsRow w1.heap.size 57 4 y i (cellsM (mnP M eV i)) ∧ ∀ j, j < i → wr.ownsRow w1.heap.size 3 1 (eV j) (nd M j).ends.length (cellsZ (nd M j).ends)) (fun x _ _ => R.length - (intOf x).toNat)
      case atStart => exact ⟨0, rfl, Nat.zero_le _, Below.refl _ _, fun _ => .slice none 0 0, World.ownsRow_nil _ _ _ _, fun j hj => by omega⟩
      case round =>
        obtain ⟨w2, rfl⟩ : ∃ w2, w2 = wr := ⟨_, rfl⟩
        obtain ⟨i, rfl, hi', hbel, eV, hrow, hends⟩ := hrel
        have B2 := hide hbel
        have OUT := hide hrow
        have ENDS := hide hends
        have hB2 : w1.heap.size ≤ w2.heap.size := hbel.size
        clear hbel hrow hends
        by_cases hlt : i < R.length
        · have htx := own_text (own_below (unhide ROW) (unhide B2)) hlt
          have HXS := (unhide HSH) i hlt
          have hiI : (i : Int) < R.length := by omega
          obtain ⟨t, ht⟩ : ∃ t, xt R i = t := ⟨_, rfl⟩
          rw [ht] at HXS htx
          have HT := hide ht
          clear ht
          obtain ⟨q, hq⟩ : ∃ q, mk t = q := ⟨_, rfl⟩
          have hqs : q.size = t.length := by rw [← hq, mk_len]
          have HQ := hide hq
          have HQL : Hid (q.data.toList = t) := hide (by rw [← hq, mk_list])
          rw [hq] at htx
          clear hq
          have HT40 := hide HXS
          have hg2 : g < w2.heap.size := ((own_below (unhide ROW) (unhide B2)).lt g rfl).2
          by_cases h0 : i = 0
          · have hgt : ¬ ((i : Int) > 0) := by omega
            have hz : (nd M i).c = 0 ∧ (nd M i).up = 0 ∧ (nd M i).fail = 0 := by rw [h0]; exact (unhide HMR).zero
            obtain ⟨cc, hcc⟩ : ∃ cc : Int, 0 = cc := ⟨_, rfl⟩
            obtain ⟨pp, hpp⟩ : ∃ pp : Int, 0 = pp := ⟨_, rfl⟩
            obtain ⟨ff, hff⟩ : ∃ ff : Int, 0 = ff := ⟨_, rfl⟩
            have HNC : Hid (nd M i = ⟨cc, pp, ff, EnP ws t ws.length⟩) := hide (by
              have h4 := (unhide HMR).ends i (by omega)
              rw [unhide HT] at h4
              exact nd_eta (by rw [hz.1, hcc]) (by rw [hz.2.1, hpp]) (by rw [hz.2.2, hff]) h4)
            have NOD : Hid ((w2.alloc (.cells #[.int .u8 0, .int .i64 0, .int .i64 0, .slice none 0 0] 57)).ownsRow w2.heap.size 57 4 (.slice (some ⟨w2.heap.size, 0, none⟩) 1 1) 1 (cellsM [⟨cc, pp, ff, .slice none 0 0⟩])) := hide (by
              rw [← hcc, ← hpp, ← hff]
              exact World.ownsRow_lit w2 #[.int .u8 0, .int .i64 0, .int .i64 0, .slice none 0 0] 1 (Nat.le_refl _) (by unfold maxLen; omega) rfl)
            have B3 : Hid (Below w2.heap.size w2 (w2.alloc (.cells #[.int .u8 0, .int .i64 0, .int .i64 0, .slice none 0 0] 57))) := hide ((Below.refl _ _).alloc (Nat.le_refl _) _)
            have HQS := hide hqs
            clear hqs HXS hcc hpp hff hz h0
            go_wp2_with fail
            go_loopw [16] (fun x wr => ∃ k : Nat, x = .int .i64 k ∧ k ≤ ws.length ∧ Below w2.heap.size w2 wr ∧ ∃ eN, wr.ownsRow w2.heap.size 57 4 (.slice (some ⟨w2.heap.size, 0, none⟩) 1 1) 1 (cellsM [⟨cc, pp, ff, eN⟩]) ∧ wr.ownsRow w2.heap.size 3 1 eN (EnP ws t k).length (cellsZ (EnP ws t k))) (fun x _ => ws.length - (intOf x).toNat)
            case atStart => exact ⟨0, rfl, Nat.zero_le _, unhide B3, _, unhide NOD, World.ownsRow_nil _ _ _ _⟩
            case round =>
              obtain ⟨w4, rfl⟩ : ∃ w4, w4 = wr := ⟨_, rfl⟩
              obtain ⟨k, rfl, hk, hbel, eN, hnod, hen⟩ := hrel
              have B4 := hide hbel
              have NOD4 := hide hnod
              have EN4 := hide hen
              have hB4 : w2.heap.size ≤ w4.heap.size := hbel.size
              clear hbel hnod hen B3 NOD
              obtain ⟨oe, ce, hfe⟩ := own_forms (unhide EN4)
              subst hfe
              obtain ⟨n0, n1, n2, n3⟩ := one_node (unhide NOD4)
              have hkk := EnP_len ws t k
              by_cases hkl : k < ws.length
              · obtain ⟨x, hx⟩ : ∃ x, ws[k]? = some x := ⟨ws[k], List.getElem?_eq_getElem hkl⟩
                obtain ⟨gx, off, c', he, hgx, hcell⟩ := ((unhide HV).below (bel_trans (unhide BEL) (bel_trans (unhide B2) (unhide B4)))).at_ (by intro e; rw [e] at hkl; cases hkl)
                have hload := hcell k x hx
                have hkI : (k : Int) < ws.length := by omega
                have hxs := (unhide HSZ) x (List.mem_of_getElem? hx)
                have hxd : x.data.toList = wd ws k := by rw [wd, List.getD, hx]; rfl
                have HE := hide (ends_any q x w4 (by rw [unhide HQS]; have := unhide HT40; omega) (by omega))
                rw [unhide HQL, hxd] at HE
                cases he
                clear hcell hx hxd
                go_wp2_with fail
                refine (unhide HE).mono ?_; rintro e wx ⟨rfl, hwx⟩; rw [hwx]; clear hwx wx HE
                by_cases hs : wd ws k <:+ t
                · rw [decide_eq_true hs]
                  have HS := hide (EnP_yes hs)
                  clear hs
                  obtain ⟨L, hL⟩ : ∃ L, EnP ws t k = L := ⟨_, rfl⟩
                  rw [hL] at EN4 n3 hkk HS NOD4
                  clear hL
                  have b3 : L.length + 1 ≤ maxLen := by unfold maxLen; omega
                  have b4 : (L.length + 1) * 8 ≤ 140737488355328 := by omega
                  have AP := hide (own_apart (unhide NOD4) (unhide EN4) (by decide))
                  go_wp2_with (at_builtin; refine wpList_append_own _ rfl _ _ 55 rfl w2.heap.size 3 i1 (.int .i64 0) 1 8 Try.underlying55 hj1 hy0 hy1 hy2 rfl (by decide) (.slice oe L.length ce) L.length (cellsZ L) rfl ((unhide EN4).alloc _) _ 1 1 _ rfl rfl (cell_one_new _ _ _) (by simp [Value.oneCell']) b3 b4 (by simp; omega) ?_; intro v1 w5 own5 grow5 _
                               have NOD5 := hide (((unhide NOD4).alloc _).kept grow5 (unhide AP))
                               have z3 := (one_node (unhide NOD5)).2.2.2
                               have f3 := (unhide NOD5).frozenAt 3
                               obtain ⟨o1, c1, rfl⟩ := own_forms own5)
                  obtain ⟨sR, gR⟩ := one_setE (unhide NOD5) (.slice o1 (L.length + 1) c1)
                  have hs5 : w2.heap.size ≤ w5.heap.size := by have := grow5.size; simp at this; omega
                  refine ⟨⟨k + 1, by go_num, by omega, ?_, _, sR, ?_⟩, by simp [intOf]; omega⟩
                  · exact (((unhide B4).alloc hB4 _).grown grow5 (by simp; omega) (own_lt (unhide EN4))).grown gR hs5 (fun q hq => by cases hq; exact Nat.le_refl _)
                  · rw [unhide HS, cellsZ_append, List.length_append]
                    exact own5.kept gR (own_apart own5 (unhide NOD5) (by decide))
                · rw [decide_eq_false hs]
                  have HS := hide (EnP_no hs)
                  clear hs
                  go_wp2_with fail
                  exact ⟨⟨k + 1, by go_num, by omega, unhide B4, _, unhide NOD4, by rw [unhide HS]; exact unhide EN4⟩, by simp [intOf]; omega⟩
              · obtain rfl : k = ws.length := by omega
                have OUT4 := hide (own_below (unhide OUT) (unhide B4))
                have HNI := hide (mnP_snoc M eV i (.slice oe (EnP ws t ws.length).length ce))
                rw [unhide HNC] at HNI
                have b3 : i + 1 ≤ maxLen := by unfold maxLen; omega
                have b4 : (i + 1) * 48 ≤ 140737488355328 := by omega
                have hB14 : w1.heap.size ≤ w4.heap.size := Nat.le_trans hB2 hB4
                have EN5 : Hid (w4.ownsRow w1.heap.size 3 1 (.slice oe (EnP ws t ws.length).length ce) (nd M i).ends.length (cellsZ (nd M i).ends)) := hide (by rw [unhide HNC]; exact own_base (unhide EN4) hB2)
                have BEL4 := hide (bel_trans (unhide B2) (unhide B4))
                obtain ⟨LE, hLE⟩ : ∃ LE, EnP ws t ws.length = LE := ⟨_, rfl⟩
                rw [hLE] at EN4 NOD4 n3 HNI EN5 hkk
                clear hLE
                go_wp2_with (at_builtin; refine wpList_append_own _ rfl _ _ 23 rfl w1.heap.size 57 i2 (.agg #[.int .u8 0, .int .i64 0, .int .i64 0, .slice none 0 0]) 4 48 Try.underlying23 hj2 hx0 hx1 hx2 rfl (by decide) _ i (cellsM (mnP M eV i)) rfl ((unhide OUT4).alloc _) _ 1 1 _ rfl rfl (cell_4_new _ _ _ _ _ _) (by simp [Value.oneCell']) b3 b4 (by simp; omega) ?_; intro v1 w6 own6 grow6 _)
                refine ⟨⟨i + 1, by go_num, by omega, ((unhide BEL4).alloc hB14 _).grown grow6 (by simp; omega) (own_lt (unhide OUT4)), fun j => if j = i then .slice oe LE.length ce else eV j, ?_, ?_⟩, by simp [intOf]; omega⟩
                · rw [unhide HNI, cellsM_append]; exact own6
                · intro j hj
                  by_cases hji : j = i
                  · subst hji
                    dsimp only
                    rw [if_pos rfl]
                    exact ((unhide EN5).alloc _).kept grow6 (own_apart (unhide EN5) (unhide OUT4) (by decide))
                  · dsimp only
                    rw [if_neg hji]
                    have h4 := own_below ((unhide ENDS) j (by omega)) (unhide B4)
                    exact (h4.alloc _).kept grow6 (own_apart h4 (unhide OUT4) (by decide))
          · have hgt : (i : Int) > 0 := by omega
            obtain ⟨p, b, hpi, hc', hu', hx', hne'⟩ := (unhide HMR).node i (by omega) (by omega)
            rw [unhide HT] at hx'
            have hqd : q.data.toList = xt R p ++ [b] := by rw [unhide HQL, hx']
            obtain ⟨m, hm⟩ : ∃ m, (xt R p).length = m := ⟨_, rfl⟩
            have hqm : q.size = m + 1 := by rw [hqs, hx', List.length_append, hm]; rfl
            have hml : m < q.size := by omega
            have hqb : q[m] = b := by
              have := Kb.at_list q _ hqd m hml
              rw [List.getElem?_append_right (by omega), hm, Nat.sub_self] at this
              simpa using this
            have hex : q.extract 0 m = mk (xt R p) := eq_of_lists (by rw [Lib.extract_data, hqd, mk_list, List.drop_zero, Nat.sub_zero, ← hm, List.take_left])
            have HIX : Hid (∀ W, Below w1.heap.size w1 W → Calls Try.prog 26 #[.slice (some ⟨g, 0, none⟩) R.length cap, .string (q.extract 0 m)] W fun e w' => e = .returned (.int .i64 p) ∧ w' = W) := hide (fun W hW => index_text (own_below (unhide ROW) hW) (by omega) h400 hne' hex)
            have hsub : (q.size : Int) - 1 = m := by omega
            have hmI : (m : Int) < q.size := by omega
            have hmb : 0 ≤ (m : Int) ∧ (m : Int) < q.size := by omega
            have hm40 : m ≤ 40 := by omega
            have HQS := hide hqs
            have HQM := hide hqm
            clear hex hqm hm hqd hx' hne' hqs HXS
            have hbn := b.toNat_lt
            have HF : Hid ((nd M i).fail = (lastP R t R.length : Int)) := hide (by rw [(unhide HMR).fail i (by omega) (by omega), unhide HT])
            have HCU := hide (And.intro hc' hu')
            clear hc' hu'
            go_wp2_with fail
            refine ((unhide HIX) _ ((unhide B2).alloc hB2 _)).mono ?_; rintro e wx ⟨rfl, hwx⟩; rw [hwx]; clear hwx wx HIX
            go_wp2_with fail
            go_loopw [15] (fun x wr => ∃ k : Nat, x = .int .i64 k ∧ k ≤ R.length ∧ Below w2.heap.size w2 wr ∧ wr.ownsRow w2.heap.size 57 4 (.slice (some ⟨w2.heap.size, 0, none⟩) 1 1) 1 (cellsM [⟨(b.toNat : Int), (p : Int), (lastP R t k : Int), .slice none 0 0⟩])) (fun x _ => R.length - (intOf x).toNat)
            case atStart => exact ⟨0, rfl, Nat.zero_le _, (Below.refl _ _).alloc (Nat.le_refl _) _, World.ownsRow_lit w2 #[.int .u8 b.toNat, .int .i64 p, .int .i64 0, .slice none 0 0] 1 (Nat.le_refl _) (by unfold maxLen; omega) rfl⟩
            case round =>
              obtain ⟨w3, rfl⟩ : ∃ w3, w3 = wr := ⟨_, rfl⟩
              obtain ⟨k, rfl, hk, hbel, hnod⟩ := hrel
              have B3 := hide hbel
              have NOD := hide hnod
              have hB3 : w2.heap.size ≤ w3.heap.size := hbel.size
              clear hbel hnod
              by_cases hkl : k < R.length
              · have ROW3 := hide (own_below (unhide ROW) (bel_trans (unhide B2) (unhide B3)))
                have hkI : (k : Int) < R.length := by omega
                have hload := own_text (unhide ROW3) hkl
                have hg3 := ((unhide ROW3).lt g rfl).2
                have hks := (unhide HSH) k hkl
                have HLP : Hid (lastP R t (k + 1) = if (xt R k).length < t.length ∧ xt R k <:+ t then k else lastP R t k) := hide rfl
                obtain ⟨u, hu⟩ : ∃ u, xt R k = u := ⟨_, rfl⟩
                rw [hu] at hload hks HLP
                clear hu
                obtain ⟨y, hy⟩ : ∃ y, mk u = y := ⟨_, rfl⟩
                have hys : y.size = u.length := by rw [← hy, mk_len]
                have hyd : y.data.toList = u := by rw [← hy, mk_list]
                rw [hy] at hload
                clear hy
                obtain ⟨n0, n1, n2, n3⟩ := one_node (unhide NOD)
                have f2 := (unhide NOD).frozenAt 2
                obtain ⟨lp, hlp⟩ : ∃ lp, lastP R t k = lp := ⟨_, rfl⟩
                rw [hlp] at n2 NOD HLP
                clear hlp
                by_cases hsh : u.length < t.length
                · have hI : (y.size : Int) < q.size := by rw [hys, unhide HQS]; omega
                  have HE := hide (ends_any q y w3 (by rw [unhide HQS]; have := unhide HT40; omega) (by omega))
                  rw [unhide HQL, hyd] at HE
                  clear hys hyd
                  go_wp2_with fail
                  refine (unhide HE).mono ?_; rintro e wx ⟨rfl, hwx⟩; rw [hwx]; clear hwx wx HE
                  by_cases hs : u <:+ t
                  · rw [decide_eq_true hs]
                    rw [if_pos ⟨hsh, hs⟩] at HLP
                    clear hs hsh
                    go_wp2_with fail
                    obtain ⟨sR, gR⟩ := one_setF (unhide NOD) (k : Int)
                    refine ⟨⟨k + 1, by go_num, by omega, (unhide B3).grown gR hB3 (fun q hq => by cases hq; exact Nat.le_refl _), by rw [unhide HLP]; exact sR⟩, by simp [intOf]; omega⟩
                  · rw [decide_eq_false hs]
                    rw [if_neg (fun h => hs h.2)] at HLP
                    clear hs hsh
                    go_wp2_with fail
                    exact ⟨⟨k + 1, by go_num, by omega, unhide B3, by rw [unhide HLP]; exact unhide NOD⟩, by simp [intOf]; omega⟩
                · have hI : ¬ ((y.size : Int) < q.size) := by rw [hys, unhide HQS]; omega
                  rw [if_neg (fun h => hsh h.1)] at HLP
                  clear hys hyd hsh
                  go_wp2_with fail
                  exact ⟨⟨k + 1, by go_num, by omega, unhide B3, by rw [unhide HLP]; exact unhide NOD⟩, by simp [intOf]; omega⟩
              · obtain rfl : k = R.length := by omega
                obtain ⟨cc, hcc⟩ : ∃ cc, (b.toNat : Int) = cc := ⟨_, rfl⟩
                obtain ⟨pp, hpp⟩ : ∃ pp, (p : Int) = pp := ⟨_, rfl⟩
                obtain ⟨ff, hff⟩ : ∃ ff, (lastP R t R.length : Int) = ff := ⟨_, rfl⟩
                have HNC : Hid (nd M i = ⟨cc, pp, ff, EnP ws t ws.length⟩) := hide (by
                  have h1 := (unhide HCU).1
                  have h2 := (unhide HCU).2
                  have h3 := unhide HF
                  have h4 := (unhide HMR).ends i (by omega)
                  rw [unhide HT] at h4
                  exact nd_eta (by rw [h1, hcc]) (by rw [h2, hpp]) (by rw [h3, hff]) h4)
                rw [hcc, hpp, hff] at NOD
                clear hcc hpp hff HCU HF
                go_wp2_with fail
                go_loopw [16] (fun x wr => ∃ k : Nat, x = .int .i64 k ∧ k ≤ ws.length ∧ Below w2.heap.size w2 wr ∧ ∃ eN, wr.ownsRow w2.heap.size 57 4 (.slice (some ⟨w2.heap.size, 0, none⟩) 1 1) 1 (cellsM [⟨cc, pp, ff, eN⟩]) ∧ wr.ownsRow w2.heap.size 3 1 eN (EnP ws t k).length (cellsZ (EnP ws t k))) (fun x _ => ws.length - (intOf x).toNat)
                case atStart => exact ⟨0, rfl, Nat.zero_le _, unhide B3, _, unhide NOD, World.ownsRow_nil _ _ _ _⟩
                case round =>
                  obtain ⟨w4, rfl⟩ : ∃ w4, w4 = wr := ⟨_, rfl⟩
                  obtain ⟨k, rfl, hk, hbel, eN, hnod, hen⟩ := hrel
                  have B4 := hide hbel
                  have NOD4 := hide hnod
                  have EN4 := hide hen
                  have hB4 : w2.heap.size ≤ w4.heap.size := hbel.size
                  clear hbel hnod hen B3 NOD
                  obtain ⟨oe, ce, hfe⟩ := own_forms (unhide EN4)
                  subst hfe
                  obtain ⟨n0, n1, n2, n3⟩ := one_node (unhide NOD4)
                  have hkk := EnP_len ws t k
                  by_cases hkl : k < ws.length
                  · obtain ⟨x, hx⟩ : ∃ x, ws[k]? = some x := ⟨ws[k], List.getElem?_eq_getElem hkl⟩
                    obtain ⟨gx, off, c', he, hgx, hcell⟩ := ((unhide HV).below (bel_trans (unhide BEL) (bel_trans (unhide B2) (unhide B4)))).at_ (by intro e; rw [e] at hkl; cases hkl)
                    have hload := hcell k x hx
                    have hkI : (k : Int) < ws.length := by omega
                    have hxs := (unhide HSZ) x (List.mem_of_getElem? hx)
                    have hxd : x.data.toList = wd ws k := by rw [wd, List.getD, hx]; rfl
                    have HE := hide (ends_any q x w4 (by rw [unhide HQS]; have := unhide HT40; omega) (by omega))
                    rw [unhide HQL, hxd] at HE
                    cases he
                    clear hcell hx hxd
                    go_wp2_with fail
                    refine (unhide HE).mono ?_; rintro e wx ⟨rfl, hwx⟩; rw [hwx]; clear hwx wx HE
                    by_cases hs : wd ws k <:+ t
                    · rw [decide_eq_true hs]
                      have HS := hide (EnP_yes hs)
                      clear hs
                      obtain ⟨L, hL⟩ : ∃ L, EnP ws t k = L := ⟨_, rfl⟩
                      rw [hL] at EN4 n3 hkk HS NOD4
                      clear hL
                      have b3 : L.length + 1 ≤ maxLen := by unfold maxLen; omega
                      have b4 : (L.length + 1) * 8 ≤ 140737488355328 := by omega
                      have AP := hide (own_apart (unhide NOD4) (unhide EN4) (by decide))
                      go_wp2_with (at_builtin; refine wpList_append_own _ rfl _ _ 55 rfl w2.heap.size 3 i1 (.int .i64 0) 1 8 Try.underlying55 hj1 hy0 hy1 hy2 rfl (by decide) (.slice oe L.length ce) L.length (cellsZ L) rfl ((unhide EN4).alloc _) _ 1 1 _ rfl rfl (cell_one_new _ _ _) (by simp [Value.oneCell']) b3 b4 (by simp; omega) ?_; intro v1 w5 own5 grow5 _
                                   have NOD5 := hide (((unhide NOD4).alloc _).kept grow5 (unhide AP))
                                   have z3 := (one_node (unhide NOD5)).2.2.2
                                   have f3 := (unhide NOD5).frozenAt 3
                                   obtain ⟨o1, c1, rfl⟩ := own_forms own5)
                      obtain ⟨sR, gR⟩ := one_setE (unhide NOD5) (.slice o1 (L.length + 1) c1)
                      have hs5 : w2.heap.size ≤ w5.heap.size := by have := grow5.size; simp at this; omega
                      refine ⟨⟨k + 1, by go_num, by omega, ?_, _, sR, ?_⟩, by simp [intOf]; omega⟩
                      · exact (((unhide B4).alloc hB4 _).grown grow5 (by simp; omega) (own_lt (unhide EN4))).grown gR hs5 (fun q hq => by cases hq; exact Nat.le_refl _)
                      · rw [unhide HS, cellsZ_append, List.length_append]
                        exact own5.kept gR (own_apart own5 (unhide NOD5) (by decide))
                    · rw [decide_eq_false hs]
                      have HS := hide (EnP_no hs)
                      clear hs
                      go_wp2_with fail
                      exact ⟨⟨k + 1, by go_num, by omega, unhide B4, _, unhide NOD4, by rw [unhide HS]; exact unhide EN4⟩, by simp [intOf]; omega⟩
                  · obtain rfl : k = ws.length := by omega
                    have OUT4 := hide (own_below (unhide OUT) (unhide B4))
                    have HNI := hide (mnP_snoc M eV i (.slice oe (EnP ws t ws.length).length ce))
                    rw [unhide HNC] at HNI
                    have b3 : i + 1 ≤ maxLen := by unfold maxLen; omega
                    have b4 : (i + 1) * 48 ≤ 140737488355328 := by omega
                    have hB14 : w1.heap.size ≤ w4.heap.size := Nat.le_trans hB2 hB4
                    have EN5 : Hid (w4.ownsRow w1.heap.size 3 1 (.slice oe (EnP ws t ws.length).length ce) (nd M i).ends.length (cellsZ (nd M i).ends)) := hide (by rw [unhide HNC]; exact own_base (unhide EN4) hB2)
                    have BEL4 := hide (bel_trans (unhide B2) (unhide B4))
                    obtain ⟨LE, hLE⟩ : ∃ LE, EnP ws t ws.length = LE := ⟨_, rfl⟩
                    rw [hLE] at EN4 NOD4 n3 HNI EN5 hkk
                    clear hLE
                    go_wp2_with (at_builtin; refine wpList_append_own _ rfl _ _ 23 rfl w1.heap.size 57 i2 (.agg #[.int .u8 0, .int .i64 0, .int .i64 0, .slice none 0 0]) 4 48 Try.underlying23 hj2 hx0 hx1 hx2 rfl (by decide) _ i (cellsM (mnP M eV i)) rfl ((unhide OUT4).alloc _) _ 1 1 _ rfl rfl (cell_4_new _ _ _ _ _ _) (by simp [Value.oneCell']) b3 b4 (by simp; omega) ?_; intro v1 w6 own6 grow6 _)
                    refine ⟨⟨i + 1, by go_num, by omega, ((unhide BEL4).alloc hB14 _).grown grow6 (by simp; omega) (own_lt (unhide OUT4)), fun j => if j = i then .slice oe LE.length ce else eV j, ?_, ?_⟩, by simp [intOf]; omega⟩
                    · rw [unhide HNI, cellsM_append]; exact own6
                    · intro j hj
                      by_cases hji : j = i
                      · subst hji
                        dsimp only
                        rw [if_pos rfl]
                        exact ((unhide EN5).alloc _).kept grow6 (own_apart (unhide EN5) (unhide OUT4) (by decide))
                      · dsimp only
                        rw [if_neg hji]
                        have h4 := own_below ((unhide ENDS) j (by omega)) (unhide B4)
                        exact (h4.alloc _).kept grow6 (own_apart h4 (unhide OUT4) (by decide))
        · obtain rfl : i = R.length := by omega
          have HT := hide (tree_of_mn (unhide HMR) h400 hn hpos (unhide OUT) (unhide ENDS))
          obtain ⟨oo, co, rfl⟩ := own_forms (unhide OUT)
          go_wp2_with fail
          go_ret2
          exact ⟨bel_trans (unhide BEL) (unhide B2), .inr ⟨by omega, _, rfl, unhide HT⟩⟩
end Go.Proofs.Ytmmjcbfffcnfiaa
