/- strings.SplitSeq at one sign: the iterator. -/
import Derived.RangeFuncNested
import Derived.RangeFuncBound
import Derived.RangeFuncCalls
import Derived.RangeFuncLeaves
import Derived.Shelf.Abstract
import Derived.Shelf.RegionOpen
import Derived.WalkKit
import Derived.OwnWalkIn
import Derived.TacticsInMore
import Derived.LoopNIn
import Derived.LoopIn
import Derived.Test.YtgmpgacedmjgdaaDoorNc
namespace Go.Proofs.YtgmpgacedmjgdaaDoor
open Go.RowKit Kb Go.Shelf
attribute [local go_sem] Oper.semAt_some
set_option linter.unusedVariables false
set_option maxRecDepth 20000

/-- the three captured variables -/
structure Caps (W : World) (bp bs bq : Nat) (c : UInt8) (y : ByteArray) : Prop where
  p : W.cell? ⟨bp, 0, none⟩ = some (.string ⟨#[c]⟩)
  s : W.cell? ⟨bs, 0, none⟩ = some (.string y)
  q : W.cell? ⟨bq, 0, none⟩ = some (.int .i64 0)
  f : W.frozen? ⟨bs, 0, none⟩ = false
  np : bp ≠ bs
  nq : bq ≠ bs
theorem Caps.kept {W W' : World} {bp bs bq : Nat} {c : UInt8} {y : ByteArray} (h : Caps W bp bs bq c y) (b : ∀ k, k = bp ∨ k = bs ∨ k = bq → W'.heap[k]? = W.heap[k]?) : Caps W' bp bs bq c y :=
  ⟨by rw [World.cell?_of_block (w := W) (a := ⟨bp, 0, none⟩) (b bp (.inl rfl))]; exact h.p, by rw [World.cell?_of_block (w := W) (a := ⟨bs, 0, none⟩) (b bs (.inr (.inl rfl)))]; exact h.s, by rw [World.cell?_of_block (w := W) (a := ⟨bq, 0, none⟩) (b bq (.inr (.inr rfl)))]; exact h.q, by rw [World.frozen?_of_block (w := W) (a := ⟨bs, 0, none⟩) (b bs (.inr (.inl rfl)))]; exact h.f, h.np, h.nq⟩
theorem ix_none {c : UInt8} {l : List UInt8} (h : c ∉ l) : Lib.indexByte l c = -1 := by
  have hg := Lib.indexByte_ge l c
  rcases Int.lt_or_le (Lib.indexByte l c) 0 with h1 | h1
  · omega
  · obtain ⟨k, hk⟩ := Int.eq_ofNat_of_zero_le h1
    exact absurd (List.mem_of_getElem? (Lib.indexByte_some hk).1) h
theorem ix_hit {c : UInt8} {u : List UInt8} (v : List UInt8) (h : c ∉ u) : Lib.indexByte (u ++ c :: v) c = u.length := by
  have hg := Lib.indexByte_ge (u ++ c :: v) c
  rcases Int.lt_or_le (Lib.indexByte (u ++ c :: v) c) 0 with h1 | h1
  · exact absurd (by simp) (Lib.indexByte_none (show Lib.indexByte (u ++ c :: v) c = -1 by omega) u.length)
  · obtain ⟨k, hk⟩ := Int.eq_ofNat_of_zero_le h1
    obtain ⟨e1, e2⟩ := Lib.indexByte_some hk
    rcases Nat.lt_trichotomy k u.length with g | g | g
    · rw [List.getElem?_append_left g] at e1
      exact absurd (List.mem_of_getElem? e1) h
    · rw [hk, g]
    · exact absurd (by simp) (e2 u.length g)
def boxSize (w : World) (b : Nat) : Nat := match w.cell? ⟨b, 0, none⟩ with
  | some (.string y) => y.size
  | _ => 0
theorem boxSize_of {w : World} {b : Nat} {y : ByteArray} (h : w.cell? ⟨b, 0, none⟩ = some (.string y)) : boxSize w b = y.size := by unfold boxSize; rw [h]
set_option maxHeartbeats 4000000 in
theorem split1_in (n : Nat) (l bp bs bq : Nat) (c : UInt8) (s : ByteArray)
    (J Jx : List (List UInt8) → World → Prop) (hJd : ∀ pre W k, J pre W → J pre (W.drewN k)) (hJs : ∀ pre W v, J pre W → J pre (W.setCell ⟨bs, 0, none⟩ v))
    (hY : ∀ pre x W, pre ++ [x] <+: Cs.cut c s.data.toList → J pre W → YieldAt .wide (n - 1) Tryd.prog l #[.string (mk x)] W fun e W' => (e = .returned (.bool true) ∧ J (pre ++ [x]) W' ∧ ∀ k, k = bp ∨ k = bs ∨ k = bq → W'.heap[k]? = W.heap[k]?) ∨ (e = .returned (.bool false) ∧ Jx (pre ++ [x]) W'))
    (W : World) (hC : Caps W bp bs bq c s) (h0 : J [] W) (hs : s.size ≤ 4294960000) :
    CallsIn .wide n Tryd.prog 55 #[.func (.yield l) #[] #[], .pointer (some ⟨bp, 0, none⟩), .pointer (some ⟨bs, 0, none⟩), .pointer (some ⟨bq, 0, none⟩)] W fun e W' => (∃ v, e = .returned v) ∧
      (J (Cs.cut c s.data.toList) W' ∨ ∃ pre, pre <+: Cs.cut c s.data.toList ∧ Jx pre W') := by
  obtain ⟨c0, c1, c2, c3, c4, c5⟩ := hC
  refine callsIn_of_wp Tryd.func55 rfl trivial ?_ rfl
  simp only [Tryd.ntmps55, List.size_toArray, List.length_cons, List.length_nil, Nat.reduceAdd, Nat.reduceSub, Array.replicate_succ, Array.replicate_zero, List.push_toArray, List.append_toArray, List.nil_append, List.cons_append]
  obtain ⟨cs, hcs⟩ : ∃ cs, Cs.cut c s.data.toList = cs := ⟨_, rfl⟩
  have HCS := hide hcs
  rw [hcs] at hY ⊢
  clear hcs
  gi_wp2
  gi_loopw [7] (fun x wr => ∃ (y : ByteArray) (pre : List (List UInt8)), y.size ≤ s.size ∧ pre ++ Cs.cut c y.data.toList = cs ∧ Caps wr bp bs bq c y ∧ J pre wr) (fun _ wr => boxSize wr bs)
  case atStart => exact ⟨s, [], Nat.le_refl _, unhide HCS, ⟨c0, c1, c2, c3, c4, c5⟩, h0⟩
  case round =>
    clear c0 c1 c2 c3 h0
    obtain ⟨y, pre, hys, hpre, hcap, hJ⟩ := hrel
    have HPRE := hide hpre
    have hJ0 := hide hJ
    obtain ⟨d0, d1, d2, d3, _, _⟩ := hcap
    have HIX := hide (fun W => Tryd.strings_Index_one y c W)
    clear hpre hJ
    rcases Nt.cut_cases c y.data.toList with ⟨hno, _⟩ | ⟨u, v, huv, hu, _⟩
    · rw [ix_none hno] at HIX
      have HCU := hide (Cs.cut_no hno)
      have HYD := hide (hY pre y.data.toList wr ⟨[], by rw [List.append_nil, ← unhide HPRE, unhide HCU]⟩ (unhide hJ0))
      rw [mk_data] at HYD
      clear hno
      obtain ⟨fn, tmps, assign, body, hy, hR⟩ := unhide HYD
      gi_wp2
      refine ⟨trivial, fun h => by simp [Fence.wide] at h, ?_⟩
      refine (callsIn_wide.2 ((unhide HIX) wr)).mono ?_
      rintro e wx ⟨rfl, hwx⟩; rw [hwx]; clear hwx wx
      gi_wp2
      refine ⟨fun h => by simp [Fence.wide] at h, ?_⟩
      refine hR.mono ?_
      rintro e W' (⟨rfl, hJ', hk⟩ | ⟨rfl, hJx'⟩)
      · have HJ : Hid (J cs W') := hide (by rw [← unhide HPRE, unhide HCU]; exact hJ')
        clear hR hJ'
        gi_wp2
        go_end0
        exact ⟨⟨_, rfl⟩, .inl (unhide HJ)⟩
      · have HJ : Hid (∃ pre, pre <+: cs ∧ Jx pre W') := hide ⟨_, ⟨[], by rw [List.append_nil, ← unhide HPRE, unhide HCU]⟩, hJx'⟩
        clear hR hJx'
        gi_wp2
        go_end0
        exact ⟨⟨_, rfl⟩, .inr (unhide HJ)⟩
    · have hix := ix_hit v hu
      rw [huv, hix] at HIX
      have hlen := congrArg List.length huv
      rw [len_data, List.length_append, List.length_cons] at hlen
      have ea : y.extract 0 u.length = mk u := eq_of_lists (by rw [Lib.extract_from_zero, huv]; simp [mk])
      have eb : y.extract (u.length + 1) y.size = mk v := eq_of_lists (by rw [Lib.extract_to_end, huv]; simp [mk])
      have HCU : Hid (Cs.cut c y.data.toList = u :: Cs.cut c v) := hide (by rw [huv]; exact Cs.cut_hit v hu)
      have HYD := hide (hY pre u wr ⟨Cs.cut c v, by rw [← unhide HPRE, unhide HCU, List.append_assoc]; rfl⟩ (unhide hJ0))
      obtain ⟨nu, hnu⟩ : ∃ k, u.length = k := ⟨_, rfl⟩
      rw [hnu] at HIX ea eb hlen
      have hl1 : nu + 1 ≤ y.size := by omega
      have hl2 : v.length < y.size := by omega
      clear hix huv hu hnu hlen
      obtain ⟨fn, tmps, assign, body, hy, hR⟩ := unhide HYD
      gi_wp2
      refine ⟨trivial, fun h => by simp [Fence.wide] at h, ?_⟩
      refine (callsIn_wide.2 ((unhide HIX) wr)).mono ?_
      rintro e wx ⟨rfl, hwx⟩; rw [hwx]; clear hwx wx
      gi_wp2
      refine ⟨fun h => by simp [Fence.wide] at h, ?_⟩
      refine hR.mono ?_
      rintro e W' (⟨rfl, hJ', hk⟩ | ⟨rfl, hJx'⟩)
      · have HCP := hide (Caps.kept ⟨d0, d1, d2, d3, c4, c5⟩ hk)
        have HJ2 := hide (hJs _ _ (.string (mk v)) hJ')
        obtain ⟨k0, k1, k2, k3, _, _⟩ := unhide HCP
        clear hR hJ' hk
        gi_wp2
        have hy0 := boxSize_of d1
        have hg := grownBy_setCell' W' bs (.string (mk v))
        have cc : ∀ b', b' ≠ bs → b' < W'.heap.size → (W'.setCell ⟨bs, 0, none⟩ (.string (mk v))).cell? ⟨b', 0, none⟩ = W'.cell? ⟨b', 0, none⟩ := fun b' hb hl => World.cell?_of_block (hg.block b' hl (fun e => hb (Option.some.inj e)))
        have s1 : (W'.setCell ⟨bs, 0, none⟩ (.string (mk v))).cell? ⟨bs, 0, none⟩ = some (.string (mk v)) := World.cell?_setCell_same' _ _ _ (by rw [k1]; rfl)
        refine ⟨⟨mk v, pre ++ [u], by rw [szM]; omega, ?_, ⟨by rw [cc bp c4 (cell_lt k0)]; exact k0, s1, by rw [cc bq c5 (cell_lt k2)]; exact k2, by rw [World.frozen?_setCell]; exact k3, c4, c5⟩, unhide HJ2⟩, ?_⟩
        · rw [show (mk v).data.toList = v by simp [mk], ← unhide HPRE, unhide HCU, List.append_assoc]; rfl
        · rw [boxSize_of s1, hy0, szM]; exact hl2
      · have HJ : Hid (∃ pre, pre <+: cs ∧ Jx pre W') := hide ⟨_, ⟨Cs.cut c v, by rw [← unhide HPRE, unhide HCU, List.append_assoc]; rfl⟩, hJx'⟩
        clear hR hJx'
        gi_wp2
        refine bodyPost_ret (results_none rfl _ _ _) rfl ?_
        exact ⟨⟨_, rfl⟩, .inr (unhide HJ)⟩
end Go.Proofs.YtgmpgacedmjgdaaDoor
