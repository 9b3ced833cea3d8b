/- The fails of the nodes, as they are set. -/
import Derived.Test.YtmmjcbfffcnfiaaFs
namespace Go.Proofs.Ytmmjcbfffcnfiaa
open Go.RowKit Kb Ph
set_option linter.unusedVariables false
set_option maxRecDepth 20000

def withFE (T : List Nd) (F : Nat → Nat) (E : Nat → List Int) : List Nd := (List.range T.length).map fun j => ⟨(nd T j).c, (nd T j).up, (F j : Int), E j⟩
theorem withFE_len (T : List Nd) (F : Nat → Nat) (E : Nat → List Int) : (withFE T F E).length = T.length := by simp [withFE]
theorem withFE_nd {T : List Nd} {F : Nat → Nat} {E : Nat → List Int} {j : Nat} (h : j < T.length) : nd (withFE T F E) j = ⟨(nd T j).c, (nd T j).up, (F j : Int), E j⟩ := nd_of (by simp [withFE, h])
theorem memFE_at {T : List Nd} {F : Nat → Nat} {E : Nat → List Int} {eV : Nat → Value} {j : Nat} (h : j < T.length) : (memOf (withFE T F E) eV)[j]? = some ⟨(nd T j).c, (nd T j).up, (F j : Int), eV j⟩ := by
  rw [memOf_at (by rw [withFE_len]; exact h), withFE_nd h]
theorem mem_ext {M M' : List Mn} (hl : M.length = M'.length) (h : ∀ j, j < M.length → M[j]? = M'[j]?) : M = M' := by
  apply List.ext_getElem?
  intro j
  by_cases hj : j < M.length
  · exact h j hj
  · rw [List.getElem?_eq_none (by omega), List.getElem?_eq_none (by omega)]
theorem memFE_setF {T : List Nd} {F : Nat → Nat} {E : Nat → List Int} {eV : Nat → Value} {j : Nat} (f : Nat) (h : j < T.length) :
    (memOf (withFE T F E) eV).set j ⟨(nd T j).c, (nd T j).up, (f : Int), eV j⟩ = memOf (withFE T (fun i => if i = j then f else F i) E) eV := by
  refine mem_ext (by simp [memOf_len, withFE_len]) fun i hi => ?_
  rw [List.length_set, memOf_len, withFE_len] at hi
  rw [memFE_at hi]
  by_cases hij : i = j
  · subst hij; rw [List.getElem?_set_self (by rw [memOf_len, withFE_len]; exact h), if_pos rfl]
  · rw [List.getElem?_set_ne (fun e => hij e.symm), memFE_at hi, if_neg hij]
/-- fails of the first i nodes -/
def ff (T : List Nd) : Nat → Nat → Nat
  | 0 => fun _ => 0
  | i + 1 => fun j => if j = i then (if (nd T i).up = 0 then 0 else nxg (KidL T) (ff T i) (nd T i).c (ff T i (nd T i).up.toNat)) else ff T i j
structure Wf (T : List Nd) : Prop where
  pos : 0 < T.length
  few : T.length ≤ 1201
  up : ∀ j, j < T.length → 0 ≤ (nd T j).up ∧ (nd T j).up ≤ j ∧ ((nd T j).up = j → j = 0)
  c : ∀ j, j < T.length → U8 (nd T j).c
  ffl : ∀ i j, i ≤ T.length → j < i → j ≠ 0 → ff T i j < j
  ff0 : ∀ i, ff T i 0 = 0
theorem ff_lt {T : List Nd} (h : Wf T) {i j : Nat} (hi : i ≤ T.length) (hj : j < i) : ff T i j < T.length := by
  by_cases h0 : j = 0
  · subst h0; rw [h.ff0]; exact h.pos
  · have := h.ffl i j hi hj h0; omega
theorem ff_high (T : List Nd) (i j : Nat) (h : i ≤ j) : ff T i j = 0 := by
  induction i with
  | zero => rfl
  | succ i ih => rw [ff]; dsimp only; rw [if_neg (by omega)]; exact ih (by omega)
theorem ff_lt2 {T : List Nd} (h : Wf T) {i : Nat} (hi : i ≤ T.length) (j : Nat) : ff T i j < T.length := by
  rcases Nat.lt_or_ge j i with g | g
  · exact ff_lt h hi g
  · rw [ff_high T i j g]; exact h.pos
theorem tree_of_row {w : World} {B g cap : Nat} {T : List Nd} {F : Nat → Nat} {E : Nat → List Int} {eV : Nat → Value} (h : Wf T) (hF : ∀ j, F j < T.length)
    (row : w.ownsRow B 57 4 (.slice (some ⟨g, 0, none⟩) T.length cap) T.length (cellsM (memOf (withFE T F E) eV)))
    (ends : ∀ j, j < T.length → w.ownsRow B 3 1 (eV j) (E j).length (cellsZ (E j))) (hE : ∀ j, j < T.length → (E j).length ≤ 100000 ∧ ∀ z ∈ E j, 0 ≤ z ∧ z ≤ 1000) :
    Tree w (.slice (some ⟨g, 0, none⟩) T.length cap) (withFE T F E) := by
  have hcap : T.length ≤ cap := by
    rcases row.2 with ⟨h0, _⟩ | ⟨g', cap', cur, h0, _, _, h1, _⟩
    · cases h0
    · cases h0; exact h1
  have hget : ∀ {i x}, (withFE T F E)[i]? = some x → i < T.length ∧ x = ⟨(nd T i).c, (nd T i).up, (F i : Int), E i⟩ := by
    intro i x hi
    have hl : i < T.length := by have := (List.getElem?_eq_some_iff.1 hi).1; rwa [withFE_len] at this
    exact ⟨hl, by have := nd_of hi; rw [withFE_nd hl] at this; exact this.symm⟩
  refine ⟨⟨_, cap, by rw [withFE_len], by rw [withFE_len]; exact hcap⟩, by rw [withFE_len]; have := h.few; omega, ?_, ?_⟩
  · intro x hx
    obtain ⟨i, hi⟩ := List.mem_iff_getElem?.1 hx
    obtain ⟨hl, rfl⟩ := hget hi
    have h1 := h.up i hl
    have h2 := h.c i hl
    have h3 := hF i
    have h4 := h.few
    unfold U8 at h2
    dsimp only
    omega
  · intro _
    refine ⟨g, 0, cap, by rw [withFE_len], (row.lt g rfl).2, ?_⟩
    intro i x hi
    obtain ⟨hl, rfl⟩ := hget hi
    obtain ⟨k0, k1, k2, k3⟩ := own_node row (memFE_at hl)
    refine ⟨by rw [Nat.zero_add]; exact k0, by rw [Nat.zero_add]; exact k1, by rw [Nat.zero_add]; exact k2, eV i, by rw [Nat.zero_add]; exact k3, ?_⟩
    refine Ints.own (ends i hl) (by have := (hE i hl).1; show (E i).length ≤ _; omega) ?_
    intro z hz
    have := (hE i hl).2 z hz
    omega

set_option maxHeartbeats 8000000 in
theorem setFails_any (w : World) (B K g cap : Nat) (T : List Nd) (E : Nat → List Int) (eV : Nat → Value) (h : Wf T)
    (row : w.ownsRow B 57 4 (.slice (some ⟨g, 0, none⟩) T.length cap) T.length (cellsM (memOf (withFE T (ff T 0) E) eV))) (kids : Kids w K T.length (KidL T))
    (ends : ∀ j, j < T.length → w.ownsRow B 3 1 (eV j) (E j).length (cellsZ (E j))) (hE : ∀ j, j < T.length → (E j).length ≤ 100000 ∧ ∀ z ∈ E j, 0 ≤ z ∧ z ≤ 1000) (hB : B ≤ w.heap.size) :
    Calls Try.prog 23 #[.slice (some ⟨g, 0, none⟩) T.length cap, .map (some K)] w fun e w' => e = .returned (.tuple #[]) ∧ Below B w w' ∧
      w'.ownsRow B 57 4 (.slice (some ⟨g, 0, none⟩) T.length cap) T.length (cellsM (memOf (withFE T (ff T T.length) E) eV)) ∧
      ∀ j, j < T.length → w'.ownsRow B 3 1 (eV j) (E j).length (cellsZ (E j)) := by
  have hfew := h.few
  have H := hide h
  have ROW := hide row
  have KID := hide kids
  have ENDS := hide ends
  have HE := hide hE
  clear h row kids ends hE
  go_enter Try.func23, Try.ntmps23
  go_wp2_with fail
  go_loopw [8] (fun x wr => ∃ i : Nat, x = .int .i64 i ∧ i ≤ T.length ∧ Below B w wr ∧ wr.ownsRow B 57 4 (.slice (some ⟨g, 0, none⟩) T.length cap) T.length (cellsM (memOf (withFE T (ff T i) E) eV)) ∧
    Kids wr K T.length (KidL T) ∧ ∀ j, j < T.length → wr.ownsRow B 3 1 (eV j) (E j).length (cellsZ (E j))) (fun x _ => T.length - (intOf x).toNat)
  case atStart => exact ⟨0, rfl, Nat.zero_le _, Below.refl _ _, unhide ROW, unhide KID, unhide ENDS⟩
  case round =>
    obtain ⟨i, rfl, hi, hbel, hrow, hkid, hends⟩ := hrel
    have BEL := hide hbel
    have ROW1 := hide hrow
    have KID1 := hide hkid
    have ENDS1 := hide hends
    have hB1 : B ≤ wr.heap.size := Nat.le_trans hB hbel.size
    clear hbel hrow hkid hends
    by_cases hlt : i < T.length
    · obtain ⟨n0, n1, n2, n3⟩ := own_node (unhide ROW1) (memFE_at hlt)
      dsimp only at n0 n1 n2 n3
      obtain ⟨oe, ce, hfe⟩ := own_forms ((unhide ENDS1) i hlt)
      rw [hfe] at n3
      have HFE := hide hfe
      have hup := (unhide H).up i hlt
      have hU8 := (unhide H).c i hlt
      obtain ⟨p, hp⟩ : ∃ p : Nat, (nd T i).up = p := ⟨(nd T i).up.toNat, by omega⟩
      obtain ⟨c, hc⟩ : ∃ c, (nd T i).c = c := ⟨_, rfl⟩
      have hff : ff T i i = 0 := ff_high T i i (Nat.le_refl _)
      rw [hp] at n1 hup
      rw [hc] at n0 hU8
      rw [hff, show ((0 : Nat) : Int) = 0 from rfl] at n2
      have HP := hide hp
      have HC := hide hc
      have HU8 := hide hU8
      clear hfe hp hc hff hU8
      obtain ⟨w1, hw1⟩ : ∃ w1, wr.alloc (.cells #[.int .u8 c, .int .i64 p, .int .i64 0, .slice oe (E i).length ce] 57) = w1 := ⟨_, rfl⟩
      have b1 : Below wr.heap.size wr w1 := by rw [← hw1]; exact (Below.refl _ _).alloc (Nat.le_refl _) _
      have ROW2 := hide (own_below (unhide ROW1) b1)
      have KID2 := hide ((unhide KID1).below b1)
      have ENDS2 := hide (fun j hj => own_below ((unhide ENDS1) j hj) b1)
      have BEL2 := hide ((unhide BEL).trans (b1.mono hB1))
      have c0 : w1.cell? ⟨wr.heap.size, 0, none⟩ = some (.int .u8 c) := by rw [← hw1, World.cell?_alloc_new]; rfl
      have c1 : w1.cell? ⟨wr.heap.size, 1, none⟩ = some (.int .i64 p) := by rw [← hw1, World.cell?_alloc_new]; rfl
      have hB2 : B ≤ w1.heap.size := Nat.le_trans hB1 b1.size
      clear b1
      by_cases hp0 : p = 0
      · have HF : Hid (memOf (withFE T (ff T (i + 1)) E) eV = memOf (withFE T (ff T i) E) eV) := hide (by
          refine mem_ext (by simp [memOf_len, withFE_len]) fun j hj => ?_
          rw [memOf_len, withFE_len] at hj
          rw [memFE_at hj, memFE_at hj, ff]
          dsimp only
          by_cases hji : j = i
          · rw [if_pos hji, if_pos (by rw [unhide HP, hp0]; rfl), hji, ff_high T i i (Nat.le_refl _)]
          · rw [if_neg hji])
        subst hp0
        go_wp2_with fail
        exact ⟨⟨i + 1, by go_num, by omega, (unhide BEL).alloc hB1 _, by rw [unhide HF]; exact (unhide ROW1).alloc _, (unhide KID1).alloc _, fun j hj => ((unhide ENDS1) j hj).alloc _⟩, by simp [intOf]; omega⟩
      · have hpi : p < i := by omega
        have hpT : p < T.length := by omega
        obtain ⟨_, _, q2, _⟩ := own_node (unhide ROW2) (memFE_at hpT)
        obtain ⟨_, _, z2, _⟩ := own_node (unhide ROW2) (memFE_at hlt)
        have f2 := (unhide ROW2).frozenAt (i * 4 + 2)
        dsimp only at q2 z2
        have hsp := (unhide H).ffl i p hi hpi hp0
        have HNX := hide (fun w' (hb : Below w1.heap.size w1 w') => next_any w' (.slice (some ⟨g, 0, none⟩) T.length cap) (withFE T (ff T i) E) K T.length (ff T i p) c (KidL T) (ff T i)
          ((tree_of_row (unhide H) (fun j => ff_lt2 (unhide H) hi j) (unhide ROW2) (unhide ENDS2) (unhide HE)).below hb) ((unhide KID2).below hb) (by rw [withFE_len]; omega) (unhide HU8)
          (fun j hj hj0 => ⟨(unhide H).ffl i j hi (by omega) hj0, by rw [withFE_nd (by omega)]⟩))
        obtain ⟨s, hs⟩ : ∃ s, ff T i p = s := ⟨_, rfl⟩
        rw [hs] at q2 hsp HNX
        obtain ⟨r, hr⟩ : ∃ r, nxg (KidL T) (ff T i) c s = r := ⟨_, rfl⟩
        rw [hr] at HNX
        have HF : Hid (memOf (withFE T (fun j => if j = i then r else ff T i j) E) eV = memOf (withFE T (ff T (i + 1)) E) eV) := hide (by
          congr 2
          funext j
          rw [ff]
          dsimp only
          by_cases hji : j = i
          · rw [if_pos hji, if_pos hji, if_neg (by rw [unhide HP]; omega), unhide HC, unhide HP, Int.toNat_natCast, hs, hr]
          · rw [if_neg hji, if_neg hji])
        have hpb : ((p : Int) != 0) = true := by simp; exact hp0
        have hpI : (p : Int) < T.length := by omega
        have hiI : (i : Int) < T.length := by omega
        clear hs hr
        go_wp2_with fail
        go_region_with (go_at_call 32; refine ((unhide HNX) _ (by first | exact Below.refl _ _ | exact (Below.refl _ _).drew)).mono ?_; rintro e wx ⟨rfl, rfl⟩)
        all_goals (
          go_wp2_with fail
          obtain ⟨sR, gR⟩ := (unhide ROW2).stored (i * 4 + 2) (.int .i64 r)
          rw [cellsM_setF (memFE_at hlt), memFE_setF r hlt, unhide HF] at sR
          have hgl := (unhide ROW2).lt g rfl
          refine ⟨⟨i + 1, by go_num, by omega, ?_, sR.drew, ?_, ?_⟩, by simp [intOf]; omega⟩
          · exact ((unhide BEL2).grown gR hB2 (fun q hq => by cases hq; exact hgl.1)).drew
          · exact (show Kids (w1.setCell ⟨g, i * 4 + 2, none⟩ (.int .i64 r)) K T.length (KidL T) from (unhide KID2).kept gR (kids_apart (unhide ROW2) (unhide KID2)))
          · exact fun j hj => (((unhide ENDS2) j hj).kept gR (own_apart ((unhide ENDS2) j hj) (unhide ROW2) (by decide))).drew)
    · obtain rfl : i = T.length := by omega
      go_wp2_with fail
      go_end0
      exact ⟨rfl, unhide BEL, unhide ROW1, unhide ENDS1⟩
end Go.Proofs.Ytmmjcbfffcnfiaa
