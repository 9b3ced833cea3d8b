/- The numbers of the words that end nodes, with those of their fails: addEndsOfFails. -/
import Derived.Test.YtmmjcbfffcnfiaaFw
import Derived.Test.YtmmjcbfffcnfiaaShelf
import Derived.Sort.OwnSortedInts
namespace Go.Proofs.Ytmmjcbfffcnfiaa
open Go.RowKit Go.Lib Kb Ph
set_option linter.unusedVariables false
set_option maxRecDepth 20000

theorem sort_ints (w : World) (B : Nat) (v : Value) (l : List Int) (h : w.ownsRow B 3 1 v l.length (cellsZ l)) (hn : l.length ≤ 100000) :
    Calls Try.prog 40 #[v] w fun e w' => e = .returned (.tuple #[]) ∧ ∃ l', l'.Perm l ∧ l'.Pairwise (· ≤ ·) ∧ w.grownBy w' v.ownBlock ∧ w'.ownsRow B 3 1 v l'.length (cellsZ l') := by
  rcases h.2 with ⟨h0, h1⟩ | ⟨g, cap, cur, h0, h1, h2, h3, h4, h5, h6⟩
  · subst h0
    refine (Try.slices_Sort_int_none none 0 w).mono ?_
    rintro e w' ⟨rfl, rfl⟩
    refine ⟨rfl, l, List.Perm.refl _, ?_, ⟨rfl, rfl, rfl, Nat.le_refl _, fun _ _ _ => rfl⟩, h⟩
    rw [List.length_eq_zero_iff.1 h1]; exact List.Pairwise.nil
  · subst h0
    have hH := holds_of_blockI h2 (ss := l) (by rw [Nat.mul_one] at h6; exact h6)
    refine (Try.slices_Sort_int g 0 cap l w hH (h.lt g rfl).2 (by omega)).mono ?_
    rintro e w' ⟨rfl, n, os, rfl⟩
    have hp := List.mergeSort_perm l (fun x y => decide (x ≤ y))
    refine ⟨rfl, _, hp, ?_, grownBy_sortedI _, ?_⟩
    · have := List.pairwise_mergeSort (le := fun (x y : Int) => decide (x ≤ y)) (fun a b c h1 h2 => by simp at *; omega) (fun a b => by simp; omega) l
      exact this.imp (fun {a b} hab => by simpa using hab)
    · rw [hp.length_eq]
      exact ownsRow_sortedI hp.length_eq h1 h2 h3 h4 h5
theorem memFE_setE {T : List Nd} {F : Nat → Nat} {E E' : Nat → List Int} {eV : Nat → Value} {j : Nat} (v : Value) (h : j < T.length) :
    (memOf (withFE T F E) eV).set j ⟨(nd T j).c, (nd T j).up, (F j : Int), v⟩ = memOf (withFE T F E') (fun i => if i = j then v else eV i) := by
  refine mem_ext (by simp [memOf_len, withFE_len]) fun i hi => ?_
  rw [List.length_set, memOf_len, withFE_len] at hi
  rw [memFE_at hi]
  by_cases hij : i = j
  · subst hij; rw [List.getElem?_set_self (by rw [memOf_len, withFE_len]; exact h), if_pos rfl]
  · rw [List.getElem?_set_ne (fun e => hij e.symm), memFE_at hi, if_neg hij]
theorem memFE_E (T : List Nd) (F : Nat → Nat) (E E' : Nat → List Int) (eV : Nat → Value) : memOf (withFE T F E) eV = memOf (withFE T F E') eV := by
  refine mem_ext (by simp [memOf_len, withFE_len]) fun i hi => ?_
  rw [memOf_len, withFE_len] at hi
  rw [memFE_at hi, memFE_at hi]
def Ec (E E' : Nat → List Int) (i j : Nat) : List Int := if j < i then E' j else E j
structure Aw (N : Nat) (F : Nat → Nat) (E E' : Nat → List Int) : Prop where
  fl : ∀ i, i < N → F i ≤ i
  perm : ∀ i, i < N → (E i ++ Ec E E' i (F i)).Perm (E' i)
  sort : ∀ i, i < N → (E' i).Pairwise (· ≤ ·)
  len : ∀ i, i < N → (E i).length ≤ 1000
  len' : ∀ i, i < N → (E' i).length ≤ 1000
  bd : ∀ i, i < N → ∀ z ∈ E i, 0 ≤ z ∧ z ≤ 1000
  bd' : ∀ i, i < N → ∀ z ∈ E' i, 0 ≤ z ∧ z ≤ 1000
theorem Aw.ec {N : Nat} {F : Nat → Nat} {E E' : Nat → List Int} (h : Aw N F E E') (i : Nat) {j : Nat} (hj : j < N) : (Ec E E' i j).length ≤ 1000 ∧ ∀ z ∈ Ec E E' i j, 0 ≤ z ∧ z ≤ 1000 := by
  unfold Ec
  split
  · exact ⟨h.len' j hj, h.bd' j hj⟩
  · exact ⟨h.len j hj, h.bd j hj⟩
theorem sorted_eq {a b : List Int} (hp : a.Perm b) (ha : a.Pairwise (· ≤ ·)) (hb : b.Pairwise (· ≤ ·)) : a = b :=
  hp.eq_of_pairwise (fun x y _ _ h1 h2 => by omega) ha hb

set_option maxHeartbeats 8000000 in
theorem addEnds_any (w : World) (B g cap : Nat) (T : List Nd) (F : Nat → Nat) (E E' : Nat → List Int) (eV : Nat → Value) (h : Wf T) (hA : Aw T.length F E E')
    (row : w.ownsRow B 57 4 (.slice (some ⟨g, 0, none⟩) T.length cap) T.length (cellsM (memOf (withFE T F E) eV)))
    (ends : ∀ j, j < T.length → w.ownsRow B 3 1 (eV j) (E j).length (cellsZ (E j))) (hB : B ≤ w.heap.size) :
    Calls Try.prog 24 #[.slice (some ⟨g, 0, none⟩) T.length cap] w fun e w' => e = .returned (.tuple #[]) ∧ Below B w w' ∧ ∃ eV',
      w'.ownsRow B 57 4 (.slice (some ⟨g, 0, none⟩) T.length cap) T.length (cellsM (memOf (withFE T F E') eV')) ∧
      ∀ j, j < T.length → w'.ownsRow B 3 1 (eV' j) (E' j).length (cellsZ (E' j)) := by
  have hfew := h.few
  have H := hide h
  have HA := hide hA
  have ROW := hide row
  have ENDS := hide ends
  clear h hA row ends
  go_enter Try.func24, Try.ntmps24
  go_wp2_with fail
  go_loopw [7] (fun x wr => ∃ i : Nat, x = .int .i64 i ∧ i ≤ T.length ∧ Below B w wr ∧ ∃ eV', wr.ownsRow B 57 4 (.slice (some ⟨g, 0, none⟩) T.length cap) T.length (cellsM (memOf (withFE T F E) eV')) ∧
    ∀ j, j < T.length → wr.ownsRow B 3 1 (eV' j) (Ec E E' i j).length (cellsZ (Ec E E' i j))) (fun x _ => T.length - (intOf x).toNat)
  case atStart => exact ⟨0, rfl, Nat.zero_le _, Below.refl _ _, eV, unhide ROW, by intro j hj; have := (unhide ENDS) j hj; unfold Ec; rw [if_neg (by omega)]; exact this⟩
  case round =>
    clear ROW ENDS
    obtain ⟨i, rfl, hi, hbel, eV', hrow, hends⟩ := hrel
    have BEL := hide hbel
    have ROW1 := hide hrow
    have ENDS1 := hide hends
    have hB1 : B ≤ wr.heap.size := Nat.le_trans hB hbel.size
    clear hbel hrow hends
    by_cases hlt : i < T.length
    · obtain ⟨n0, n1, n2, n3⟩ := own_node (unhide ROW1) (memFE_at hlt)
      dsimp only at n0 n1 n2 n3
      have hfl := (unhide HA).fl i hlt
      have hflN : F i < T.length := by omega
      have hEi := (unhide HA).ec i hlt
      have hEf := (unhide HA).ec i hflN
      have HI0 := hide (fun w' (hb : Below wr.heap.size wr w') => Ints.own (own_below ((unhide ENDS1) i hlt) hb) (by have := hEi.1; omega) (fun z hz => by have := hEi.2 z hz; omega))
      have HI1 := hide (fun w' (hb : Below wr.heap.size wr w') => Ints.own (own_below ((unhide ENDS1) (F i) hflN) hb) (by have := hEf.1; omega) (fun z hz => by have := hEf.2 z hz; omega))
      have hEiE : Ec E E' i i = E i := by unfold Ec; rw [if_neg (by omega)]
      have HP : Hid (∀ l', l'.Perm (Ec E E' i i ++ Ec E E' i (F i)) → l'.Pairwise (· ≤ ·) → l' = E' i) := hide (fun l' hp hs => sorted_eq (hp.trans (by rw [hEiE]; exact (unhide HA).perm i hlt)) hs ((unhide HA).sort i hlt))
      obtain ⟨oe, ce, hfe⟩ := own_forms ((unhide ENDS1) i hlt)
      obtain ⟨of, cf_, hff⟩ := own_forms ((unhide ENDS1) (F i) hflN)
      rw [hfe] at n3 HI0
      rw [hff] at HI1
      obtain ⟨p, hp⟩ : ∃ p, (nd T i).up = p := ⟨_, rfl⟩
      obtain ⟨c, hc⟩ : ∃ c, (nd T i).c = c := ⟨_, rfl⟩
      rw [hp] at n1
      rw [hc] at n0
      have HFE := hide hfe
      have HFF := hide hff
      clear hfe hff hp hc
      obtain ⟨w1, hw1⟩ : ∃ w1, wr.alloc (.cells #[.int .u8 c, .int .i64 p, .int .i64 (F i), .slice oe (Ec E E' i i).length ce] 57) = w1 := ⟨_, rfl⟩
      have b1 : Below wr.heap.size wr w1 := by rw [← hw1]; exact (Below.refl _ _).alloc (Nat.le_refl _) _
      have ROW2 := hide (own_below (unhide ROW1) b1)
      have ENDS2 := hide (fun j hj => own_below ((unhide ENDS1) j hj) b1)
      have BEL2 := hide ((unhide BEL).trans (b1.mono hB1))
      have c2 : w1.cell? ⟨wr.heap.size, 2, none⟩ = some (.int .i64 (F i)) := by rw [← hw1, World.cell?_alloc_new]; rfl
      have c3 : w1.cell? ⟨wr.heap.size, 3, none⟩ = some (.slice oe (Ec E E' i i).length ce) := by rw [← hw1, World.cell?_alloc_new]; rfl
      have hB2 : B ≤ w1.heap.size := Nat.le_trans hB1 b1.size
      obtain ⟨_, _, _, q3⟩ := own_node (unhide ROW2) (memFE_at hflN)
      dsimp only at q3
      rw [unhide HFF] at q3
      obtain ⟨f, hf⟩ : ∃ f, F i = f := ⟨_, rfl⟩
      obtain ⟨l0, hl0⟩ : ∃ l, Ec E E' i i = l := ⟨_, rfl⟩
      obtain ⟨l1, hl1⟩ : ∃ l, Ec E E' i (F i) = l := ⟨_, rfl⟩
      rw [hl1] at hEf HI1 HP q3
      rw [hl0] at hEi HI0 HP n3 c3 hw1
      rw [hf] at q3 c2 n2 hw1 hflN
      have HF := hide hf
      clear hl0 hl1 hf hfl hEiE
      have hfI : (f : Int) < T.length := by omega
      have hiI : (i : Int) < T.length := by omega
      have HCC : Hid (Calls Try.prog 39 #[.slice (some ⟨w1.heap.size, 0, none⟩) 2 2] (w1.alloc (.cells #[.slice oe l0.length ce, .slice of l1.length cf_] 55)).drew fun e w' =>
          ∃ v, e = .returned v ∧ Below w1.heap.size w1 w' ∧ w'.ownsRow (w1.heap.size + 1) 3 1 v (l0 ++ l1).length (cellsZ (l0 ++ l1))) := hide (by
        have bb : Below w1.heap.size w1 (w1.alloc (.cells #[.slice oe l0.length ce, .slice of l1.length cf_] 55)).drew := ((Below.refl _ _).alloc (Nat.le_refl _) _).drew
        have bw := b1.trans (bb.mono b1.size)
        have hlen : (w1.alloc (.cells #[.slice oe l0.length ce, .slice of l1.length cf_] 55)).drew.heap.size = w1.heap.size + 1 := by simp
        refine (concat_any _ w1.heap.size (fun j => if j = 0 then .slice oe l0.length ce else .slice of l1.length cf_) (fun j => if j = 0 then l0 else l1) (by rw [hlen]; omega) ?_ ?_ ?_).mono ?_
        · intro j hj
          match j, hj with
          | 0, _ => rw [World.cell?_drew, World.cell?_alloc_new]; rfl
          | 1, _ => rw [World.cell?_drew, World.cell?_alloc_new]; rfl
        · intro j hj
          match j, hj with
          | 0, _ => exact (unhide HI0) _ bw
          | 1, _ => exact (unhide HI1) _ bw
        · intro j hj
          match j, hj with
          | 0, _ => exact hEi.1
          | 1, _ => exact hEf.1
        · rintro e w' ⟨v, rfl, b, own⟩
          rw [hlen] at own
          exact ⟨v, rfl, bb.trans (b.mono bb.size), own⟩)
      clear b1
      go_wp2_with fail
      go_region_with (go_at_call 39; refine (unhide HCC).mono ?_; rintro e w3 ⟨v, rfl, b3, own3⟩)
      all_goals (
        have HSO := hide (sort_ints w3 (w1.heap.size + 1) v (l0 ++ l1) own3 (by rw [List.length_append]; have := hEi.1; have := hEf.1; omega))
        have OWN3 := hide own3
        have B3 := hide b3
        clear own3 b3
        go_wp2_with fail
        go_at_call 40
        refine (unhide HSO).mono ?_; rintro e w4 ⟨rfl, l', hp', hs', g4, own4⟩
        obtain rfl := (unhide HP) l' hp' hs'
        have hs3 := (unhide B3).size
        have b4 := hide ((unhide B3).grown g4 hs3 (fun q hq => Nat.le_of_succ_le ((unhide OWN3).lt q hq).1))
        have OWN4 := hide (own_base own4 (Nat.le_trans hB2 (Nat.le_succ _)))
        obtain ⟨o4, c4, rfl⟩ := own_forms own4
        clear hp' hs' g4 own4 HSO OWN3
        have ROW4 := hide (own_below (unhide ROW2) (unhide b4))
        have ENDS4 := hide (fun j hj => own_below ((unhide ENDS2) j hj) (unhide b4))
        have BEL4 := hide ((unhide BEL2).trans ((unhide b4).mono hB2))
        have hB4 : B ≤ w4.heap.size := Nat.le_trans hB2 (unhide b4).size
        obtain ⟨_, _, _, z3⟩ := own_node (unhide ROW4) (memFE_at hlt)
        have f3 := (unhide ROW4).frozenAt (i * 4 + 3)
        dsimp only at z3
        rw [unhide HFE] at z3
        go_wp2_with fail
        obtain ⟨sR, gR⟩ := (unhide ROW4).stored (i * 4 + 3) (.slice o4 (E' i).length c4)
        rw [cellsM_setE (memFE_at hlt), memFE_setE (E' := E) _ hlt] at sR
        have hgl := (unhide ROW4).lt g rfl
        refine ⟨⟨i + 1, by go_num, by omega, (unhide BEL4).grown gR hB4 (fun q hq => by cases hq; exact hgl.1), _, sR, ?_⟩, by simp [intOf]; omega⟩
        intro j hj
        by_cases hji : j = i
        · subst hji
          rw [if_pos rfl, show Ec E E' (j + 1) j = E' j by unfold Ec; rw [if_pos (by omega)]]
          exact (unhide OWN4).kept gR (own_apart (unhide OWN4) (unhide ROW4) (by decide))
        · rw [if_neg hji, show Ec E E' (i + 1) j = Ec E E' i j by unfold Ec; by_cases g : j < i; rw [if_pos g, if_pos (by omega)]; rw [if_neg g, if_neg (by omega)]]
          exact ((unhide ENDS4) j hj).kept gR (own_apart ((unhide ENDS4) j hj) (unhide ROW4) (by decide)))
    · obtain rfl : i = T.length := by omega
      go_wp2_with fail
      go_end0
      exact ⟨rfl, unhide BEL, eV', by rw [memFE_E T F E' E]; exact unhide ROW1, fun j hj => by have := (unhide ENDS1) j hj; unfold Ec at this; rw [if_pos hj] at this; exact this⟩
end Go.Proofs.Ytmmjcbfffcnfiaa
