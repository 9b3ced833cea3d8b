/- What the made tree finds: the words where they stand. -/
import Derived.Test.YtmmjcbfffcnfiaaFu
namespace Go.Proofs.Ytmmjcbfffcnfiaa
open Kb Ph
set_option linter.unusedVariables false
set_option maxRecDepth 20000

/-- the numbers of the words that end a text -/
def En (ws : List ByteArray) (t : List UInt8) : List Int := ((List.range ws.length).filter fun i => (wd ws i).isSuffixOf t).map fun (i : Nat) => (i : Int)
theorem En_mem {ws : List ByteArray} {t : List UInt8} {z : Int} : z ∈ En ws t ↔ ∃ i : Nat, i < ws.length ∧ wd ws i <:+ t ∧ z = (i : Int) := by
  unfold En
  rw [List.mem_map]
  constructor
  · rintro ⟨i, hi, rfl⟩
    obtain ⟨h1, h2⟩ := List.mem_filter.1 hi
    exact ⟨i, List.mem_range.1 h1, by simpa using h2, rfl⟩
  · rintro ⟨i, h1, h2, rfl⟩
    exact ⟨i, List.mem_filter.2 ⟨List.mem_range.2 h1, by simpa using h2⟩, rfl⟩
theorem En_sorted (ws : List ByteArray) (t : List UInt8) : (En ws t).Pairwise (· < ·) := by
  unfold En
  rw [List.pairwise_map]
  refine List.Pairwise.filter _ ?_
  have h : (List.range ws.length).Pairwise (· < ·) := List.pairwise_lt_range
  exact h.imp (fun {a b} (hab : a < b) => by omega)
theorem En_len (ws : List ByteArray) (t : List UInt8) : (En ws t).length ≤ ws.length := by
  unfold En
  rw [List.length_map]
  have := List.length_filter_le (fun i => (wd ws i).isSuffixOf t) (List.range ws.length)
  rw [List.length_range] at this; exact this
theorem En_bounds {ws : List ByteArray} {t : List UInt8} {z : Int} (h : z ∈ En ws t) : 0 ≤ z ∧ z < ws.length := by
  obtain ⟨i, hi, _, rfl⟩ := En_mem.1 h; omega
theorem En_congr {ws : List ByteArray} {t u : List UInt8} (h : ∀ i, i < ws.length → (wd ws i <:+ t ↔ wd ws i <:+ u)) : En ws t = En ws u := by
  unfold En
  congr 1
  refine List.filter_congr ?_
  intro i hi
  have := h i (List.mem_range.1 hi)
  rw [Bool.eq_iff_iff, List.isSuffixOf_iff_suffix, List.isSuffixOf_iff_suffix]; exact this
theorem idx_mem {at_ : List Nat} {j k : Nat} {z : Int} : z ∈ idx at_ j k ↔ ∃ i : Nat, i < k ∧ at_.getD i 0 = j ∧ z = (i : Int) := by
  induction k with
  | zero => simp [idx]
  | succ k ih =>
    rw [idx]
    by_cases h : at_.getD k 0 = j
    · rw [if_pos h, List.mem_append, ih, List.mem_singleton]
      constructor
      · rintro (⟨i, h1, h2, h3⟩ | h1)
        · exact ⟨i, by omega, h2, h3⟩
        · exact ⟨k, by omega, h, h1⟩
      · rintro ⟨i, h1, h2, h3⟩
        by_cases hik : i = k
        · subst hik; exact .inr h3
        · exact .inl ⟨i, by omega, h2, h3⟩
    · rw [if_neg h, ih]
      constructor
      · rintro ⟨i, h1, h2, h3⟩; exact ⟨i, by omega, h2, h3⟩
      · rintro ⟨i, h1, h2, h3⟩
        by_cases hik : i = k
        · subst hik; exact absurd h2 h
        · exact ⟨i, by omega, h2, h3⟩
theorem idx_sorted (at_ : List Nat) (j k : Nat) : (idx at_ j k).Pairwise (· < ·) := by
  induction k with
  | zero => simp [idx]
  | succ k ih =>
    rw [idx]
    split
    · rw [List.pairwise_append]
      refine ⟨ih, by simp, ?_⟩
      intro a ha b hb
      obtain ⟨i, hi, _, rfl⟩ := idx_mem.1 ha
      rw [List.mem_singleton] at hb
      omega
    · exact ih
theorem nodup_of_lt {l : List Int} (h : l.Pairwise (· < ·)) : l.Nodup := h.imp (fun {a b} hab e => by subst e; exact absurd hab (by omega))
theorem le_of_lt {l : List Int} (h : l.Pairwise (· < ·)) : l.Pairwise (· ≤ ·) := h.imp (fun {a b} hab => by omega)

/-- words and the tree of their beginnings -/
structure Wt (ws : List ByteArray) (T : List Nd) (at_ : List Nat) (X : List (List UInt8)) : Prop where
  tx : Tx T X
  nodes : ∀ i, i < ws.length → at_.getD i 0 < T.length ∧ xt X (at_.getD i 0) = wd ws i
  ne : ∀ i, i < ws.length → wd ws i ≠ []
theorem Wt.ats {ws : List ByteArray} {T : List Nd} {at_ : List Nat} {X : List (List UInt8)} (h : Wt ws T at_ X) {i j : Nat} (hi : i < ws.length) (hj : j < T.length) : at_.getD i 0 = j ↔ wd ws i = xt X j := by
  obtain ⟨h1, h2⟩ := h.nodes i hi
  constructor
  · rintro rfl; exact h2.symm
  · intro e; exact h.tx.uniq h1 hj (by rw [h2, e])
theorem Wt.perm {ws : List ByteArray} {T : List Nd} {at_ : List Nat} {X : List (List UInt8)} (h : Wt ws T at_ X) {j f : Nat} (hj : j < T.length) (hf : Tx.Fails T X j f) :
    (idx at_ j ws.length ++ En ws (xt X f)).Perm (En ws (xt X j)) := by
  have hfl := hf.2.2.1
  refine (List.perm_ext_iff_of_nodup ?_ (nodup_of_lt (En_sorted _ _))).2 ?_
  · rw [List.nodup_append]
    refine ⟨nodup_of_lt (idx_sorted _ _ _), nodup_of_lt (En_sorted _ _), ?_⟩
    intro a ha b hb e
    subst e
    obtain ⟨i, hi, hat, rfl⟩ := idx_mem.1 ha
    obtain ⟨i', hi', hs, e⟩ := En_mem.1 hb
    have : i = i' := by omega
    subst this
    have := hs.length_le
    rw [(h.ats hi hj).1 hat] at this
    omega
  · intro z
    rw [List.mem_append, idx_mem, En_mem, En_mem]
    constructor
    · rintro (⟨i, hi, hat, rfl⟩ | ⟨i, hi, hs, rfl⟩)
      · exact ⟨i, hi, by rw [(h.ats hi hj).1 hat]; exact List.suffix_rfl, rfl⟩
      · exact ⟨i, hi, hs.trans hf.2.1, rfl⟩
    · rintro ⟨i, hi, hs, rfl⟩
      rcases Nat.lt_or_ge (wd ws i).length (xt X j).length with g | g
      · right
        obtain ⟨h1, h2⟩ := h.nodes i hi
        have := hf.2.2.2 _ h1 (by rw [h2]; exact hs) (by rw [h2]; exact g)
        rw [h2] at this
        exact ⟨i, hi, List.suffix_of_suffix_length_le hs hf.2.1 this, rfl⟩
      · left
        have := hs.length_le
        exact ⟨i, hi, (h.ats hi hj).2 (hs.eq_of_length (by omega)), rfl⟩
theorem Wt.none {ws : List ByteArray} {T : List Nd} {at_ : List Nat} {X : List (List UInt8)} (h : Wt ws T at_ X) : En ws [] = [] := by
  rw [List.eq_nil_iff_forall_not_mem]
  intro z hz
  obtain ⟨i, hi, hs, _⟩ := En_mem.1 hz
  exact h.ne i hi (List.suffix_nil.1 hs)
theorem Wt.idx0 {ws : List ByteArray} {T : List Nd} {at_ : List Nat} {X : List (List UInt8)} (h : Wt ws T at_ X) : idx at_ 0 ws.length = [] := by
  rw [List.eq_nil_iff_forall_not_mem]
  intro z hz
  obtain ⟨i, hi, hs, _⟩ := idx_mem.1 hz
  have := (h.ats hi h.tx.pos).1 hs
  rw [h.tx.x0] at this
  exact h.ne i hi this

/-- the made tree -/
def made (ws : List ByteArray) (T : List Nd) (X : List (List UInt8)) : List Nd := withFE T (ff T T.length) (fun j => En ws (xt X j))
theorem made_len (ws : List ByteArray) (T : List Nd) (X : List (List UInt8)) : (made ws T X).length = T.length := withFE_len _ _ _
theorem made_nd {ws : List ByteArray} {T : List Nd} {X : List (List UInt8)} {j : Nat} (h : j < T.length) : nd (made ws T X) j = ⟨(nd T j).c, (nd T j).up, (ff T T.length j : Int), En ws (xt X j)⟩ := withFE_nd h
theorem Wt.txm {ws : List ByteArray} {T : List Nd} {at_ : List Nat} {X : List (List UInt8)} (h : Wt ws T at_ X) : Tx (made ws T X) X := h.tx.withFE _ _
theorem Wt.failsm {ws : List ByteArray} {T : List Nd} {at_ : List Nat} {X : List (List UInt8)} (h : Wt ws T at_ X) {j : Nat} (hj : j < T.length) (hj0 : j ≠ 0) : Tx.Fails (made ws T X) X j (fl (made ws T X) j) := by
  have := h.tx.fails T.length (Nat.le_refl _) j hj hj0
  unfold fl
  rw [made_nd hj]
  dsimp only
  rw [Int.toNat_natCast]
  unfold Tx.Fails at this ⊢
  rw [made_len]; exact this
theorem Wt.chk {ws : List ByteArray} {T : List Nd} {at_ : List Nat} {X : List (List UInt8)} (h : Wt ws T at_ X) (hT : T.length ≤ 400) (hn : ws.length ≤ 30) : chk (made ws T X) (ws.length : Int) = 0 := by
  have hp := h.tx.pos
  refine chk_ok (by rw [made_len]; simp only [gt_iff_lt]; omega) ⟨?_, by rw [made_nd hp]; exact h.tx.up0, ?_⟩ ?_
  · intro e; have := congrArg List.length e; rw [made_len, List.length_nil] at this; omega
  · rw [made_nd hp]; show ((ff T T.length 0 : Nat) : Int) = 0; rw [h.tx.ff_zero]; rfl
  · intro j hj
    have hj' := hj
    rw [made_len] at hj'
    refine ⟨?_, ?_⟩
    · by_cases hj0 : j = 0
      · exact .inl hj0
      · right
        obtain ⟨p, b, hp', hc, hu, hx⟩ := h.txm.node j (by omega) hj
        have hf := (h.tx.fails T.length (Nat.le_refl _) j hj' hj0).lt h.tx
        refine ⟨⟨by rw [hu]; omega, ?_⟩, ?_⟩
        · rw [made_nd hj']; dsimp only; omega
        · rw [kid_none]
          intro k hk1 hk2 hm
          have ho := h.txm.ord k j hk1 hk2 hj
          rcases ho with g | ⟨_, g⟩ <;> dsimp only at g <;> omega
    · intro e he
      rw [made_nd hj'] at he
      exact En_bounds he
theorem Wt.stt {ws : List ByteArray} {T : List Nd} {at_ : List Nat} {X : List (List UInt8)} (h : Wt ws T at_ X) (s : List UInt8) (k : Nat) : k ≤ s.length → Tx.Long (made ws T X) X (s.take k) (stt (made ws T X) s k) := by
  induction k with
  | zero =>
    intro _
    refine ⟨h.txm.pos, by rw [Ph.stt, h.tx.x0]; exact List.nil_suffix, ?_⟩
    intro i hi hs
    rw [Ph.stt, h.tx.x0]
    have := hs.length_le
    simpa using this
  | succ k ih =>
    intro hk
    have ih := ih (by omega)
    have hl := ih.1
    rw [made_len] at hl
    rw [Ph.stt, nx]
    obtain ⟨j, hj⟩ : ∃ j, Ph.stt (made ws T X) s k = j := ⟨_, rfl⟩
    rw [hj] at ih hl ⊢
    have hF : ∀ i, i ≤ j → i ≠ 0 → Tx.Fails (made ws T X) X i (fl (made ws T X) i) := fun i hi hi0 => h.failsm (by omega) hi0
    rw [h.txm.next_first (fl (made ws T X)) (s.getD k 0) j ih.1 (fun i hi hi0 => (hF i hi hi0).lt h.txm)]
    have hr := h.txm.next (fl (made ws T X)) (s.getD k 0) j ih.1 hF
    rw [take_succ_get (by omega)]
    refine ⟨hr.1, hr.2.1.trans (Tx.suf_snoc _ ih.2.1), ?_⟩
    intro i hi hs
    rcases h.txm.parent hi hs with e | ⟨p, hp, e, hsp, _⟩
    · rw [e]; simp
    · have h3 := ih.2.2 p (by omega) hsp
      refine hr.2.2 i hi ?_
      rw [e]; exact Tx.suf_snoc _ (List.suffix_of_suffix_length_le hsp ih.2.1 h3)
theorem Wt.ends {ws : List ByteArray} {T : List Nd} {at_ : List Nat} {X : List (List UInt8)} (h : Wt ws T at_ X) (s : List UInt8) {k : Nat} (hk : k ≤ s.length) : endsOf (made ws T X) (Ph.stt (made ws T X) s k) = En ws (s.take k) := by
  have hr := h.stt s k hk
  have hl := hr.1
  rw [made_len] at hl
  have e1 : En ws (xt X (Ph.stt (made ws T X) s k)) = En ws (s.take k) := by
    refine En_congr ?_
    intro i hi
    constructor
    · intro g; exact g.trans hr.2.1
    · intro g
      obtain ⟨h1, h2⟩ := h.nodes i hi
      have := hr.2.2 _ (by rw [made_len]; exact h1) (by rw [h2]; exact g)
      rw [h2] at this
      exact List.suffix_of_suffix_length_le g hr.2.1 this
  unfold endsOf
  by_cases h0 : Ph.stt (made ws T X) s k = 0
  · rw [if_pos h0, ← e1, h0, h.tx.x0, h.none]
  · rw [if_neg h0, made_nd hl, ← e1]
/-- where words stand in the first k bytes of a text -/
def stands (ws : List ByteArray) (s : List UInt8) : Nat → List Ht
  | 0 => []
  | k + 1 => stands ws s k ++ (En ws (s.take (k + 1))).map fun e => (e, ((k + 1 : Nat) : Int))
theorem Wt.hits {ws : List ByteArray} {T : List Nd} {at_ : List Nat} {X : List (List UInt8)} (h : Wt ws T at_ X) (s : List UInt8) (k : Nat) : k ≤ s.length → hits (made ws T X) s k = stands ws s k := by
  induction k with
  | zero => intro _; rfl
  | succ k ih =>
    intro hk
    rw [Ph.hits, stands, ih (by omega), h.ends s hk]
theorem gi_wt {ws : List ByteArray} {T : List Nd} {at_ : List Nat} (h : Gr ws 40 T at_) (hsz : ∀ x ∈ ws, x.size ≤ 40) (hne : ∀ x ∈ ws, x.size ≠ 0) : ∃ X lev, GI ws 40 T at_ X lev ∧ Wt ws T at_ X ∧ nd T 0 = ⟨0, 0, 0, []⟩ ∧ ∀ j, 1 ≤ j → j < T.length → (nd T j).fail = 0 ∧ (nd T j).ends = [] := by
  obtain ⟨X, lev, hX⟩ := gr_inv h
  have hlen : ∀ i, i < ws.length → (wd ws i).length ≤ 40 ∧ (wd ws i).length ≠ 0 := by
    intro i hi
    have hm : ws.getD i ByteArray.empty ∈ ws := by simp [List.getD, List.getElem?_eq_getElem hi]
    rw [wd_size]; exact ⟨hsz _ hm, hne _ hm⟩
  refine ⟨X, lev, hX, ⟨hX.tx, ?_, ?_⟩, hX.root, ?_⟩
  · intro i hi
    obtain ⟨h1, h2⟩ := hX.ats i hi
    exact ⟨h1, by rw [h2, List.take_of_length_le (hlen i hi).1]⟩
  · intro i hi e
    exact (hlen i hi).2 (by rw [e]; rfl)
  · intro j h1 h2
    obtain ⟨p, b, hp, hn, hx⟩ := hX.node j h1 h2
    rw [hn]; exact ⟨rfl, rfl⟩
end Go.Proofs.Ytmmjcbfffcnfiaa
