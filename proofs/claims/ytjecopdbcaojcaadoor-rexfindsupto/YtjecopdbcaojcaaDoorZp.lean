/- The laws of Find, plain. -/
import Derived.Test.YtjecopdbcaojcaaDoorZo
namespace Go.Proofs.YtjecopdbcaojcaaDoor
open Go.RowKit Kb Pop
set_option linter.unusedVariables false
set_option maxRecDepth 20000
open Sp

namespace Sp
theorem M_cat_congr {s : List UInt8} {a a' b b' : Ex} (h1 : M s a = M s a') (h2 : M s b = M s b') : M s (.cat a b) = M s (.cat a' b') := by
  funext i j
  rw [M, M, h1, h2]
theorem M_star_congr {s : List UInt8} {a a' : Ex} (h1 : M s a = M s a') : M s (.star a) = M s (.star a') := by
  funext i j
  rw [M, M, h1]
end Sp
/-- a letter as a set -/
def oneS (b : Nat) : Se := ⟨if b / 64 = 0 then 2 ^ (b % 64) else 0, if b / 64 = 1 then 2 ^ (b % 64) else 0, 0, 0⟩
theorem bit_a : ∀ j ∈ List.range 256, bit (oneS 97) j = decide (j = 97) := by decide +kernel
theorem bit_b : ∀ j ∈ List.range 256, bit (oneS 98) j = decide (j = 98) := by decide +kernel
theorem M_letter {s : List UInt8} {t : Se} {b : Nat} (h : ∀ j, j < 256 → bit t j = decide (j = b)) (h2 : ∀ j ∈ List.range 256, bit (oneS b) j = decide (j = b)) : M s (.byte t) = M s (.byte (oneS b)) :=
  M_bit fun c => by rw [h _ c.toNat_lt, h2 _ (List.mem_range.2 c.toNat_lt)]
theorem first_le {s : List UInt8} {x : Ex} {i j : Nat} (h1 : M s x i j = true) (h2 : ∀ k ∈ List.range (s.length + 1), j < k → M s x i k = false) (h3 : ∀ h ∈ List.range i, ∀ k ∈ List.range (s.length + 1), M s x h k = false) : First (M s x) (some (i, j)) := by
  refine ⟨h1, fun k hk => ?_, fun h k hh => ?_⟩
  · have := M_ok s x i k hk
    rcases Nat.lt_or_ge j k with g | g
    · rw [h2 k (List.mem_range.2 (by omega)) g] at hk; cases hk
    · exact g
  · cases ht : M s x h k with
    | false => rfl
    | true =>
      have := M_ok s x h k ht
      rw [h3 h (List.mem_range.2 hh) k (List.mem_range.2 (by omega))] at ht
      cases ht
theorem first_xabb {s u : Se} (hs : ∀ j, j < 256 → bit s j = decide (j = 97)) (hu : ∀ j, j < 256 → bit u j = decide (j = 98)) : First (M [120, 97, 98, 98] (.cat (.byte s) (.star (.byte u)))) (some (1, 4)) := by
  rw [M_cat_congr (M_letter hs bit_a) (M_star_congr (M_letter hu bit_b))]
  exact first_le (by decide +kernel) (by decide +kernel) (by decide +kernel)
theorem first_baa {s : Se} (hs : ∀ j, j < 256 → bit s j = decide (j = 97)) : First (M [98, 97, 97] (.star (.byte s))) (some (0, 0)) := by
  rw [M_star_congr (M_letter hs bit_a)]
  exact first_le (by decide +kernel) (by decide +kernel) (by decide +kernel)
theorem one_full' {t : Se} {b : Nat} (hb : b < 256) (h : ∀ j, j < 256 → bit t j = decide (j = b)) : t ≠ noSet := fun e => by
  have h1 := h b hb
  rw [e] at h1
  have : ∀ j ∈ List.range 256, bit noSet j = false := by decide +kernel
  rw [this b (List.mem_range.2 hb)] at h1
  simp at h1
/-- of a right expression: what is found is known -/
theorem Fo.right {x : Ex} {s : ByteArray} {a b : Int} {is ok : Bool} (h : Fo x.rx s a b is ok) (hf : x.Full) (hn : x.nodes ≤ 80) (hh : x.high ≤ 20) (hs : s.size ≤ 300) : ok = true ∧ ∃ o, First (M s.data.toList x) o ∧ is = o.isSome ∧ (match o with | none => a = 0 ∧ b = 0 | some (i, j) => a = i ∧ b = j) := by
  have hc : chkR x.rx = 0 := by
    unfold chkR
    rw [ex_look x 1 0 hf (by omega) (by omega)]
  rcases h with ⟨_, _, _, _, h | h⟩ | ⟨h1, _, _, y, o, hy, _, ho, h2, h3⟩
  · exact absurd hc h
  · omega
  · rw [← rx_inj x y hy] at ho
    exact ⟨h1, o, ho, h2, h3⟩
/-- where all went well -/
theorem Fo.good {r : Rx} {s : ByteArray} {a b : Int} {is : Bool} (h : Fo r s a b is true) : chkR r = 0 ∧ s.size ≤ 300 ∧ ∃ (x : Ex) (o : Option (Nat × Nat)), r = x.rx ∧ x.Full ∧ First (M s.data.toList x) o ∧ is = o.isSome ∧ (match o with | none => a = 0 ∧ b = 0 | some (i, j) => a = i ∧ b = j) := by
  rcases h with ⟨h, _⟩ | ⟨_, h1, h2, h3⟩
  · cases h
  · exact ⟨h1, h2, h3⟩
theorem Fo.is_iff {x : Ex} {s : ByteArray} {a b : Int} {is : Bool} (h : Fo x.rx s a b is true) : is = true ↔ ∃ i j, M s.data.toList x i j = true := by
  obtain ⟨_, _, y, o, hy, _, ho, h2, _⟩ := h.good
  rw [← rx_inj x y hy] at ho
  rw [h2]
  exact ho.some_iff
theorem law_alt {r q : Rx} {s : ByteArray} {x1 x2 y1 y2 z1 z2 : Int} {a b c : Bool} (hr : Fo r s x1 x2 a true) (hq : Fo q s y1 y2 b true) (hc : Fo (.mk 5 noSet [r, q]) s z1 z2 c true) : c = (a || b) := by
  obtain ⟨_, _, x, _, rfl, _⟩ := hr.good
  obtain ⟨_, _, y, _, rfl, _⟩ := hq.good
  have hc' : Fo (Ex.alt x y).rx s z1 z2 c true := hc
  rw [Bool.eq_iff_iff, Bool.or_eq_true, hr.is_iff, hq.is_iff, hc'.is_iff]
  constructor
  · rintro ⟨i, j, h⟩
    rw [M, Bool.or_eq_true] at h
    rcases h with h | h
    · exact .inl ⟨i, j, h⟩
    · exact .inr ⟨i, j, h⟩
  · rintro (⟨i, j, h⟩ | ⟨i, j, h⟩)
    · exact ⟨i, j, by rw [M, h, Bool.true_or]⟩
    · exact ⟨i, j, by rw [M, h, Bool.or_true]⟩
/-- an expression with ^ and $ around, as it lies -/
def wholeR (r : Rx) : Rx := .mk 4 noSet [.mk 4 noSet [.mk 7 noSet [], r], .mk 8 noSet []]
theorem wholeR_ex {r : Rx} {z : Ex} (h : wholeR r = z.rx) : ∃ x : Ex, r = x.rx ∧ z = .cat (.cat .beg x) .en := by
  unfold wholeR at h
  cases z with
  | cat a b =>
    simp only [Ex.rx, Rx.mk.injEq, List.cons.injEq, and_true, true_and] at h
    obtain ⟨h1, h2⟩ := h
    obtain rfl : Ex.en = b := rx_inj .en b h2
    cases a with
    | cat c x =>
      simp only [Ex.rx, Rx.mk.injEq, List.cons.injEq, and_true, true_and] at h1
      obtain ⟨h3, h4⟩ := h1
      obtain rfl : Ex.beg = c := rx_inj .beg c h3
      exact ⟨x, h4, rfl⟩
    | _ => simp [Ex.rx] at h1
  | _ => simp [Ex.rx] at h
theorem Full_whole {x : Ex} (h : (Ex.cat (.cat .beg x) .en).Full) : x.Full := h.1.2
theorem law_whole {r : Rx} {s : ByteArray} {a b : Int} (h : Fo (wholeR r) s a b true true) : a = 0 ∧ b = s.size := by
  obtain ⟨_, _, z, o, hz, _, ho, h2, h3⟩ := h.good
  obtain ⟨x, rfl, rfl⟩ := wholeR_ex hz
  cases o with
  | none => cases h2
  | some p =>
    obtain ⟨h4, h5, _⟩ := (M_whole _ _ _ _).1 ho.1
    have hl : s.data.toList.length = s.size := len_data s
    have h6 := h3
    dsimp only at h6
    exact ⟨by rw [h6.1, h4]; rfl, by rw [h6.2, h5, hl]⟩
theorem law_more {r : Rx} {s t : ByteArray} {x1 x2 y1 y2 : Int} {d : Bool} (hr : Fo r s x1 x2 true true) (hd : Fo r (s ++ t) y1 y2 d true) (hn : ¬ HasK 8 r) : d = true := by
  obtain ⟨_, _, x, _, rfl, _⟩ := hr.good
  obtain ⟨i, j, h⟩ := hr.is_iff.1 rfl
  refine hd.is_iff.2 ⟨i, j, ?_⟩
  have := M_more s.data.toList t.data.toList x ((hasK_ex x).2 hn) i j h
  rwa [show (s ++ t).data.toList = s.data.toList ++ t.data.toList by simp] 
theorem kd_n {w : World} : ∀ (n : Nat) (l : List Rx) (v : Value), SizeOf.sizeOf l ≤ n → Kd w l v → KdN TT w l v := by
  intro n
  induction n with
  | zero => intro l v hn h; cases l <;> simp at hn
  | succ n ih =>
    intro l v hn h
    rw [Kd] at h
    rw [KdN]
    refine ⟨h.1, h.2.1, fun hne => ?_⟩
    obtain ⟨g, off, c, h1, h2, h3⟩ := h.2.2 hne
    refine ⟨g, off, c, h1, h2, trivial, fun i hi => ?_⟩
    obtain ⟨h4, k0, k1, k2, k3, k4, e, k5, h5⟩ := h3 i hi
    have := Rx.ks_lt hi
    exact ⟨h4, k0, k1, k2, k3, k4, e, k5, ih _ _ (by omega) h5⟩
theorem RexV.n {w : World} {v : Value} {r : Rx} (h : RexV w v r) : RexN TT w v r := by
  obtain ⟨e, h1, h2⟩ := h.val
  exact ⟨⟨e, h1, kd_n _ _ _ (Nat.le_refl _) h2⟩, h.fit⟩
end Go.Proofs.YtjecopdbcaojcaaDoor
