/- What the grown tree is: a node for each beginning of a word. -/
import Derived.Test.YtmmjcbfffcnfiaaFq
namespace Go.Proofs.Ytmmjcbfffcnfiaa
open Kb Ph
set_option linter.unusedVariables false
set_option maxRecDepth 20000

theorem kidL_some {T : List Nd} {i : Nat} {n c : Int} (h : kidL T i n c ≠ 0) : n = (nd T (kidL T i n c)).up ∧ c = (nd T (kidL T i n c)).c := by
  induction i with
  | zero => exact absurd rfl h
  | succ i ih =>
    revert h
    unfold kidL
    by_cases h1 : i ≠ 0 ∧ n = (nd T i).up ∧ c = (nd T i).c
    · rw [if_pos h1]; exact fun _ => h1.2
    · rw [if_neg h1]; exact fun h => ih h
theorem kidL_none {T : List Nd} {i : Nat} {n c : Int} (h : kidL T i n c = 0) : ∀ k, 1 ≤ k → k < i → ¬ (n = (nd T k).up ∧ c = (nd T k).c) := by
  induction i with
  | zero => intro k _ hk; omega
  | succ i ih =>
    intro k hk1 hk2 hm
    unfold kidL at h
    by_cases h1 : i ≠ 0 ∧ n = (nd T i).up ∧ c = (nd T i).c
    · rw [if_pos h1] at h; exact h1.1 h
    · rw [if_neg h1] at h
      by_cases hki : k = i
      · subst hki; exact h1 ⟨by omega, hm⟩
      · exact ih h k hk1 (by omega) hm

def xt (X : List (List UInt8)) (j : Nat) : List UInt8 := X.getD j []
theorem xt_left {X Y : List (List UInt8)} {j : Nat} (h : j < X.length) : xt (X ++ Y) j = xt X j := by simp [xt, List.getD, List.getElem?_append_left h]
def wd (ws : List ByteArray) (i : Nat) : List UInt8 := (ws.getD i ByteArray.empty).data.toList
theorem wd_size (ws : List ByteArray) (i : Nat) : (wd ws i).length = (ws.getD i ByteArray.empty).size := by simp [wd]
structure GI (ws : List ByteArray) (d : Nat) (T : List Nd) (at_ : List Nat) (X : List (List UInt8)) (lev : Nat) : Prop where
  len : X.length = T.length
  pos : 0 < T.length
  root : nd T 0 = ⟨0, 0, 0, []⟩
  xroot : xt X 0 = []
  node : ∀ j, 1 ≤ j → j < T.length → ∃ (p : Nat) (b : UInt8), p < j ∧ nd T j = ⟨(b.toNat : Int), (p : Int), 0, []⟩ ∧ xt X j = xt X p ++ [b]
  levle : lev ≤ T.length
  lo : ∀ j, j < lev → (xt X j).length < d
  hi : ∀ j, lev ≤ j → j < T.length → (xt X j).length = d
  ord : ∀ j k, 1 ≤ j → j < k → k < T.length → slt ((nd T j).up, (nd T j).c) ((nd T k).up, (nd T k).c)
  pre : ∀ j, j < T.length → j = 0 ∨ ∃ i, i < ws.length ∧ xt X j <+: wd ws i
  all : ∀ i e, i < ws.length → e ≤ d → ∃ j, j < T.length ∧ xt X j = (wd ws i).take e
  alen : at_.length = ws.length
  ats : ∀ i, i < ws.length → at_.getD i 0 < T.length ∧ xt X (at_.getD i 0) = (wd ws i).take d
theorem raw_mem {ws : List ByteArray} {at_ : List Nat} {d k : Nat} {x : St} : x ∈ raw ws at_ d k ↔ ∃ i, i < k ∧ d < (wd ws i).length ∧ x = (((at_.getD i 0 : Nat) : Int), (((wd ws i).getD d 0).toNat : Int)) := by
  induction k with
  | zero => simp [raw]
  | succ k ih =>
    rw [raw, List.mem_append, ih]
    constructor
    · rintro (⟨i, h1, h2, h3⟩ | h)
      · exact ⟨i, by omega, h2, h3⟩
      · by_cases hd : d < (ws.getD k ByteArray.empty).size
        · rw [if_pos hd, List.mem_singleton] at h
          exact ⟨k, by omega, by rw [wd_size]; exact hd, h⟩
        · rw [if_neg hd] at h; cases h
    · rintro ⟨i, h1, h2, h3⟩
      by_cases hik : i = k
      · subst hik
        right
        rw [if_pos (by rw [← wd_size]; exact h2), List.mem_singleton]; exact h3
      · exact .inl ⟨i, by omega, h2, h3⟩
theorem upd_get {ws : List ByteArray} {T : List Nd} {at_ : List Nat} {d : Nat} (k : Nat) (hk : k ≤ at_.length) (i : Nat) : (upd ws T at_ d k).getD i 0 =
    if i < k ∧ d < (wd ws i).length then KidL T ((at_.getD i 0 : Nat) : Int) (((wd ws i).getD d 0).toNat : Int) else at_.getD i 0 := by
  induction k with
  | zero => simp [upd]
  | succ k ih =>
    have ih := ih (by omega)
    have hl := upd_len ws T at_ d k
    have hkk : (upd ws T at_ d k).getD k 0 = at_.getD k 0 := by
      clear ih
      have : ∀ m, m ≤ k → (upd ws T at_ d m).getD k 0 = at_.getD k 0 := by
        intro m hm
        induction m with
        | zero => rfl
        | succ m ihm =>
          rw [upd]
          split
          · rw [List.getD, List.getElem?_set_ne (by omega)]; exact ihm (by omega)
          · exact ihm (by omega)
      exact this k (Nat.le_refl _)
    rw [upd]
    by_cases hd : d < (ws.getD k ByteArray.empty).size
    · rw [if_pos hd, hkk]
      by_cases hik : i = k
      · subst hik
        rw [if_pos ⟨by omega, by rw [wd_size]; exact hd⟩, List.getD, List.getElem?_set_self (by rw [hl]; omega)]; rfl
      · rw [List.getD, List.getElem?_set_ne (fun e => hik e.symm)]
        have : ((upd ws T at_ d k)[i]?.getD 0) = (upd ws T at_ d k).getD i 0 := rfl
        rw [this, ih]
        by_cases hc : i < k ∧ d < (wd ws i).length
        · rw [if_pos hc, if_pos ⟨by omega, hc.2⟩]
        · rw [if_neg hc, if_neg (fun h => hc ⟨by omega, h.2⟩)]
    · rw [if_neg hd, ih]
      by_cases hc : i < k ∧ d < (wd ws i).length
      · rw [if_pos hc, if_pos ⟨by omega, hc.2⟩]
      · rw [if_neg hc, if_neg]
        rintro ⟨h1, h2⟩
        by_cases hik : i = k
        · subst hik; rw [wd_size] at h2; exact hd h2
        · exact hc ⟨by omega, h2⟩
theorem take_succ_get {l : List UInt8} {d : Nat} (h : d < l.length) : l.take (d + 1) = l.take d ++ [l.getD d 0] := by
  rw [List.take_add_one, List.getElem?_eq_getElem h, List.getD, List.getElem?_eq_getElem h]; rfl

theorem GI.zero (ws : List ByteArray) : GI ws 0 [⟨0, 0, 0, []⟩] (List.replicate ws.length 0) [[]] 0 := by
  refine ⟨rfl, by simp, rfl, rfl, ?_, by simp, ?_, ?_, ?_, ?_, ?_, by simp, ?_⟩
  · intro j h1 h2; simp at h2; omega
  · intro j h; omega
  · intro j _ h; simp at h; subst h; rfl
  · intro j k h1 h2 h3; simp at h3; omega
  · intro j h; simp at h; exact .inl h
  · intro i e hi he; exact ⟨0, by simp, by rw [show e = 0 by omega]; rfl⟩
  · intro i hi
    have : (List.replicate ws.length 0).getD i 0 = 0 := by simp [List.getD, hi]
    rw [this]; exact ⟨by simp, rfl⟩
theorem u8_back (b : UInt8) : UInt8.ofNat ((b.toNat : Int).toNat) = b := by simp
theorem GI.step {ws : List ByteArray} {d : Nat} {T : List Nd} {at_ : List Nat} {X : List (List UInt8)} {lev : Nat} {S : List St} (h : GI ws d T at_ X lev) (hS : StepsOf ws at_ d S) :
    GI ws (d + 1) (T ++ S.map mkN) (upd ws (T ++ S.map mkN) at_ d ws.length) (X ++ S.map fun s => xt X s.1.toNat ++ [UInt8.ofNat s.2.toNat]) T.length := by
  obtain ⟨hsort, hmem⟩ := hS
  have hxl : ∀ {j}, j < T.length → xt (X ++ S.map fun s => xt X s.1.toNat ++ [UInt8.ofNat s.2.toNat]) j = xt X j := fun {j} hj => xt_left (by rw [h.len]; exact hj)
  have hlenT : (T ++ S.map mkN).length = T.length + S.length := by simp
  have hnew : ∀ j, T.length ≤ j → j < (T ++ S.map mkN).length → ∃ i, i < ws.length ∧ d < (wd ws i).length ∧ ∃ q, j = T.length + q ∧ S[q]? = some (((at_.getD i 0 : Nat) : Int), (((wd ws i).getD d 0).toNat : Int)) ∧
      nd (T ++ S.map mkN) j = ⟨(((wd ws i).getD d 0).toNat : Int), ((at_.getD i 0 : Nat) : Int), 0, []⟩ ∧ xt (X ++ S.map fun s => xt X s.1.toNat ++ [UInt8.ofNat s.2.toNat]) j = xt X (at_.getD i 0) ++ [(wd ws i).getD d 0] := by
    intro j h1 h2
    rw [hlenT] at h2
    obtain ⟨q, rfl⟩ : ∃ q, j = T.length + q := ⟨j - T.length, by omega⟩
    have hq : q < S.length := by omega
    obtain ⟨s, hs⟩ : ∃ s, S[q]? = some s := ⟨S[q], List.getElem?_eq_getElem hq⟩
    obtain ⟨i, hi, hdi, rfl⟩ := raw_mem.1 ((hmem s).1 (List.mem_of_getElem? hs))
    refine ⟨i, hi, hdi, q, rfl, hs, ?_, ?_⟩
    · refine nd_of ?_
      rw [List.getElem?_append_right (by omega), Nat.add_sub_cancel_left, List.getElem?_map, hs]; rfl
    · unfold xt
      rw [List.getD, List.getElem?_append_right (by rw [h.len]; omega), h.len, Nat.add_sub_cancel_left, List.getElem?_map, hs]
      show xt X (((at_.getD i 0 : Nat) : Int)).toNat ++ [UInt8.ofNat ((((wd ws i).getD d 0).toNat : Int)).toNat] = _
      rw [u8_back, Int.toNat_natCast]; rfl
  have hlevat : ∀ i, i < ws.length → d < (wd ws i).length → lev ≤ at_.getD i 0 := by
    intro i hi hd
    have h1 := (h.ats i hi).2
    rcases Nat.lt_or_ge (at_.getD i 0) lev with h2 | h2
    · have h3 := h.lo _ h2
      rw [h1, List.length_take] at h3; omega
    · exact h2
  have hnode : ∀ j, 1 ≤ j → j < (T ++ S.map mkN).length → ∃ (p : Nat) (b : UInt8), p < j ∧ nd (T ++ S.map mkN) j = ⟨(b.toNat : Int), (p : Int), 0, []⟩ ∧
      xt (X ++ S.map fun s => xt X s.1.toNat ++ [UInt8.ofNat s.2.toNat]) j = xt (X ++ S.map fun s => xt X s.1.toNat ++ [UInt8.ofNat s.2.toNat]) p ++ [b] := by
    intro j h1 h2
    rcases Nat.lt_or_ge j T.length with hj | hj
    · obtain ⟨p, b, hp, hn, hx⟩ := h.node j h1 hj
      exact ⟨p, b, hp, by rw [nd_left hj]; exact hn, by rw [hxl hj, hxl (by omega)]; exact hx⟩
    · obtain ⟨i, hi, hd, q, _, _, hn, hx⟩ := hnew j hj h2
      have ha := (h.ats i hi).1
      exact ⟨at_.getD i 0, (wd ws i).getD d 0, by omega, hn, by rw [hx, hxl ha]⟩
  refine ⟨by simp [h.len], by rw [hlenT]; have := h.pos; omega, ?_, ?_, hnode, by rw [hlenT]; omega, ?_, ?_, ?_, ?_, ?_, ?_, ?_⟩
  · rw [nd_left h.pos]; exact h.root
  · rw [hxl h.pos]; exact h.xroot
  · intro j hj
    rw [hxl hj]
    rcases Nat.lt_or_ge j lev with h2 | h2
    · have := h.lo j h2; omega
    · have := h.hi j h2 hj; omega
  · intro j h1 h2
    obtain ⟨i, hi, hd, q, _, _, _, hx⟩ := hnew j h1 h2
    rw [hx, List.length_append, (h.ats i hi).2, List.length_take]; simp; omega
  · intro j k h1 h2 h3
    rcases Nat.lt_or_ge k T.length with hk | hk
    · rw [nd_left hk, nd_left (by omega)]; exact h.ord j k h1 h2 hk
    · obtain ⟨i, hi, hd, q, hq, hsq, hn, _⟩ := hnew k hk h3
      rcases Nat.lt_or_ge j T.length with hj | hj
      · rw [nd_left hj, hn]
        obtain ⟨p, b, hp, hnj, hx⟩ := h.node j h1 hj
        rw [hnj]
        have hle : (xt X j).length ≤ d := by
          rcases Nat.lt_or_ge j lev with g | g
          · have := h.lo j g; omega
          · have := h.hi j g hj; omega
        rw [hx, List.length_append] at hle
        have hpl : p < lev := by
          rcases Nat.lt_or_ge p lev with g | g
          · exact g
          · have := h.hi p g (by omega); simp at hle; omega
        have := hlevat i hi hd
        left; show (p : Int) < ((at_.getD i 0 : Nat) : Int); omega
      · obtain ⟨i', hi', hd', q', hq', hsq', hn', _⟩ := hnew j hj (by omega)
        rw [hn, hn']
        have hqq : q' < q := by omega
        have hql : q < S.length := (List.getElem?_eq_some_iff.1 hsq).1
        have := List.pairwise_iff_getElem.1 hsort q' q (by omega) hql hqq
        rw [(List.getElem?_eq_some_iff.1 hsq).2, (List.getElem?_eq_some_iff.1 hsq').2] at this
        exact this
  · intro j hj
    rcases Nat.lt_or_ge j T.length with hj' | hj'
    · rcases h.pre j hj' with h0 | ⟨i, hi, hp⟩
      · exact .inl h0
      · exact .inr ⟨i, hi, by rw [hxl hj']; exact hp⟩
    · obtain ⟨i, hi, hd, q, _, _, _, hx⟩ := hnew j hj' hj
      refine .inr ⟨i, hi, ?_⟩
      rw [hx, (h.ats i hi).2, ← take_succ_get hd]
      exact List.take_prefix _ _
  · intro i e hi he
    rcases Nat.lt_or_ge e (d + 1) with h1 | h1
    · obtain ⟨j, hj, hx⟩ := h.all i e hi (by omega)
      exact ⟨j, by omega, by rw [hxl hj]; exact hx⟩
    · have he' : e = d + 1 := by omega
      subst he'
      rcases Nat.lt_or_ge d (wd ws i).length with hd | hd
      · have hs := (hmem (((at_.getD i 0 : Nat) : Int), (((wd ws i).getD d 0).toNat : Int))).2 (raw_mem.2 ⟨i, hi, hd, rfl⟩)
        obtain ⟨q, hq, hsq⟩ := List.mem_iff_getElem.1 hs
        obtain ⟨i', hi', hd', q', hq', hsq', hn', hx'⟩ := hnew (T.length + q) (by omega) (by omega)
        have hqq : q' = q := by omega
        subst hqq
        rw [List.getElem?_eq_getElem hq, hsq] at hsq'
        have e1 := Option.some.inj hsq'
        have e2 : at_.getD i 0 = at_.getD i' 0 := by have : ((at_.getD i 0 : Nat) : Int) = ((at_.getD i' 0 : Nat) : Int) := congrArg Prod.fst e1; omega
        have e3 : (wd ws i).getD d 0 = (wd ws i').getD d 0 := by have : (((wd ws i).getD d 0).toNat : Int) = (((wd ws i').getD d 0).toNat : Int) := congrArg Prod.snd e1; exact UInt8.toNat_inj.1 (by omega)
        refine ⟨T.length + q', by omega, ?_⟩
        rw [hx', ← e2, ← e3, (h.ats i hi).2, take_succ_get hd]
      · obtain ⟨j, hj, hx⟩ := h.all i d hi (Nat.le_refl _)
        refine ⟨j, by omega, ?_⟩
        rw [hxl hj, hx, List.take_of_length_le hd, List.take_of_length_le (by omega)]
  · rw [upd_len]; exact h.alen
  · intro i hi
    rw [upd_get ws.length (by rw [h.alen]; exact Nat.le_refl _) i]
    have ha := h.ats i hi
    by_cases hd : d < (wd ws i).length
    · rw [if_pos ⟨hi, hd⟩]
      obtain ⟨m, hm⟩ : ∃ m, KidL (T ++ S.map mkN) ((at_.getD i 0 : Nat) : Int) (((wd ws i).getD d 0).toNat : Int) = m := ⟨_, rfl⟩
      rw [hm]
      have hm0 : m ≠ 0 := by
        intro e
        have hs := (hmem (((at_.getD i 0 : Nat) : Int), (((wd ws i).getD d 0).toNat : Int))).2 (raw_mem.2 ⟨i, hi, hd, rfl⟩)
        obtain ⟨q, hq, hsq⟩ := List.mem_iff_getElem.1 hs
        have hk := kidL_none (hm.trans e) (T.length + q) (by have := h.pos; omega) (by omega)
        apply hk
        have hn : nd (T ++ S.map mkN) (T.length + q) = mkN S[q] := nd_of (by rw [List.getElem?_append_right (by omega), Nat.add_sub_cancel_left, List.getElem?_map, List.getElem?_eq_getElem hq]; rfl)
        rw [hn, hsq]; exact ⟨rfl, rfl⟩
      have hlt : m < (T ++ S.map mkN).length := by
        have := kidL_lt (T ++ S.map mkN) (T ++ S.map mkN).length ((at_.getD i 0 : Nat) : Int) (((wd ws i).getD d 0).toNat : Int)
        unfold KidL at hm; omega
      have hsome := kidL_some (T := T ++ S.map mkN) (i := (T ++ S.map mkN).length) (n := ((at_.getD i 0 : Nat) : Int)) (c := (((wd ws i).getD d 0).toNat : Int)) (by unfold KidL at hm; omega)
      rw [show kidL (T ++ S.map mkN) (T ++ S.map mkN).length ((at_.getD i 0 : Nat) : Int) (((wd ws i).getD d 0).toNat : Int) = m from hm] at hsome
      obtain ⟨p, b, hp, hn, hx⟩ := hnode m (by omega) hlt
      rw [hn] at hsome
      have e1 : at_.getD i 0 = p := by have : ((at_.getD i 0 : Nat) : Int) = (p : Int) := hsome.1; omega
      have e2 : (wd ws i).getD d 0 = b := UInt8.toNat_inj.1 (by have : (((wd ws i).getD d 0).toNat : Int) = (b.toNat : Int) := hsome.2; omega)
      refine ⟨hlt, ?_⟩
      rw [hx, ← e1, hxl ha.1, ha.2, ← e2, take_succ_get hd]
    · rw [if_neg (fun g => hd g.2)]
      refine ⟨by omega, ?_⟩
      rw [hxl ha.1, ha.2, List.take_of_length_le (by omega), List.take_of_length_le (by omega)]
theorem gr_inv {ws : List ByteArray} {d : Nat} {T : List Nd} {at_ : List Nat} (h : Gr ws d T at_) : ∃ X lev, GI ws d T at_ X lev := by
  induction h with
  | zero => exact ⟨_, _, GI.zero ws⟩
  | step _ hS ih => obtain ⟨X, lev, hX⟩ := ih; exact ⟨_, _, hX.step hS⟩
end Go.Proofs.Ytmmjcbfffcnfiaa
