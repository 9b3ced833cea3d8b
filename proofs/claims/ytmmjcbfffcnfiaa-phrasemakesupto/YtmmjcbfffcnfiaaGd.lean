/- All beginnings of words by their lengths: the list made text by text is the tree's own. -/
import Derived.Test.YtmmjcbfffcnfiaaGb
namespace Go.Proofs.Ytmmjcbfffcnfiaa
open Kb Ph
set_option linter.unusedVariables false
set_option maxRecDepth 20000

/-- of two texts of one length: at the first place where they differ the one is less -/
def lx : List UInt8 → List UInt8 → Prop
  | a :: a1, b :: b1 => a < b ∨ (a = b ∧ lx a1 b1)
  | [], _ => False
  | _ :: _, [] => False
theorem lx_asymm : ∀ (a b : List UInt8), lx a b → lx b a → False
  | a :: a1, b :: b1, h, g => by
    unfold lx at h g
    rcases h with h | ⟨h1, h2⟩
    · rcases g with g | ⟨g1, _⟩
      · exact UInt8.lt_asymm h g
      · subst g1; exact UInt8.lt_irrefl _ h
    · subst h1
      rcases g with g | ⟨_, g2⟩
      · exact UInt8.lt_irrefl _ g
      · exact lx_asymm a1 b1 h2 g2
  | [], _, h, _ => by unfold lx at h; exact h
  | _ :: _, [], h, _ => by unfold lx at h; exact h
theorem lx_append : ∀ (a b c d : List UInt8), lx a b → lx (a ++ c) (b ++ d)
  | a :: a1, b :: b1, c, d, h => by
    unfold lx at h
    show lx (a :: (a1 ++ c)) (b :: (b1 ++ d))
    unfold lx
    rcases h with h | ⟨h1, h2⟩
    · exact .inl h
    · exact .inr ⟨h1, lx_append a1 b1 c d h2⟩
  | [], _, _, _, h => by unfold lx at h; exact h.elim
  | _ :: _, [], _, _, h => by unfold lx at h; exact h.elim
theorem lx_snoc (t : List UInt8) {x y : UInt8} (h : x < y) : lx (t ++ [x]) (t ++ [y]) := by
  induction t with
  | nil => show lx [x] [y]; unfold lx; exact .inl h
  | cons a t ih => show lx (a :: (t ++ [x])) (a :: (t ++ [y])); unfold lx; exact .inr ⟨rfl, ih⟩
/-- by length, then by bytes -/
def tl (a b : List UInt8) : Prop := a.length < b.length ∨ (a.length = b.length ∧ lx a b)
theorem tl_asymm {a b : List UInt8} (h : tl a b) (g : tl b a) : False := by
  unfold tl at h g
  rcases h with h | ⟨h1, h2⟩
  · rcases g with g | ⟨g1, _⟩ <;> omega
  · rcases g with g | ⟨_, g2⟩
    · omega
    · exact lx_asymm _ _ h2 g2
theorem tl_irrefl {a : List UInt8} (h : tl a a) : False := tl_asymm h h
theorem tl_lx {a b : List UInt8} (h : tl a b) (e : a.length = b.length) : lx a b := by
  rcases h with h | ⟨_, h⟩
  · omega
  · exact h
theorem same_of_tl {a b : List (List UInt8)} (ha : a.Pairwise tl) (hb : b.Pairwise tl) (h : ∀ x, x ∈ a ↔ x ∈ b) : a = b := by
  have na : a.Nodup := ha.imp (fun {x y} hxy e => by subst e; exact tl_irrefl hxy)
  have nb : b.Nodup := hb.imp (fun {x y} hxy e => by subst e; exact tl_irrefl hxy)
  exact ((List.perm_ext_iff_of_nodup na nb).2 h).eq_of_pairwise (fun x y _ _ h1 h2 => (tl_asymm h1 h2).elim) ha hb
theorem Tx.tls {T : List Nd} {X : List (List UInt8)} (h : Tx T X) (k : Nat) : k < T.length → ∀ j, j < k → tl (xt X j) (xt X k) := by
  induction k using Nat.strongRecOn with
  | _ k ih =>
    intro hk j hj
    have hm := h.mono k hk j (by omega)
    obtain ⟨pk, bk, hpk, hck, huk, hxk⟩ := h.node k (by omega) hk
    by_cases hl : (xt X j).length < (xt X k).length
    · exact .inl hl
    have he : (xt X j).length = (xt X k).length := by omega
    have hj0 : 1 ≤ j := by
      by_cases h0 : j = 0
      · subst h0; rw [h.x0, hxk, List.length_append] at he; simp at he
      · omega
    obtain ⟨pj, bj, hpj, hcj, huj, hxj⟩ := h.node j hj0 (by omega)
    have ho := h.ord j k hj0 hj hk
    unfold slt at ho
    rw [hcj, huj, hck, huk] at ho
    dsimp only at ho
    refine .inr ⟨he, ?_⟩
    have he' := he
    rw [hxj, hxk, List.length_append, List.length_append] at he'
    rw [hxj, hxk]
    rcases ho with ho | ⟨ho1, ho2⟩
    · have := ih pk hpk (by omega) pj (by omega)
      exact lx_append _ _ _ _ (tl_lx this (by simpa using he'))
    · have : pj = pk := by omega
      subst this
      exact lx_snoc _ (UInt8.lt_iff_toNat_lt.2 (by omega))
theorem GI.tls {ws : List ByteArray} {d : Nat} {T : List Nd} {at_ : List Nat} {X : List (List UInt8)} {lev : Nat} (h : GI ws d T at_ X lev) : X.Pairwise tl := by
  rw [List.pairwise_iff_getElem]
  intro i j hi hj hij
  have := h.tx.tls j (by rw [← h.len]; exact hj) i hij
  simpa [xt, List.getD, List.getElem?_eq_getElem hi, List.getElem?_eq_getElem hj] using this

/-- whether a text is a beginning of a word -/
def okp (ws : List ByteArray) (t : List UInt8) : Bool := ws.any fun x => t.isPrefixOf x.data.toList
theorem okp_iff {ws : List ByteArray} {t : List UInt8} : okp ws t = true ↔ ∃ i, i < ws.length ∧ t <+: wd ws i := by
  unfold okp
  rw [List.any_eq_true]
  constructor
  · rintro ⟨x, hx, hp⟩
    obtain ⟨i, hi⟩ := List.mem_iff_getElem?.1 hx
    exact ⟨i, (List.getElem?_eq_some_iff.1 hi).1, by rw [wd, List.getD, hi]; exact List.isPrefixOf_iff_prefix.1 hp⟩
  · rintro ⟨i, hi, hp⟩
    exact ⟨ws.getD i ByteArray.empty, by simp [List.getD, List.getElem?_eq_getElem hi], List.isPrefixOf_iff_prefix.2 hp⟩
theorem okp_pre {ws : List ByteArray} {t u : List UInt8} (h : okp ws u = true) (g : t <+: u) : okp ws t = true := by
  obtain ⟨i, hi, hp⟩ := okp_iff.1 h
  exact okp_iff.2 ⟨i, hi, g.trans hp⟩
/-- a text's longer ones by one byte below b that begin words -/
def kidP (ws : List ByteArray) (t : List UInt8) : Nat → List (List UInt8)
  | 0 => []
  | b + 1 => kidP ws t b ++ if okp ws (t ++ [UInt8.ofNat b]) = true then [t ++ [UInt8.ofNat b]] else []
/-- those of the first u texts that have length d -/
def lvP (ws : List ByteArray) (R : List (List UInt8)) (d : Nat) : Nat → List (List UInt8)
  | 0 => []
  | u + 1 => lvP ws R d u ++ if (xt R u).length = d then kidP ws (xt R u) 256 else []
/-- all beginnings of words up to a length, by their lengths -/
def Rl (ws : List ByteArray) : Nat → List (List UInt8)
  | 0 => [[]]
  | d + 1 => Rl ws d ++ lvP ws (Rl ws d) d (Rl ws d).length
theorem kidP_len (ws : List ByteArray) (t : List UInt8) (b : Nat) : (kidP ws t b).length ≤ b := by
  induction b with
  | zero => simp [kidP]
  | succ b ih => rw [kidP, List.length_append]; split <;> simp <;> omega
theorem lvP_len (ws : List ByteArray) (R : List (List UInt8)) (d u : Nat) : (lvP ws R d u).length ≤ u * 256 := by
  induction u with
  | zero => simp [lvP]
  | succ u ih =>
    have := kidP_len ws (xt R u) 256
    rw [lvP, List.length_append]; split <;> simp <;> omega
theorem kidP_mem {ws : List ByteArray} {t x : List UInt8} {b : Nat} : x ∈ kidP ws t b ↔ ∃ c, c < b ∧ x = t ++ [UInt8.ofNat c] ∧ okp ws x = true := by
  induction b with
  | zero => simp [kidP]
  | succ b ih =>
    rw [kidP, List.mem_append, ih]
    constructor
    · rintro (⟨c, h1, h2, h3⟩ | h)
      · exact ⟨c, by omega, h2, h3⟩
      · by_cases g : okp ws (t ++ [UInt8.ofNat b]) = true
        · rw [if_pos g, List.mem_singleton] at h
          exact ⟨b, by omega, h, by rw [h]; exact g⟩
        · rw [if_neg g] at h; cases h
    · rintro ⟨c, h1, h2, h3⟩
      by_cases hc : c = b
      · subst hc; right; rw [← h2, if_pos h3]; exact List.mem_singleton.2 rfl
      · exact .inl ⟨c, by omega, h2, h3⟩
theorem lvP_mem {ws : List ByteArray} {R : List (List UInt8)} {x : List UInt8} {d u : Nat} : x ∈ lvP ws R d u ↔ ∃ j, j < u ∧ (xt R j).length = d ∧ x ∈ kidP ws (xt R j) 256 := by
  induction u with
  | zero => simp [lvP]
  | succ u ih =>
    rw [lvP, List.mem_append, ih]
    constructor
    · rintro (⟨c, h1, h2, h3⟩ | h)
      · exact ⟨c, by omega, h2, h3⟩
      · by_cases g : (xt R u).length = d
        · rw [if_pos g] at h; exact ⟨u, by omega, g, h⟩
        · rw [if_neg g] at h; cases h
    · rintro ⟨c, h1, h2, h3⟩
      by_cases hc : c = u
      · subst hc; right; rw [if_pos h2]; exact h3
      · exact .inl ⟨c, by omega, h2, h3⟩
theorem u8_ofNat_lt {a b : Nat} (h : a < b) (hb : b < 256) : UInt8.ofNat a < UInt8.ofNat b := by
  rw [UInt8.lt_iff_toNat_lt]
  simp only [UInt8.toNat_ofNat']
  omega
theorem kidP_tls (ws : List ByteArray) (t : List UInt8) (b : Nat) (hb : b ≤ 256) : (kidP ws t b).Pairwise tl := by
  induction b with
  | zero => exact List.Pairwise.nil
  | succ b ih =>
    rw [kidP, List.pairwise_append]
    refine ⟨ih (by omega), by split <;> simp, ?_⟩
    intro x hx y hy
    obtain ⟨c, h1, h2, _⟩ := kidP_mem.1 hx
    split at hy
    · rw [List.mem_singleton] at hy
      subst h2 hy
      exact .inr ⟨by simp, lx_snoc t (u8_ofNat_lt h1 (by omega))⟩
    · cases hy
theorem xt_tls {R : List (List UInt8)} (h : R.Pairwise tl) {i j : Nat} (hij : i < j) (hj : j < R.length) : tl (xt R i) (xt R j) := by
  have := List.pairwise_iff_getElem.1 h i j (by omega) hj hij
  simpa [xt, List.getD, List.getElem?_eq_getElem hj, List.getElem?_eq_getElem (show i < R.length by omega)] using this
theorem lvP_tls (ws : List ByteArray) {R : List (List UInt8)} (h : R.Pairwise tl) (d u : Nat) (hu : u ≤ R.length) : (lvP ws R d u).Pairwise tl := by
  induction u with
  | zero => exact List.Pairwise.nil
  | succ u ih =>
    rw [lvP, List.pairwise_append]
    refine ⟨ih (by omega), ?_, ?_⟩
    · split
      · exact kidP_tls ws _ _ (Nat.le_refl _)
      · exact List.Pairwise.nil
    · intro x hx y hy
      obtain ⟨j, h1, h2, h3⟩ := lvP_mem.1 hx
      obtain ⟨c, _, h4, _⟩ := kidP_mem.1 h3
      split at hy
      · rename_i g
        obtain ⟨c', _, h5, _⟩ := kidP_mem.1 hy
        subst h4 h5
        refine .inr ⟨by simp [h2, g], lx_append _ _ _ _ (tl_lx (xt_tls h h1 (by omega)) (by rw [h2, g]))⟩
      · cases hy
theorem xt_mem {R : List (List UInt8)} {j : Nat} (h : j < R.length) : xt R j ∈ R := by
  simp [xt, List.getD, List.getElem?_eq_getElem h]
theorem mem_xt {R : List (List UInt8)} {x : List UInt8} (h : x ∈ R) : ∃ j, j < R.length ∧ xt R j = x := by
  obtain ⟨j, hj⟩ := List.mem_iff_getElem?.1 h
  exact ⟨j, (List.getElem?_eq_some_iff.1 hj).1, by simp [xt, List.getD, hj]⟩
theorem Rl_mem {ws : List ByteArray} {x : List UInt8} {d : Nat} : x ∈ Rl ws d ↔ x = [] ∨ (x.length ≤ d ∧ okp ws x = true) := by
  induction d generalizing x with
  | zero =>
    rw [Rl, List.mem_singleton]
    constructor
    · exact .inl
    · rintro (h | ⟨h, _⟩)
      · exact h
      · exact List.length_eq_zero_iff.1 (by omega)
  | succ d ih =>
    rw [Rl, List.mem_append, ih, lvP_mem]
    constructor
    · rintro ((h | ⟨h1, h2⟩) | ⟨j, h1, h2, h3⟩)
      · exact .inl h
      · exact .inr ⟨by omega, h2⟩
      · obtain ⟨c, _, h4, h5⟩ := kidP_mem.1 h3
        exact .inr ⟨by rw [h4, List.length_append, h2]; simp, h5⟩
    · rintro (h | ⟨h1, h2⟩)
      · exact .inl (.inl h)
      · by_cases hd : x.length ≤ d
        · exact .inl (.inr ⟨hd, h2⟩)
        · right
          rcases List.eq_nil_or_concat x with rfl | ⟨y, c, hyc⟩
          · simp at hd
          rw [List.concat_eq_append] at hyc
          subst hyc
          have hy : y.length = d := by simp at h1 hd; omega
          have hm : y ∈ Rl ws d := ih.2 (.inr ⟨by omega, okp_pre h2 ⟨[c], rfl⟩⟩)
          obtain ⟨j, hj, e⟩ := mem_xt hm
          refine ⟨j, hj, by rw [e]; exact hy, kidP_mem.2 ⟨c.toNat, c.toNat_lt, ?_, h2⟩⟩
          rw [e]; simp
theorem Rl_tls (ws : List ByteArray) (d : Nat) : (Rl ws d).Pairwise tl := by
  induction d with
  | zero => exact List.pairwise_singleton _ _
  | succ d ih =>
    rw [Rl, List.pairwise_append]
    refine ⟨ih, lvP_tls ws ih d _ (Nat.le_refl _), ?_⟩
    intro x hx y hy
    obtain ⟨j, h1, h2, h3⟩ := lvP_mem.1 hy
    obtain ⟨c, _, h4, _⟩ := kidP_mem.1 h3
    refine .inl ?_
    rw [h4, List.length_append, h2]
    rcases Rl_mem.1 hx with rfl | ⟨g, _⟩
    · simp
    · simp; omega
theorem GI.Rl {ws : List ByteArray} {T : List Nd} {at_ : List Nat} {X : List (List UInt8)} {lev : Nat} (h : GI ws 40 T at_ X lev) (hsz : ∀ x ∈ ws, x.size ≤ 40) : X = Rl ws 40 := by
  refine same_of_tl h.tls (Rl_tls ws 40) fun x => ?_
  rw [Rl_mem]
  constructor
  · intro hx
    obtain ⟨j, hj, e⟩ := mem_xt hx
    rcases h.pre j (by rw [← h.len]; exact hj) with h0 | ⟨i, hi, hp⟩
    · left; rw [← e, h0]; exact h.xroot
    · right
      rw [e] at hp
      have hm : ws.getD i ByteArray.empty ∈ ws := by simp [List.getD, List.getElem?_eq_getElem hi]
      have hl := hp.length_le
      rw [wd_size] at hl
      exact ⟨Nat.le_trans hl (hsz _ hm), okp_iff.2 ⟨i, hi, hp⟩⟩
  · rintro (rfl | ⟨hl, ho⟩)
    · have := xt_mem (R := X) (j := 0) (by rw [h.len]; exact h.pos)
      rwa [h.xroot] at this
    · obtain ⟨i, hi, hp⟩ := okp_iff.1 ho
      obtain ⟨j, hj, e⟩ := h.all i x.length hi hl
      have : xt X j = x := by rw [e]; exact (List.prefix_iff_eq_take.1 hp).symm
      rw [← this]
      exact xt_mem (by rw [h.len]; exact hj)
theorem Rl_grow (ws : List ByteArray) (d e : Nat) : (Rl ws d).length ≤ (Rl ws (d + e)).length := by
  induction e with
  | zero => exact Nat.le_refl _
  | succ e ih => rw [← Nat.add_assoc, Go.Proofs.Ytmmjcbfffcnfiaa.Rl, List.length_append]; omega
theorem Rl_short {ws : List ByteArray} {d : Nat} {x : List UInt8} (h : x ∈ Rl ws d) : x.length ≤ d := by
  rcases Rl_mem.1 h with rfl | ⟨g, _⟩
  · simp
  · exact g

/-- the last of the first k texts that is shorter than t and ends it -/
def lastP (R : List (List UInt8)) (t : List UInt8) : Nat → Nat
  | 0 => 0
  | k + 1 => if (xt R k).length < t.length ∧ xt R k <:+ t then k else lastP R t k
theorem lastP_spec (R : List (List UInt8)) (t : List UInt8) (f : Nat) (hf : (xt R f).length < t.length ∧ xt R f <:+ t) (k : Nat) (hk : f < k) :
    f ≤ lastP R t k ∧ lastP R t k < k ∧ (xt R (lastP R t k)).length < t.length ∧ xt R (lastP R t k) <:+ t := by
  induction k with
  | zero => omega
  | succ k ih =>
    rw [lastP]
    split
    · rename_i g; exact ⟨by omega, by omega, g⟩
    · rename_i g
      have hfk : f ≠ k := by intro e; subst e; exact g hf
      obtain ⟨h1, h2, h3⟩ := ih (by omega)
      exact ⟨h1, by omega, h3⟩
theorem Tx.lastP {T : List Nd} {X : List (List UInt8)} (h : Tx T X) {j f : Nat} (hf : Tx.Fails T X j f) : lastP X (xt X j) T.length = f := by
  obtain ⟨h1, h2, h3, h4⟩ := lastP_spec X (xt X j) f ⟨hf.2.2.1, hf.2.1⟩ T.length hf.1
  have h5 := hf.2.2.2 _ h2 h4 h3
  have h6 := h.mono _ h2 f h1
  have h7 : xt X (Go.Proofs.Ytmmjcbfffcnfiaa.lastP X (xt X j) T.length) = xt X f := (List.suffix_of_suffix_length_le h4 hf.2.1 h5).eq_of_length (by omega)
  exact h.uniq h2 hf.1 h7
theorem lastP_lt (R : List (List UInt8)) (t : List UInt8) (k : Nat) (hk : 0 < k) : lastP R t k < k := by
  induction k with
  | zero => omega
  | succ k ih =>
    rw [lastP]
    split
    · omega
    · by_cases h0 : k = 0
      · subst h0; rw [lastP]; omega
      · have := ih (by omega); omega
end Go.Proofs.Ytmmjcbfffcnfiaa
