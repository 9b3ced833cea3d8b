/- Plain: what is come to, by passes over marks (how the document's Runs goes about it). -/
import Derived.Test.YtmgealcolofomaaEc
namespace Go.Proofs.Ytmgealcolofomaa
open Go.RowKit Kb
set_option linter.unusedVariables false
set_option maxRecDepth 20000
namespace Pm
/-- is it marked? -/
def Hr (h : List Bool) (k : Nat) : Prop := h[k]? = some true
/-- how many are not marked -/
def uH (h : List Bool) : Nat := h.count false
theorem hr_set {h : List Bool} {t k : Nat} (hk : Hr h k) : Hr (h.set t true) k := by
  unfold Hr at *
  rw [List.getElem?_set]
  split
  · have := (List.getElem?_eq_some_iff.1 hk).1
    rename_i e; subst e; rw [if_pos this]
  · exact hk
theorem hr_new {h : List Bool} {t : Nat} (ht : t < h.length) : Hr (h.set t true) t := by
  unfold Hr
  rw [List.getElem?_set, if_pos rfl, if_pos ht]
theorem hr_of {h : List Bool} {t k : Nat} (hk : Hr (h.set t true) k) : Hr h k ∨ k = t := by
  unfold Hr at *
  rw [List.getElem?_set] at hk
  split at hk
  · rename_i e; exact .inr e.symm
  · exact .inl hk
theorem set_same {h : List Bool} {t : Nat} (ht : Hr h t) : h.set t true = h := by
  apply List.ext_getElem?
  intro i
  rw [List.getElem?_set]
  split
  · rename_i e; subst e
    have := (List.getElem?_eq_some_iff.1 ht).1
    rw [if_pos this]; exact ht.symm
  · rfl
theorem uH_set : ∀ (h : List Bool) (t : Nat), h[t]? = some false → uH (h.set t true) + 1 = uH h := by
  intro h
  induction h with
  | nil => intro t e; simp at e
  | cons b r ih =>
    intro t e
    cases t with
    | zero =>
      simp at e; subst e
      simp [uH]
    | succ t =>
      have := ih t (by simpa using e)
      unfold uH at *
      rw [List.set_cons_succ, List.count_cons, List.count_cons]; omega
/-- the marks at a place, ahead of the passes or amid them -/
structure At (p : List In) (s : L8) (f a : Nat) (h : List Bool) : Prop where
  size : h.length = p.length
  sound : ∀ k, Hr h k → Come p s f a k
  base : a = f → Hr h 0
  byt : ∀ b i k, a = b + 1 → Come p s f b i → Byt p s b i k → Hr h k
theorem At.all {p : List In} {s : L8} {f a k : Nat} {h : List Bool} (hc : Come p s f a k) (ha : At p s f a h) (cl : ∀ i k, Hr h i → Eps p s.length a i k → Hr h k) : Hr h k := by
  induction hc with
  | start _ => exact ha.base rfl
  | eps _ he ih => exact cl _ _ (ih ha cl) he
  | byt hc hb _ => exact ha.byt _ _ _ rfl hc hb
theorem At.mark {p : List In} {s : L8} {f a t : Nat} {h : List Bool} (ha : At p s f a h) (hc : Come p s f a t) : At p s f a (h.set t true) := by
  refine ⟨by rw [List.length_set]; exact ha.size, fun k hk => ?_, fun e => hr_set (ha.base e), fun b i k e h1 h2 => hr_set (ha.byt b i k e h1 h2)⟩
  rcases hr_of hk with h1 | rfl
  · exact ha.sound k h1
  · exact hc
/-- amid a pass: k instructions are gone over; of the one at hand D is marked; m: was there a new one? -/
structure PassI (p : List In) (s : L8) (f a u0 k : Nat) (D : List Nat) (m : Bool) (h : List Bool) : Prop where
  at_ : At p s f a h
  le : uH h ≤ u0
  lt : m = true → uH h < u0
  cl : m = false → ∀ i, i < k → Hr h i → ∀ j, Eps p s.length a i j → Hr h j
  dn : m = false → ∀ t ∈ D, Hr h t
theorem PassI.start {p : List In} {s : L8} {f a : Nat} {h : List Bool} (ha : At p s f a h) : PassI p s f a (uH h) 0 [] false h :=
  ⟨ha, Nat.le_refl _, fun e => (by cases e), fun _ i hi => absurd hi (Nat.not_lt_zero _), fun _ t ht => by cases ht⟩
theorem PassI.mark {p : List In} {s : L8} {f a u0 k t : Nat} {D : List Nat} {m b : Bool} {h : List Bool} (hp : PassI p s f a u0 k D m h) (hb : h[t]? = some b) (hc : Come p s f a t) :
    PassI p s f a u0 k (t :: D) (m || !b) (h.set t true) := by
  cases b with
  | true =>
    have e : h.set t true = h := set_same hb
    rw [e]
    refine ⟨hp.at_, hp.le, fun h1 => hp.lt (by simpa using h1), fun h1 => hp.cl (by simpa using h1), fun h1 x hx => ?_⟩
    rcases List.mem_cons.1 hx with rfl | hx
    · exact hb
    · exact hp.dn (by simpa using h1) x hx
  | false =>
    have e := uH_set h t hb
    have := hp.le
    exact ⟨hp.at_.mark hc, by omega, fun _ => by omega, fun h1 => by simp at h1, fun h1 => by simp at h1⟩
theorem PassI.next {p : List In} {s : L8} {f a u0 k : Nat} {D : List Nat} {m : Bool} {h : List Bool} (hp : PassI p s f a u0 k D m h)
    (hD : m = false → Hr h k → ∀ j, Eps p s.length a k j → j ∈ D) : PassI p s f a u0 (k + 1) [] m h := by
  refine ⟨hp.at_, hp.le, hp.lt, fun e i hi hr j hj => ?_, fun _ t ht => by cases ht⟩
  rcases Nat.lt_succ_iff_lt_or_eq.1 hi with hi | rfl
  · exact hp.cl e i hi hr j hj
  · exact hp.dn e j (hD e hr j hj)
/-- behind a pass that brought nothing new the marks are just what is come to -/
theorem PassI.done {p : List In} {s : L8} {f a u0 : Nat} {D : List Nat} {h : List Bool} (hp : PassI p s f a u0 p.length D false h) (k : Nat) : Hr h k ↔ Come p s f a k := by
  refine ⟨hp.at_.sound k, fun hc => hp.at_.all hc (fun i j hi hj => ?_)⟩
  refine hp.cl rfl i ?_ hi j hj
  have := (List.getElem?_eq_some_iff.1 hi).1
  rw [hp.at_.size] at this; exact this
/-- where an instruction leads at a place, as the document goes through the kinds -/
theorem eps_one {p : List In} {n a i j : Nat} {x : In} (hx : p[i]? = some x) : Eps p n a i j ↔ ((x.k = 2 ∧ (j = x.a.toNat ∨ j = x.b.toNat)) ∨ (x.k = 3 ∧ j = x.a.toNat) ∨ (x.k = 4 ∧ a = 0 ∧ j = i + 1) ∨ (x.k = 5 ∧ a = n ∧ j = i + 1)) := by
  constructor
  · rintro ⟨y, hy, h⟩
    rw [hx] at hy
    cases hy
    exact h
  · exact fun h => ⟨x, hx, h⟩
/-- amid the marks of the next place: k instructions are gone over; o: is there a match? -/
structure NextI (p : List In) (s : L8) (f a k : Nat) (nx : List Bool) (o : Bool) : Prop where
  size : nx.length = p.length
  sound : ∀ j, Hr nx j → ∃ i, Come p s f a i ∧ Byt p s a i j
  all : ∀ i, i < k → Come p s f a i → ∀ j, Byt p s a i j → Hr nx j
  found : o = true ↔ ∃ i, i < k ∧ Come p s f a i ∧ Fin6 p i
theorem NextI.start (p : List In) (s : L8) (f a : Nat) : NextI p s f a 0 (List.replicate p.length false) false := by
  refine ⟨by simp, fun j hj => ?_, fun i hi => absurd hi (Nat.not_lt_zero _), ⟨fun e => (by cases e), fun ⟨i, hi, _⟩ => absurd hi (Nat.not_lt_zero _)⟩⟩
  unfold Hr at hj
  have := (List.getElem?_eq_some_iff.1 hj).2
  simp at this
/-- one instruction more -/
theorem NextI.step {p : List In} (g : Good p) {s : L8} {f a k : Nat} {nx : List Bool} {o b6 b1 : Bool} (h : NextI p s f a k nx o)
    (h6 : b6 = true ↔ Come p s f a k ∧ Fin6 p k) (h1 : b1 = true ↔ Come p s f a k ∧ Byt p s a k (k + 1)) :
    NextI p s f a (k + 1) (if b1 = true then nx.set (k + 1) true else nx) (o || b6) := by
  have hto : ∀ j, Byt p s a k j → j = k + 1 := by
    rintro j ⟨x, c, _, _, _, _, e⟩; exact e
  have hfound : (o || b6) = true ↔ ∃ i, i < k + 1 ∧ Come p s f a i ∧ Fin6 p i := by
    rw [Bool.or_eq_true, h.found, h6]
    constructor
    · rintro (⟨i, hi, h2⟩ | h2)
      · exact ⟨i, by omega, h2⟩
      · exact ⟨k, by omega, h2⟩
    · rintro ⟨i, hi, h2⟩
      rcases Nat.lt_succ_iff_lt_or_eq.1 hi with hi | rfl
      · exact .inl ⟨i, hi, h2⟩
      · exact .inr h2
  cases b1 with
  | true =>
    obtain ⟨hc, hb⟩ := h1.1 rfl
    have hlt := g.byt hb
    rw [if_pos rfl]
    refine ⟨by rw [List.length_set]; exact h.size, fun j hj => ?_, fun i hi hci j hj => ?_, hfound⟩
    · rcases hr_of hj with hj | rfl
      · exact h.sound j hj
      · exact ⟨k, hc, hb⟩
    · rcases Nat.lt_succ_iff_lt_or_eq.1 hi with hi | rfl
      · exact hr_set (h.all i hi hci j hj)
      · rw [hto j hj]; exact hr_new (by rw [h.size]; exact hlt)
  | false =>
    rw [if_neg (by simp)]
    refine ⟨h.size, h.sound, fun i hi hci j hj => ?_, hfound⟩
    rcases Nat.lt_succ_iff_lt_or_eq.1 hi with hi | rfl
    · exact h.all i hi hci j hj
    · have e := hto j hj
      subst e
      exact absurd (h1.2 ⟨hci, hj⟩) (by simp)
theorem NextI.span {p : List In} (g : Good p) {s : L8} {f a : Nat} {nx : List Bool} {o : Bool} (h : NextI p s f a p.length nx o) : o = true ↔ Span p s f a := by
  rw [h.found]
  exact ⟨fun ⟨i, _, h1, h2⟩ => ⟨i, h1, h2⟩, fun ⟨i, h1, h2⟩ => ⟨i, g.come h1, h1, h2⟩⟩
theorem NextI.at_ {p : List In} (g : Good p) {s : L8} {f a : Nat} {nx : List Bool} {o : Bool} (hf : f ≤ a) (h : NextI p s f a p.length nx o) : At p s f (a + 1) nx := by
  refine ⟨h.size, fun k hk => ?_, fun e => by omega, fun b i k e h1 h2 => ?_⟩
  · obtain ⟨i, h1, h2⟩ := h.sound k hk
    exact .byt h1 h2
  · obtain rfl : a = b := by omega
    exact h.all i (g.come h1) h1 k h2
theorem At.first {p : List In} {s : L8} {f : Nat} (g : Good p) (hf : f ≤ s.length) : At p s f f ((List.replicate p.length false).set 0 true) := by
  refine ⟨by simp, fun k hk => ?_, fun _ => hr_new (by simpa using g.pos), fun b i k e h1 _ => ?_⟩
  · rcases hr_of hk with hk | rfl
    · unfold Hr at hk
      have := (List.getElem?_eq_some_iff.1 hk).2
      simp at this
    · exact .start hf
  · have := h1.le
    omega
end Pm
end Go.Proofs.Ytmgealcolofomaa
