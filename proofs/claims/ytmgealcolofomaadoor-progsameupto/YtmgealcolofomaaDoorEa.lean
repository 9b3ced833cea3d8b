/- A machine that goes through instructions, plain: what it finds is the first span. No program is read here. -/
import Derived.Test.YtmgealcolofomaaDoorOa
import Derived.Test.YtmgealcolofomaaDoorHd
namespace Go.Proofs.YtmgealcolofomaaDoor
set_option linter.unusedVariables false
set_option maxRecDepth 20000
namespace Pm
abbrev L8 := List UInt8
/-- at the same place, an instruction leads to another one -/
def Eps (p : List In) (n a i k : Nat) : Prop :=
  ∃ x, p[i]? = some x ∧ ((x.k = 2 ∧ (k = x.a.toNat ∨ k = x.b.toNat)) ∨ (x.k = 3 ∧ k = x.a.toNat) ∨ (x.k = 4 ∧ a = 0 ∧ k = i + 1) ∨ (x.k = 5 ∧ a = n ∧ k = i + 1))
/-- over a byte -/
def Byt (p : List In) (s : L8) (a i k : Nat) : Prop := ∃ x c, p[i]? = some x ∧ x.k = 1 ∧ s[a]? = some c ∧ bit x.s c.toNat = true ∧ k = i + 1
def Fin6 (p : List In) (i : Nat) : Prop := ∃ x, p[i]? = some x ∧ x.k = 6
/-- what is come to, at which place, from place f on -/
inductive Come (p : List In) (s : L8) (f : Nat) : Nat → Nat → Prop
  | start : f ≤ s.length → Come p s f f 0
  | eps {a i k : Nat} : Come p s f a i → Eps p s.length a i k → Come p s f a k
  | byt {a i k : Nat} : Come p s f a i → Byt p s a i k → Come p s f (a + 1) k
def Span (p : List In) (s : L8) (f t : Nat) : Prop := ∃ k, Come p s f t k ∧ Fin6 p k
theorem Come.le {p : List In} {s : L8} {f a i : Nat} (h : Come p s f a i) : f ≤ a ∧ a ≤ s.length := by
  induction h with
  | start h => exact ⟨Nat.le_refl _, h⟩
  | eps _ _ ih => exact ih
  | byt _ hb ih =>
    obtain ⟨x, c, _, _, hc, _⟩ := hb
    have := (List.getElem?_eq_some_iff.1 hc).1
    omega
/-- a list that can be gone through -/
structure Good (p : List In) : Prop where
  pos : 0 < p.length
  small : p.length ≤ 400
  kind : ∀ i x, p[i]? = some x → (x.k = 1 ∧ i + 1 < p.length) ∨ (x.k = 2 ∧ (0 ≤ x.a ∧ x.a < (p.length : Int)) ∧ (0 ≤ x.b ∧ x.b < (p.length : Int))) ∨ (x.k = 3 ∧ 0 ≤ x.a ∧ x.a < (p.length : Int)) ∨ (x.k = 4 ∧ i + 1 < p.length) ∨ (x.k = 5 ∧ i + 1 < p.length) ∨ x.k = 6
theorem Good.eps {p : List In} (g : Good p) {n a i k : Nat} (h : Eps p n a i k) : k < p.length := by
  obtain ⟨x, hx, h⟩ := h
  have := g.kind i x hx
  omega
theorem Good.byt {p : List In} (g : Good p) {s : L8} {a i k : Nat} (h : Byt p s a i k) : k < p.length := by
  obtain ⟨x, c, hx, h1, _, _, rfl⟩ := h
  have := g.kind i x hx
  omega
theorem Good.come {p : List In} (g : Good p) {s : L8} {f a i : Nat} (h : Come p s f a i) : i < p.length := by
  cases h with
  | start => exact g.pos
  | eps _ h => exact g.eps h
  | byt _ h => exact g.byt h
structure St where
  seen : List Int
  next : List (Nat × Nat)
  found : Option (Nat × Nat)
def hasB (x : In) (s : L8) (a : Nat) : Bool := match s[a]? with | some c => bit x.s c.toNat | none => false
/-- the machine goes on from an instruction, at one place -/
def fol (p : List In) (s : L8) : Nat → Nat → Nat → Nat → St → St
  | 0, _, _, _, st => st
  | u + 1, i, f, a, st =>
    if st.seen[i]? = some ((a : Int) + 1) then st
    else match p[i]? with
      | none => { st with seen := st.seen.set i ((a : Int) + 1) }
      | some x =>
        if x.k = 1 then (if hasB x s a = true then { st with seen := st.seen.set i ((a : Int) + 1), next := st.next ++ [(i + 1, f)] } else { st with seen := st.seen.set i ((a : Int) + 1) })
        else if x.k = 2 then fol p s u x.b.toNat f a (fol p s u x.a.toNat f a { st with seen := st.seen.set i ((a : Int) + 1) })
        else if x.k = 3 then fol p s u x.a.toNat f a { st with seen := st.seen.set i ((a : Int) + 1) }
        else if x.k = 4 then (if a = 0 then fol p s u (i + 1) f a { st with seen := st.seen.set i ((a : Int) + 1) } else { st with seen := st.seen.set i ((a : Int) + 1) })
        else if x.k = 5 then (if a = s.length then fol p s u (i + 1) f a { st with seen := st.seen.set i ((a : Int) + 1) } else { st with seen := st.seen.set i ((a : Int) + 1) })
        else if x.k = 6 then { st with seen := st.seen.set i ((a : Int) + 1), found := some (f, a) } else { st with seen := st.seen.set i ((a : Int) + 1) }
/-- instruction k is marked at place a -/
def Mk (st : St) (a k : Nat) : Prop := st.seen[k]? = some ((a : Int) + 1)
/-- how many are not marked -/
def un (p : List In) (st : St) (a : Nat) : Nat := ((List.range p.length).filter fun k => decide (¬ st.seen[k]? = some ((a : Int) + 1))).length
/-- what came of going on from an instruction: the new ones, but those of E, lead nowhere but to marked ones -/
structure Go (p : List In) (s : L8) (f a : Nat) (E : Nat → Prop) (st st' : St) : Prop where
  size : st'.seen.length = st.seen.length
  keep : ∀ k, st'.seen[k]? = st.seen[k]? ∨ (k < p.length ∧ Mk st' a k)
  sound : ∀ k, Mk st' a k → Mk st a k ∨ Come p s f a k
  next : ∃ l, st'.next = st.next ++ l ∧ (∀ e ∈ l, e.2 = f ∧ ∃ k, Come p s f a k ∧ Byt p s a k e.1) ∧ ∀ k, Mk st' a k → ¬ Mk st a k → ¬ E k → ∀ k', Byt p s a k k' → (k', f) ∈ l
  found : (st'.found = st.found ∧ ∀ k, Mk st' a k → ¬ Mk st a k → ¬ E k → ¬ Fin6 p k) ∨ (st'.found = some (f, a) ∧ Span p s f a)
  closed : ∀ k, Mk st' a k → ¬ Mk st a k → ¬ E k → ∀ k', Eps p s.length a k k' → Mk st' a k'
theorem Go.mono {p : List In} {s : L8} {f a : Nat} {E : Nat → Prop} {st st' : St} (h : Go p s f a E st st') {k : Nat} (hk : Mk st a k) : Mk st' a k := by
  rcases h.keep k with e | ⟨_, e⟩
  · unfold Mk at hk ⊢; rw [e]; exact hk
  · exact e
theorem Go.refl (p : List In) (s : L8) (f a : Nat) (E : Nat → Prop) (st : St) : Go p s f a E st st :=
  ⟨rfl, fun _ => .inl rfl, fun _ h => .inl h, ⟨[], by simp, by simp, fun k h h' => absurd h h'⟩, .inl ⟨rfl, fun k h h' => absurd h h'⟩, fun k h h' => absurd h h'⟩
theorem Go.trans {p : List In} {s : L8} {f a : Nat} {E : Nat → Prop} {st st1 st2 : St} (h : Go p s f a E st st1) (h' : Go p s f a E st1 st2) : Go p s f a E st st2 := by
  obtain ⟨l1, n1, m1, c1⟩ := h.next
  obtain ⟨l2, n2, m2, c2⟩ := h'.next
  refine ⟨by rw [h'.size, h.size], fun k => ?_, fun k hk => ?_, ⟨l1 ++ l2, by rw [n2, n1, List.append_assoc], fun e he => ?_, fun k hk hn hE k' hb => ?_⟩, ?_, fun k hk hn hE k' hb => ?_⟩
  · rcases h'.keep k with e | e
    · rcases h.keep k with e1 | ⟨e1, e2⟩
      · exact .inl (e.trans e1)
      · exact .inr ⟨e1, h'.mono e2⟩
    · exact .inr e
  · rcases h'.sound k hk with h1 | h1
    · exact h.sound k h1
    · exact .inr h1
  · rcases List.mem_append.1 he with he | he
    · exact m1 e he
    · exact m2 e he
  · by_cases h1 : Mk st1 a k
    · exact List.mem_append_left _ (c1 k h1 hn hE k' hb)
    · exact List.mem_append_right _ (c2 k hk h1 hE k' hb)
  · rcases h'.found with ⟨e2, f2⟩ | e2
    · rcases h.found with ⟨e1, f1⟩ | ⟨e1, f1⟩
      · refine .inl ⟨e2.trans e1, fun k hk hn hE => ?_⟩
        by_cases h1 : Mk st1 a k
        · exact f1 k h1 hn hE
        · exact f2 k hk h1 hE
      · exact .inr ⟨e2.trans e1, f1⟩
    · exact .inr e2
  · by_cases h1 : Mk st1 a k
    · exact h'.mono (h.closed k h1 hn hE k' hb)
    · exact h'.closed k hk h1 hE k' hb
theorem Go.weak {p : List In} {s : L8} {f a : Nat} {E E' : Nat → Prop} {st st' : St} (h : Go p s f a E st st') (hE : ∀ k, E k → E' k) : Go p s f a E' st st' := by
  obtain ⟨l, n, m, c⟩ := h.next
  refine ⟨h.size, h.keep, h.sound, ⟨l, n, m, fun k hk hn he => c k hk hn (fun e => he (hE k e))⟩, ?_, fun k hk hn he => h.closed k hk hn (fun e => he (hE k e))⟩
  rcases h.found with ⟨e, f⟩ | e
  · exact .inl ⟨e, fun k hk hn he => f k hk hn (fun e => he (hE k e))⟩
  · exact .inr e
/-- an instruction is marked -/
theorem Go.mark {p : List In} {s : L8} {f a i : Nat} {st : St} (hi : i < p.length) (hl : p.length ≤ st.seen.length) (hc : Come p s f a i) :
    Go p s f a (fun k => k = i) st { st with seen := st.seen.set i ((a : Int) + 1) } ∧ Mk { st with seen := st.seen.set i ((a : Int) + 1) } a i := by
  have hmi : Mk { st with seen := st.seen.set i ((a : Int) + 1) } a i := by
    unfold Mk; dsimp only; rw [List.getElem?_set_self (by omega)]
  have hne : ∀ k, k ≠ i → (st.seen.set i ((a : Int) + 1))[k]? = st.seen[k]? := fun k hk => List.getElem?_set_ne (fun e => hk e.symm)
  have hnew : ∀ k, Mk { st with seen := st.seen.set i ((a : Int) + 1) } a k → ¬ Mk st a k → k = i := fun k hk hn => by
    by_cases e : k = i
    · exact e
    · exfalso; apply hn; unfold Mk at hk ⊢; dsimp only at hk; rwa [hne k e] at hk
  refine ⟨⟨by simp, fun k => ?_, fun k hk => ?_, ⟨[], by simp, by simp, fun k hk hn hE => absurd (hnew k hk hn) hE⟩, .inl ⟨rfl, fun k hk hn hE => absurd (hnew k hk hn) hE⟩, fun k hk hn hE => absurd (hnew k hk hn) hE⟩, hmi⟩
  · by_cases e : k = i
    · subst e; exact .inr ⟨hi, hmi⟩
    · exact .inl (hne k e)
  · by_cases e : k = i
    · subst e; exact .inr hc
    · left; unfold Mk at hk ⊢; dsimp only at hk; rwa [hne k e] at hk
/-- what is known of the instruction itself closes it -/
theorem Go.close {p : List In} {s : L8} {f a i : Nat} {st st' : St} (h : Go p s f a (fun k => k = i) st st') (hb : ∀ k', ¬ Byt p s a i k') (h6 : ¬ Fin6 p i) (he : ∀ k', Eps p s.length a i k' → Mk st' a k') : Go p s f a (fun _ => False) st st' := by
  obtain ⟨l, n, m, c⟩ := h.next
  refine ⟨h.size, h.keep, h.sound, ⟨l, n, m, fun k hk hn _ k' hb' => ?_⟩, ?_, fun k hk hn _ k' hb' => ?_⟩
  · by_cases e : k = i
    · subst e; exact absurd hb' (hb k')
    · exact c k hk hn e k' hb'
  · rcases h.found with ⟨e, f⟩ | e
    · refine .inl ⟨e, fun k hk hn _ => ?_⟩
      by_cases e : k = i
      · subst e; exact h6
      · exact f k hk hn e
    · exact .inr e
  · by_cases e : k = i
    · subst e; exact he k' hb'
    · exact h.closed k hk hn e k' hb'
theorem un_mono {p : List In} {st st' : St} {a : Nat} (h : ∀ k, Mk st a k → Mk st' a k) : un p st' a ≤ un p st a := by
  unfold un
  generalize List.range p.length = l
  induction l with
  | nil => simp
  | cons k r ih =>
    simp only [List.filter_cons]
    by_cases h1 : st.seen[k]? = some ((a : Int) + 1)
    · have h2 := h k h1
      unfold Mk at h2
      simp only [h1, h2]
      simpa using ih
    · by_cases h2 : st'.seen[k]? = some ((a : Int) + 1)
      · simp only [h1, h2]; simp; have h3 := ih; simp at h3; omega
      · simp only [h1, h2]; simpa using ih
theorem un_mark {p : List In} {st : St} {a i : Nat} (hi : i < p.length) (hl : p.length ≤ st.seen.length) (hn : ¬ Mk st a i) : un p { st with seen := st.seen.set i ((a : Int) + 1) } a < un p st a := by
  have key : ∀ l : List Nat, (l.filter fun k => decide (¬ (st.seen.set i ((a : Int) + 1))[k]? = some ((a : Int) + 1))).length ≤ (l.filter fun k => decide (¬ st.seen[k]? = some ((a : Int) + 1))).length ∧ (i ∈ l → (l.filter fun k => decide (¬ (st.seen.set i ((a : Int) + 1))[k]? = some ((a : Int) + 1))).length < (l.filter fun k => decide (¬ st.seen[k]? = some ((a : Int) + 1))).length) := by
    intro l
    induction l with
    | nil => simp
    | cons k r ih =>
      simp only [List.filter_cons]
      by_cases e : k = i
      · subst e
        have h1 : (st.seen.set k ((a : Int) + 1))[k]? = some ((a : Int) + 1) := List.getElem?_set_self (by omega)
        have h2 : ¬ st.seen[k]? = some ((a : Int) + 1) := hn
        simp only [h1, h2]
        simp
        have := ih.1
        simp at this
        omega
      · have h1 : (st.seen.set i ((a : Int) + 1))[k]? = st.seen[k]? := List.getElem?_set_ne (fun h => e h.symm)
        rw [h1]
        by_cases h2 : st.seen[k]? = some ((a : Int) + 1)
        · simp only [h2]
          simp
          have h3 := ih
          simp at h3
          refine ⟨h3.1, fun h => ?_⟩
          rcases h with h | h
          · exact absurd h.symm e
          · exact h3.2 h
        · simp only [h2]
          simp
          have h3 := ih
          simp at h3
          refine ⟨h3.1, fun h => ?_⟩
          rcases h with h | h
          · exact absurd h.symm e
          · exact h3.2 h
  exact (key (List.range p.length)).2 (List.mem_range.2 hi)
theorem hasB_iff {p : List In} {s : L8} {a i k : Nat} {x : In} (hx : p[i]? = some x) (h1 : x.k = 1) : Byt p s a i k ↔ hasB x s a = true ∧ k = i + 1 := by
  unfold Byt hasB
  constructor
  · rintro ⟨y, c, hy, _, hc, hb, hk⟩
    rw [hx] at hy; cases hy
    rw [hc]; exact ⟨hb, hk⟩
  · rintro ⟨h, hk⟩
    cases hc : s[a]? with
    | none => rw [hc] at h; cases h
    | some c => rw [hc] at h; exact ⟨x, c, hx, h1, rfl, h, hk⟩
theorem mark_new {st : St} {a i k : Nat} (hk : Mk { st with seen := st.seen.set i ((a : Int) + 1) } a k) (hn : ¬ Mk st a k) : k = i := by
  by_cases e : k = i
  · exact e
  · exfalso; apply hn; unfold Mk at hk ⊢; dsimp only at hk
    rwa [List.getElem?_set_ne (fun h => e h.symm)] at hk
theorem fol_go {p : List In} {s : L8} (g : Good p) : ∀ (u i f a : Nat) (st : St), p.length ≤ st.seen.length → un p st a < u → Come p s f a i →
    Go p s f a (fun _ => False) st (fol p s u i f a st) ∧ Mk (fol p s u i f a st) a i := by
  intro u
  induction u with
  | zero => intro i f a st _ h; omega
  | succ u ih =>
    intro i f a st hl hu hc
    have hi := g.come hc
    rw [fol]
    by_cases hm : st.seen[i]? = some ((a : Int) + 1)
    · rw [if_pos hm]; exact ⟨Go.refl _ _ _ _ _ _, hm⟩
    · rw [if_neg hm]
      obtain ⟨G1, M1⟩ := Go.mark (s := s) (f := f) hi hl hc
      have hun := un_mark hi hl hm
      obtain ⟨x, hx⟩ : ∃ x, p[i]? = some x := ⟨p[i], List.getElem?_eq_getElem hi⟩
      have hnew : ∀ k, Mk { st with seen := st.seen.set i ((a : Int) + 1) } a k → ¬ Mk st a k → k = i := fun k hk hn => mark_new hk hn
      obtain ⟨st1, hst⟩ : ∃ st1, ({ st with seen := st.seen.set i ((a : Int) + 1) } : St) = st1 := ⟨_, rfl⟩
      have hs1 : st1.seen = st.seen.set i ((a : Int) + 1) := by rw [← hst]
      have hn1 : st1.next = st.next := by rw [← hst]
      have hf1 : st1.found = st.found := by rw [← hst]
      have hl1 : p.length ≤ st1.seen.length := by rw [hs1]; simpa using hl
      have e1 : ({ seen := st.seen.set i ((a : Int) + 1), next := st.next ++ [(i + 1, f)], found := st.found } : St) = { st1 with next := st1.next ++ [(i + 1, f)] } := by rw [← hst]
      have e2 : ({ seen := st.seen.set i ((a : Int) + 1), next := st.next, found := some (f, a) } : St) = { st1 with found := some (f, a) } := by rw [← hst]
      rw [hx]
      dsimp only
      rw [hst] at G1 M1 hun hnew ⊢
      rw [e1, e2]
      have sub : ∀ (k : Nat) (st2 : St), p.length ≤ st2.seen.length → (∀ j, Mk st1 a j → Mk st2 a j) → Eps p s.length a i k → Go p s f a (fun _ => False) st2 (fol p s u k f a st2) ∧ Mk (fol p s u k f a st2) a k :=
        fun k st2 hl2 hmm he => ih k f a st2 hl2 (by have := un_mono (p := p) hmm; omega) (.eps hc he)
      have only : ∀ k', Eps p s.length a i k' → ((x.k = 2 ∧ (k' = x.a.toNat ∨ k' = x.b.toNat)) ∨ (x.k = 3 ∧ k' = x.a.toNat) ∨ (x.k = 4 ∧ a = 0 ∧ k' = i + 1) ∨ (x.k = 5 ∧ a = s.length ∧ k' = i + 1)) := by
        rintro k' ⟨y, hy, h⟩
        rw [hx] at hy; cases hy; exact h
      have n6 : x.k ≠ 6 → ¬ Fin6 p i := by
        rintro h ⟨y, hy, h6⟩
        rw [hx] at hy; cases hy; exact h h6
      have nb : x.k ≠ 1 → ∀ k', ¬ Byt p s a i k' := by
        rintro h k' ⟨y, c, hy, h1, _⟩
        rw [hx] at hy; cases hy; exact h h1
      by_cases h1 : x.k = 1
      · rw [if_pos h1]
        have noe : ∀ k', ¬ Eps p s.length a i k' := fun k' h => by have := only k' h; omega
        by_cases hb : hasB x s a = true
        · rw [if_pos hb]
          refine ⟨⟨G1.size, G1.keep, G1.sound, ⟨[(i + 1, f)], by dsimp only; rw [hn1], fun e he => ?_, fun k hk hn _ k' hb' => ?_⟩, .inl ⟨hf1, fun k hk hn _ => by rw [hnew k hk hn]; exact n6 (by omega)⟩, fun k hk hn _ k' he => by rw [hnew k hk hn] at he; exact absurd he (noe k')⟩, M1⟩
          · have : e = (i + 1, f) := by simpa using he
            subst this
            exact ⟨rfl, i, hc, (hasB_iff hx h1).2 ⟨hb, rfl⟩⟩
          · rw [hnew k hk hn] at hb'
            rw [((hasB_iff hx h1).1 hb').2]; simp
        · rw [if_neg hb]
          exact ⟨G1.close (fun k' h => hb ((hasB_iff hx h1).1 h).1) (n6 (by omega)) (fun k' h => absurd h (noe k')), M1⟩
      rw [if_neg h1]
      by_cases h2 : x.k = 2
      · rw [if_pos h2]
        obtain ⟨A1, A2⟩ := sub x.a.toNat st1 hl1 (fun _ h => h) ⟨x, hx, .inl ⟨h2, .inl rfl⟩⟩
        obtain ⟨B1, B2⟩ := sub x.b.toNat _ (by rw [A1.size]; exact hl1) (fun _ h => A1.mono h) ⟨x, hx, .inl ⟨h2, .inr rfl⟩⟩
        have T := (G1.trans (A1.weak (fun _ h => h.elim))).trans (B1.weak (fun _ h => h.elim))
        refine ⟨T.close (nb h1) (n6 (by omega)) (fun k' h => ?_), B1.mono (A1.mono M1)⟩
        rcases only k' h with ⟨_, h | h⟩ | h | h | h
        · rw [h]; exact B1.mono A2
        · rw [h]; exact B2
        · omega
        · omega
        · omega
      rw [if_neg h2]
      by_cases h3 : x.k = 3
      · rw [if_pos h3]
        obtain ⟨A1, A2⟩ := sub x.a.toNat st1 hl1 (fun _ h => h) ⟨x, hx, .inr (.inl ⟨h3, rfl⟩)⟩
        have T := G1.trans (A1.weak (fun _ h => h.elim))
        refine ⟨T.close (nb h1) (n6 (by omega)) (fun k' h => ?_), A1.mono M1⟩
        rcases only k' h with h | ⟨_, h⟩ | h | h
        · omega
        · rw [h]; exact A2
        · omega
        · omega
      rw [if_neg h3]
      by_cases h4 : x.k = 4
      · rw [if_pos h4]
        by_cases ha : a = 0
        · rw [if_pos ha]
          obtain ⟨A1, A2⟩ := sub (i + 1) st1 hl1 (fun _ h => h) ⟨x, hx, .inr (.inr (.inl ⟨h4, ha, rfl⟩))⟩
          have T := G1.trans (A1.weak (fun _ h => h.elim))
          refine ⟨T.close (nb h1) (n6 (by omega)) (fun k' h => ?_), A1.mono M1⟩
          rcases only k' h with h | h | ⟨_, _, h⟩ | h
          · omega
          · omega
          · rw [h]; exact A2
          · omega
        · rw [if_neg ha]
          exact ⟨G1.close (nb h1) (n6 (by omega)) (fun k' h => by have := only k' h; omega), M1⟩
      rw [if_neg h4]
      by_cases h5 : x.k = 5
      · rw [if_pos h5]
        by_cases ha : a = s.length
        · rw [if_pos ha]
          obtain ⟨A1, A2⟩ := sub (i + 1) st1 hl1 (fun _ h => h) ⟨x, hx, .inr (.inr (.inr ⟨h5, ha, rfl⟩))⟩
          have T := G1.trans (A1.weak (fun _ h => h.elim))
          refine ⟨T.close (nb h1) (n6 (by omega)) (fun k' h => ?_), A1.mono M1⟩
          rcases only k' h with h | h | h | ⟨_, _, h⟩
          · omega
          · omega
          · omega
          · rw [h]; exact A2
        · rw [if_neg ha]
          exact ⟨G1.close (nb h1) (n6 (by omega)) (fun k' h => by have := only k' h; omega), M1⟩
      rw [if_neg h5]
      have h6 : x.k = 6 := by have := g.kind i x hx; omega
      rw [if_pos h6]
      have noe : ∀ k', ¬ Eps p s.length a i k' := fun k' h => by have := only k' h; omega
      exact ⟨⟨G1.size, G1.keep, G1.sound, ⟨[], by dsimp only; rw [hn1]; simp, by simp, fun k hk hn _ k' hb' => by rw [hnew k hk hn] at hb'; exact absurd hb' (nb h1 k')⟩, .inr ⟨rfl, i, hc, x, hx, h6⟩, fun k hk hn _ k' he => by rw [hnew k hk hn] at he; exact absurd he (noe k')⟩, M1⟩
end Pm
end Go.Proofs.YtmgealcolofomaaDoor
