/- The grammar: where it leaves off: plain. -/
import Derived.Test.YtjecopdbcaojcaaKn
namespace Go.Proofs.Ytjecopdbcaojcaa
open Go.RowKit Kb
set_option linter.unusedVariables false
set_option maxRecDepth 20000

/-- behind a, and not behind the end -/
def Rs.Good (s : ByteArray) (a : Nat) : Rs → Prop
  | .ok _ c => a < c ∧ c ≤ s.size
  | .err _ c => c ≤ s.size
def Rs.GoodE (s : ByteArray) (a : Nat) : Rs → Prop
  | .ok _ c => a ≤ c ∧ c ≤ s.size
  | .err _ c => c ≤ s.size
def GoodG (s : ByteArray) (grp : Nat → Rs) : Prop := ∀ a, a < s.size → (grp a).Good s a
theorem pk_some {s : ByteArray} {a : Nat} {c : UInt8} (h : pkB s a = c) (hc : c ≠ 0) : a < s.size := pk_lt (by rw [h]; exact hc)
theorem loopR_le (s : ByteArray) (n : Nat) : ∀ (p : Nat → Bool) (b : Nat), b ≤ s.size → s.size - b ≤ n → (loopR s p b).2 ≤ s.size ∧ (∀ q, (loopR s p b).1 = some q → b ≤ (loopR s p b).2 ∧ (loopR s p b).2 < s.size) := by
  induction n with
  | zero =>
    intro p b hb hn
    obtain rfl : b = s.size := by omega
    have h0 : pkB s s.size ≠ 93 := fun e => by have := pk_some e (by decide); omega
    have hi := itemR_le s s.size (Nat.le_refl _)
    obtain ⟨⟨o, c⟩, ho⟩ : ∃ z, itemR s s.size = z := ⟨_, rfl⟩
    rw [ho] at hi
    cases o with
    | none => rw [loopR_err h0 ho]; exact ⟨hi.1, fun q hq => by cases hq⟩
    | some q => have h1 := hi.2 q rfl; have h2 := hi.1; dsimp only at h1 h2; omega
  | succ n ih =>
    intro p b hb hn
    by_cases h93 : pkB s b = 93
    · rw [loopR_end h93]; exact ⟨hb, fun q _ => ⟨Nat.le_refl _, pk_some h93 (by decide)⟩⟩
    · have hi := itemR_le s b hb
      obtain ⟨⟨o, c⟩, ho⟩ : ∃ z, itemR s b = z := ⟨_, rfl⟩
      rw [ho] at hi
      cases o with
      | none => rw [loopR_err h93 ho]; exact ⟨hi.1, fun q hq => by cases hq⟩
      | some q =>
        have h1 := hi.2 q rfl
        have h2 := hi.1
        dsimp only at h1 h2
        rw [loopR_go hb h93 ho]
        have := ih (fun j => p j || q j) c h2 (by omega)
        exact ⟨this.1, fun r hr => ⟨by have := (this.2 r hr).1; omega, (this.2 r hr).2⟩⟩
theorem tkA_le {s : ByteArray} {a : Nat} {c : UInt8} (ha : a ≤ s.size) (hc : c ≠ 0) : a ≤ tkA s a c ∧ tkA s a c ≤ s.size := by
  unfold tkA
  by_cases h : pkB s a = c
  · rw [if_pos h]; have := pk_some h hc; omega
  · rw [if_neg h]; omega
theorem itemsR_le (s : ByteArray) (a : Nat) (ha : a ≤ s.size) : (itemsR s a).2 ≤ s.size ∧ (∀ p, (itemsR s a).1 = some p → a < (itemsR s a).2) := by
  have ht := tkA_le (s := s) (a := a) (c := 94) ha (by decide)
  have hi := itemR_le s (tkA s a 94) ht.2
  unfold itemsR
  obtain ⟨⟨o, c⟩, ho⟩ : ∃ z, itemR s (tkA s a 94) = z := ⟨_, rfl⟩
  rw [ho] at hi ⊢
  cases o with
  | none => exact ⟨hi.1, fun p hp => by cases hp⟩
  | some p =>
    have h1 := hi.2 p rfl
    have h2 := hi.1
    dsimp only at h1 h2
    have hl := loopR_le s (s.size - c) p c h2 (Nat.le_refl _)
    show (shutR _ (loopR s p c)).2 ≤ _ ∧ (∀ q, (shutR _ (loopR s p c)).1 = some q → a < (shutR _ (loopR s p c)).2)
    obtain ⟨⟨o2, d⟩, ho2⟩ : ∃ z, loopR s p c = z := ⟨_, rfl⟩
    rw [ho2] at hl ⊢
    cases o2 with
    | none => exact ⟨hl.1, fun p hp => by cases hp⟩
    | some q =>
      have h3 := hl.2 q rfl
      dsimp only at h3
      unfold shutR
      dsimp only
      split
      · exact ⟨hl.1, fun p hp => by cases hp⟩
      · exact ⟨by show d + 1 ≤ _; omega, fun p _ => by show a < d + 1; omega⟩
theorem atomR_le {s : ByteArray} {grp : Nat → Rs} (hg : GoodG s grp) (a : Nat) (ha : a ≤ s.size) : (atomR s grp a).Good s a := by
  unfold atomR
  by_cases h1 : pkB s a = 40
  · rw [if_pos h1]; exact hg a (pk_some h1 (by decide))
  rw [if_neg h1]
  by_cases h2 : pkB s a = 91
  · rw [if_pos h2]
    have hl := pk_some h2 (by decide)
    have hi := itemsR_le s (a + 1) (by omega)
    obtain ⟨⟨o, c⟩, ho⟩ : ∃ z, itemsR s (a + 1) = z := ⟨_, rfl⟩
    rw [ho] at hi ⊢
    cases o with
    | none => exact hi.1
    | some p => have := hi.2 p rfl; have h3 := hi.1; exact ⟨by dsimp only at this; omega, h3⟩
  rw [if_neg h2]
  by_cases h3 : pkB s a = 46
  · rw [if_pos h3]; have := pk_some h3 (by decide); exact ⟨by omega, by omega⟩
  rw [if_neg h3]
  by_cases h4 : pkB s a = 94
  · rw [if_pos h4]; have := pk_some h4 (by decide); exact ⟨by omega, by omega⟩
  rw [if_neg h4]
  by_cases h5 : pkB s a = 36
  · rw [if_pos h5]; have := pk_some h5 (by decide); exact ⟨by omega, by omega⟩
  rw [if_neg h5]
  cases h : clsP s a with
  | some p => have := clsP_le h; exact ⟨by omega, this⟩
  | none =>
    have hc := charR_le s a ha
    have hp := @charR_lt s a
    obtain ⟨⟨o1, b1⟩, ho⟩ : ∃ z, charR s a = z := ⟨_, rfl⟩
    rw [ho] at hc hp ⊢
    cases o1 with
    | none => exact hc.1
    | some x => exact ⟨hp (m := x) rfl, hc.1⟩
theorem postR_le (s : ByteArray) (n : Nat) : ∀ (r : Ex) (a : Nat), a ≤ s.size → s.size - a ≤ n → a ≤ (postR s r a).2 ∧ (postR s r a).2 ≤ s.size := by
  induction n with
  | zero =>
    intro r a ha hn
    have h0 : ∀ c : UInt8, c ≠ 0 → pkB s a ≠ c := fun c hc e => by have := pk_some e hc; omega
    rw [postR, dif_neg (h0 42 (by decide)), dif_neg (h0 43 (by decide)), dif_neg (h0 63 (by decide))]
    exact ⟨Nat.le_refl _, ha⟩
  | succ n ih =>
    intro r a ha hn
    rw [postR]
    by_cases h1 : pkB s a = 42
    · rw [dif_pos h1]; have hl := pk_some h1 (by decide); have := ih (.star r) (a + 1) (by omega) (by omega); exact ⟨by omega, this.2⟩
    rw [dif_neg h1]
    by_cases h2 : pkB s a = 43
    · rw [dif_pos h2]; have hl := pk_some h2 (by decide); have := ih (.cat r (.star r)) (a + 1) (by omega) (by omega); exact ⟨by omega, this.2⟩
    rw [dif_neg h2]
    by_cases h3 : pkB s a = 63
    · rw [dif_pos h3]; have hl := pk_some h3 (by decide); have := ih (.alt r .emp) (a + 1) (by omega) (by omega); exact ⟨by omega, this.2⟩
    rw [dif_neg h3]
    exact ⟨Nat.le_refl _, ha⟩
theorem pieceR_le {s : ByteArray} {grp : Nat → Rs} (hg : GoodG s grp) (a : Nat) (ha : a ≤ s.size) : (pieceR s grp a).Good s a := by
  have h := atomR_le hg a ha
  unfold pieceR
  cases hr : atomR s grp a with
  | err e b => rw [hr] at h; exact h
  | ok r b =>
    rw [hr] at h
    have := postR_le s (s.size - b) r b h.2 (Nat.le_refl _)
    exact ⟨by have := h.1; omega, this.2⟩
theorem rowL_end {s : ByteArray} {grp : Nat → Rs} {r : Ex} {b : Nat} (h : rowE s b = true) : rowL s grp r b = .ok r b := by rw [rowL, if_pos h]
theorem rowL_err {s : ByteArray} {grp : Nat → Rs} {r : Ex} {b c : Nat} {e : Int} (h : ¬ rowE s b = true) (hp : pieceR s grp b = .err e c) : rowL s grp r b = .err e c := by rw [rowL, if_neg h, hp]
theorem rowL_go {s : ByteArray} {grp : Nat → Rs} (hg : GoodG s grp) {r q : Ex} {b c : Nat} (hb : b ≤ s.size) (h : ¬ rowE s b = true) (hp : pieceR s grp b = .ok q c) : rowL s grp r b = rowL s grp (.cat r q) c := by
  have := pieceR_le hg b hb
  rw [hp] at this
  rw [rowL, if_neg h, hp]
  exact dif_pos this
theorem rowL_le {s : ByteArray} {grp : Nat → Rs} (hg : GoodG s grp) (n : Nat) : ∀ (r : Ex) (b : Nat), b ≤ s.size → s.size - b ≤ n → (rowL s grp r b).GoodE s b := by
  induction n with
  | zero =>
    intro r b hb hn
    obtain rfl : b = s.size := by omega
    rw [rowL_end (by unfold rowE; simp)]
    exact ⟨Nat.le_refl _, hb⟩
  | succ n ih =>
    intro r b hb hn
    by_cases he : rowE s b = true
    · rw [rowL_end he]; exact ⟨Nat.le_refl _, hb⟩
    · have hp := pieceR_le hg b hb
      cases h : pieceR s grp b with
      | err e c => rw [rowL_err he h]; rw [h] at hp; exact hp
      | ok q c =>
        rw [h] at hp
        obtain ⟨h1, h2⟩ := hp
        rw [rowL_go hg hb he h]
        have := ih (.cat r q) c h2 (by omega)
        cases hr : rowL s grp (.cat r q) c with
        | err e d => rw [hr] at this; exact this
        | ok x d => rw [hr] at this; exact ⟨by have := this.1; omega, this.2⟩
theorem rowR_le {s : ByteArray} {grp : Nat → Rs} (hg : GoodG s grp) (a : Nat) (ha : a ≤ s.size) : (rowR s grp a).GoodE s a := by
  unfold rowR
  by_cases he : rowE s a = true
  · rw [if_pos he]; exact ⟨Nat.le_refl _, ha⟩
  rw [if_neg he]
  have hp := pieceR_le hg a ha
  cases h : pieceR s grp a with
  | err e c => rw [h] at hp; exact hp
  | ok q c =>
    rw [h] at hp
    obtain ⟨h1, h2⟩ := hp
    have := rowL_le hg (s.size - c) q c h2 (Nat.le_refl _)
    dsimp only
    cases hr : rowL s grp q c with
    | err e d => rw [hr] at this; exact this
    | ok x d => rw [hr] at this; exact ⟨by have := this.1; omega, this.2⟩
theorem altL_end {s : ByteArray} {grp : Nat → Rs} {r : Ex} {b : Nat} (h : ¬ pkB s b = 124) : altL s grp r b = .ok r b := by rw [altL, if_neg h]
theorem altL_err {s : ByteArray} {grp : Nat → Rs} {r : Ex} {b c : Nat} {e : Int} (h : pkB s b = 124) (hp : rowR s grp (b + 1) = .err e c) : altL s grp r b = .err e c := by rw [altL, if_pos h, hp]
theorem altL_go {s : ByteArray} {grp : Nat → Rs} (hg : GoodG s grp) {r q : Ex} {b c : Nat} (h : pkB s b = 124) (hp : rowR s grp (b + 1) = .ok q c) : altL s grp r b = altL s grp (.alt r q) c := by
  have := rowR_le hg (b + 1) (pk_some h (by decide))
  rw [hp] at this
  obtain ⟨h1, h2⟩ := this
  rw [altL, if_pos h, hp]
  exact dif_pos ⟨by omega, h2⟩
theorem altL_le {s : ByteArray} {grp : Nat → Rs} (hg : GoodG s grp) (n : Nat) : ∀ (r : Ex) (b : Nat), b ≤ s.size → s.size - b ≤ n → (altL s grp r b).GoodE s b := by
  induction n with
  | zero =>
    intro r b hb hn
    rw [altL_end (fun e => by have := pk_some e (by decide); omega)]
    exact ⟨Nat.le_refl _, hb⟩
  | succ n ih =>
    intro r b hb hn
    by_cases he : pkB s b = 124
    · have hl := pk_some he (by decide)
      have hp := rowR_le hg (b + 1) (by omega)
      cases h : rowR s grp (b + 1) with
      | err e c => rw [altL_err he h]; rw [h] at hp; exact hp
      | ok q c =>
        rw [h] at hp
        obtain ⟨h1, h2⟩ := hp
        rw [altL_go hg he h]
        have := ih (.alt r q) c h2 (by omega)
        cases hr : altL s grp (.alt r q) c with
        | err e d => rw [hr] at this; exact this
        | ok x d => rw [hr] at this; exact ⟨by have := this.1; omega, this.2⟩
    · rw [altL_end he]; exact ⟨Nat.le_refl _, hb⟩
theorem altR_le {s : ByteArray} {grp : Nat → Rs} (hg : GoodG s grp) (a : Nat) (ha : a ≤ s.size) : (altR s grp a).GoodE s a := by
  unfold altR
  have hp := rowR_le hg a ha
  cases h : rowR s grp a with
  | err e c => rw [h] at hp; exact hp
  | ok q c =>
    rw [h] at hp
    obtain ⟨h1, h2⟩ := hp
    have := altL_le hg (s.size - c) q c h2 (Nat.le_refl _)
    dsimp only
    cases hr : altL s grp q c with
    | err e d => rw [hr] at this; exact this
    | ok x d => rw [hr] at this; exact ⟨by have := this.1; omega, this.2⟩
theorem grpR_good (s : ByteArray) (d : Nat) : GoodG s (grpR s d) := by
  induction d with
  | zero => intro a ha; show a ≤ s.size; omega
  | succ d ih =>
    intro a ha
    have := altR_le ih (a + 1) (by omega)
    rw [grpR]
    cases h : altR s (grpR s d) (a + 1) with
    | err e c => rw [h] at this; exact this
    | ok x c =>
      rw [h] at this
      obtain ⟨h1, h2⟩ := this
      dsimp only
      by_cases h41 : pkB s c = 41
      · rw [if_pos h41]; have := pk_some h41 (by decide); exact ⟨by omega, by omega⟩
      · rw [if_neg h41]; exact h2
end Go.Proofs.Ytjecopdbcaojcaa
