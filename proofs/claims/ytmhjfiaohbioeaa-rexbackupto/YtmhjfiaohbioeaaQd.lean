/- What is printed is read as it was: expressions: plain. -/
import Derived.Test.YtmhjfiaohbioeaaQc
import Derived.Test.YtmhjfiaohbioeaaKs
namespace Go.Proofs.Ytmhjfiaohbioeaa
open Go.RowKit Kb Pop
set_option linter.unusedVariables false
set_option maxRecDepth 20000

/-- no RNone, and each set has a byte -/
def Ex.Sound : Ex → Prop
  | .none => False
  | .emp => True
  | .byte t => FitS t ∧ cntN (bit t) 256 ≠ 0
  | .cat a b => a.Sound ∧ b.Sound
  | .alt a b => a.Sound ∧ b.Sound
  | .star a => a.Sound
  | .beg => True
  | .en => True
/-- no * + ? next -/
def Nx (s : ByteArray) (e : Nat) : Prop := pkB s e ≠ 42 ∧ pkB s e ≠ 43 ∧ pkB s e ≠ 63
theorem Fb.nx {s : ByteArray} {a : Nat} (h : Fb s a) : Nx s a := ⟨h.2.2.1, h.2.2.2.1, h.2.2.2.2⟩
theorem Fb.rowE {s : ByteArray} {a : Nat} (h : Fb s a) (ha : a < s.size) : ¬ Go.Proofs.Ytmhjfiaohbioeaa.rowE s a = true := by
  unfold Go.Proofs.Ytmhjfiaohbioeaa.rowE
  simp only [Bool.or_eq_true, decide_eq_true_eq, not_or]
  exact ⟨⟨by omega, h.1⟩, h.2.1⟩
theorem post_no {s : ByteArray} {x : Ex} {e : Nat} (h : Nx s e) : postR s x e = (x, e) := postR_no h.1 h.2.1 h.2.2
/-- read as an atom -/
def AtomB (s : ByteArray) (d a : Nat) (x : Ex) (e : Nat) : Prop := atomR s (grpR s d) a = .ok x e ∧ Fb s a ∧ a < e ∧ e ≤ s.size
/-- read as a piece, whatever is next but a sign for it -/
def PieceB (s : ByteArray) (d a : Nat) (x : Ex) (e : Nat) : Prop := (Nx s e → pieceR s (grpR s d) a = .ok x e) ∧ Fb s a ∧ a < e ∧ e ≤ s.size
theorem AtomB.piece {s : ByteArray} {d a e : Nat} {x : Ex} (h : AtomB s d a x e) : PieceB s d a x e := ⟨fun hn => by rw [pieceR, h.1]; dsimp only; rw [post_no hn], h.2⟩
theorem AtomB.star {s : ByteArray} {d a e : Nat} {x : Ex} (h : AtomB s d a x e) (hs : pkB s e = 42) : PieceB s d a (.star x) (e + 1) :=
  ⟨fun hn => by rw [pieceR, h.1]; dsimp only; rw [postR_42 hs, post_no hn], h.2.1, by have := h.2.2.1; omega, pk_some hs (by decide)⟩
/-- read as a row that may go on -/
def RowB (s : ByteArray) (d a : Nat) (x : Ex) (e : Nat) : Prop := (Nx s e → rowR s (grpR s d) a = rowL s (grpR s d) x e) ∧ Fb s a ∧ a < e ∧ e ≤ s.size
theorem PieceB.row {s : ByteArray} {d a e : Nat} {x : Ex} (h : PieceB s d a x e) : RowB s d a x e := ⟨fun hn => by
  have := h.2.2
  rw [rowR, if_neg (h.2.1.rowE (by omega)), h.1 hn], h.2⟩
theorem RowB.cat {s : ByteArray} {d a m e : Nat} {x y : Ex} (h : RowB s d a x m) (g : PieceB s d m y e) : RowB s d a (.cat x y) e := ⟨fun hn => by
  have := g.2.2
  rw [h.1 g.2.1.nx, rowL_go (grpR_good s d) h.2.2.2 (g.2.1.rowE (by omega)) (g.1 hn)], h.2.1, by have := h.2.2.1; have := g.2.2.1; omega, g.2.2.2⟩
/-- read as a choice -/
def AltB (s : ByteArray) (d a : Nat) (x : Ex) (e : Nat) : Prop := (rowE s e = true → altR s (grpR s d) a = altL s (grpR s d) x e) ∧ a ≤ e ∧ e ≤ s.size
theorem rowE_nx {s : ByteArray} {e : Nat} (h : rowE s e = true) : Nx s e := by
  unfold rowE at h
  simp only [Bool.or_eq_true, decide_eq_true_eq] at h
  rcases h with (h | h) | h
  · subst h
    have : ∀ c : UInt8, c ≠ 0 → pkB s s.size ≠ c := fun c hc e => by have := pk_some e hc; omega
    exact ⟨this 42 (by decide), this 43 (by decide), this 63 (by decide)⟩
  · exact ⟨by rw [h]; decide, by rw [h]; decide, by rw [h]; decide⟩
  · exact ⟨by rw [h]; decide, by rw [h]; decide, by rw [h]; decide⟩
/-- read as a whole row -/
def RowW (s : ByteArray) (d a : Nat) (x : Ex) (e : Nat) : Prop := (rowE s e = true → rowR s (grpR s d) a = .ok x e) ∧ a ≤ e ∧ e ≤ s.size
theorem RowB.whole {s : ByteArray} {d a e : Nat} {x : Ex} (h : RowB s d a x e) : RowW s d a x e := ⟨fun hr => by rw [h.1 (rowE_nx hr), rowL_end hr], by have := h.2.2.1; omega, h.2.2.2⟩
theorem RowW.emp {s : ByteArray} {d a : Nat} (ha : a ≤ s.size) : RowW s d a .emp a := ⟨fun hr => by rw [rowR, if_pos hr], Nat.le_refl _, ha⟩
theorem RowW.alt {s : ByteArray} {d a e : Nat} {x : Ex} (h : RowW s d a x e) : AltB s d a x e := ⟨fun hr => by rw [altR, h.1 hr], h.2⟩
theorem AltB.or {s : ByteArray} {d a m e : Nat} {x y : Ex} (h : AltB s d a x m) (hm : pkB s m = 124) (g : RowW s d (m + 1) y e) : AltB s d a (.alt x y) e := ⟨fun hr => by
  rw [h.1 (by unfold rowE; simp [hm]), altL_go (grpR_good s d) hm (g.1 hr)], by have := h.2.1; have := g.2.1; omega, g.2.2⟩
/-- in brackets: an atom -/
theorem AltB.bra {s : ByteArray} {d a e : Nat} {x : Ex} (h1 : pkB s a = 40) (h : AltB s d (a + 1) x e) (h2 : pkB s e = 41) : AtomB s (d + 1) a x (e + 1) := by
  have hr : rowE s e = true := by unfold rowE; simp [h2]
  refine ⟨?_, fb_of h1 (by decide), by have := h.2.1; omega, pk_some h2 (by decide)⟩
  rw [atomR, if_pos h1, grpR, h.1 hr, altL_end (by rw [h2]; decide)]
  dsimp only
  rw [if_pos h2]
def dk (b : Bool) (n : Nat) : Nat := if b = true then n + 1 else n
/-- how deep the brackets of a text go -/
def Ex.dp : Ex → Nat
  | .cat a b => max (dk (bra 4 0 a.kind) a.dp) (dk (bra 4 1 b.kind) b.dp)
  | .alt a b => max (dk (bra 5 0 a.kind) a.dp) (dk (bra 5 1 b.kind) b.dp)
  | .star a => dk (bra 6 0 a.kind) a.dp
  | _ => 0
theorem dk_le (b : Bool) (n : Nat) : dk b n ≤ n + 1 := by unfold dk; split <;> omega
theorem dp_high (x : Ex) : x.dp + 1 ≤ x.high := by
  induction x with
  | none => decide
  | emp => decide
  | byte t => simp [Ex.dp, Ex.high]
  | beg => decide
  | en => decide
  | cat a b ha hb => have := dk_le (bra 4 0 a.kind) a.dp; have := dk_le (bra 4 1 b.kind) b.dp; simp only [Ex.dp, Ex.high]; omega
  | alt a b ha hb => have := dk_le (bra 5 0 a.kind) a.dp; have := dk_le (bra 5 1 b.kind) b.dp; simp only [Ex.dp, Ex.high]; omega
  | star a ha => have := dk_le (bra 6 0 a.kind) a.dp; simp only [Ex.dp, Ex.high]; omega
/-- read at each level that fits its kind -/
def Back (x : Ex) : Prop := ∀ (s : ByteArray) (a d : Nat), x.dp ≤ d → a ≤ s.size → St s a x.tx →
  ((x.kind = 3 ∨ x.kind = 7 ∨ x.kind = 8) → AtomB s d a x (a + x.tx.length)) ∧ ((x.kind = 3 ∨ x.kind = 6 ∨ x.kind = 7 ∨ x.kind = 8) → PieceB s d a x (a + x.tx.length)) ∧
  (x.kind ≠ 2 → x.kind ≠ 5 → RowB s d a x (a + x.tx.length)) ∧ (x.kind ≠ 5 → RowW s d a x (a + x.tx.length)) ∧ AltB s d a x (a + x.tx.length)
theorem Back.of_atom {x : Ex} (h : ∀ (s : ByteArray) (a d : Nat), x.dp ≤ d → a ≤ s.size → St s a x.tx → AtomB s d a x (a + x.tx.length)) : Back x := fun s a d hd ha hs => by
  have := h s a d hd ha hs
  exact ⟨fun _ => this, fun _ => this.piece, fun _ _ => this.piece.row, fun _ => this.piece.row.whole, this.piece.row.whole.alt⟩
theorem Back.of_piece {x : Ex} (hk : x.kind = 6) (h : ∀ (s : ByteArray) (a d : Nat), x.dp ≤ d → a ≤ s.size → St s a x.tx → PieceB s d a x (a + x.tx.length)) : Back x := fun s a d hd ha hs => by
  have := h s a d hd ha hs
  exact ⟨fun h => by rw [hk] at h; omega, fun _ => this, fun _ _ => this.row, fun _ => this.row.whole, this.row.whole.alt⟩
theorem Back.of_row {x : Ex} (hk : x.kind = 4) (h : ∀ (s : ByteArray) (a d : Nat), x.dp ≤ d → a ≤ s.size → St s a x.tx → RowB s d a x (a + x.tx.length)) : Back x := fun s a d hd ha hs => by
  have := h s a d hd ha hs
  exact ⟨fun h => by rw [hk] at h; omega, fun h => by rw [hk] at h; omega, fun _ _ => this, fun _ => this.whole, this.whole.alt⟩
/-- a kid in brackets is an atom -/
theorem Back.brk {x : Ex} (h : Back x) {s : ByteArray} {a d : Nat} (hd : dk true x.dp ≤ d) (ha : a ≤ s.size) (hs : St s a (brk true x.tx)) : AtomB s d a x (a + (brk true x.tx).length) := by
  unfold Go.Proofs.Ytmhjfiaohbioeaa.brk at hs ⊢
  rw [if_pos rfl] at hs ⊢
  obtain ⟨k1, l1, h1⟩ := hs.cons
  obtain ⟨h2, h3⟩ := h1.app
  obtain ⟨k2, _, _⟩ := h3.cons
  obtain ⟨d', rfl⟩ : ∃ d', d = d' + 1 := ⟨d - 1, by unfold dk at hd; rw [if_pos rfl] at hd; omega⟩
  have := AltB.bra k1 (h s (a + 1) d' (by unfold dk at hd; rw [if_pos rfl] at hd; omega) (by omega) h2).2.2.2.2 k2
  rw [show a + (40 :: (x.tx ++ [41])).length = a + 1 + x.tx.length + 1 by simp only [List.length_cons, List.length_append, List.length_nil]; omega]
  exact this
theorem bra_no40 {q : Int} (h : bra 4 0 q = false) : q ≠ 2 ∧ q ≠ 5 := by unfold bra at h; simp at h; exact h
theorem bra_no41 {q : Int} (h : bra 4 1 q = false) : q ≠ 2 ∧ q ≠ 5 ∧ q ≠ 4 := by unfold bra at h; simp at h; exact h
theorem back_any (x : Ex) : x.Sound → Back x := by
  induction x with
  | none => intro h; exact h.elim
  | emp =>
    intro _ s a d hd ha hs
    have hw : RowW s d a .emp a := RowW.emp ha
    exact ⟨fun h => by simp [Ex.kind] at h, fun h => by simp [Ex.kind] at h, fun h => absurd rfl h, fun _ => hw, hw.alt⟩
  | byte t =>
    intro h
    refine Back.of_atom fun s a d hd ha hs => ?_
    obtain ⟨h1, h2⟩ := set_back s (grpR s d) t h.1 h.2 a ha hs
    have hg := atomR_le (grpR_good s d) a ha
    have h1' : atomR s (grpR s d) a = .ok (.byte t) (a + (Ex.byte t).tx.length) := h1
    rw [h1'] at hg
    exact ⟨h1', h2, hg.1, hg.2⟩
  | beg =>
    intro _
    refine Back.of_atom fun s a d hd ha hs => ?_
    obtain ⟨k1, l1, _⟩ := St.cons (l := []) hs
    refine ⟨?_, fb_of k1 (by decide), by show a < a + 1; omega, l1⟩
    rw [atomR, if_neg (by rw [k1]; decide), if_neg (by rw [k1]; decide), if_neg (by rw [k1]; decide), if_pos k1]; rfl
  | en =>
    intro _
    refine Back.of_atom fun s a d hd ha hs => ?_
    obtain ⟨k1, l1, _⟩ := St.cons (l := []) hs
    refine ⟨?_, fb_of k1 (by decide), by show a < a + 1; omega, l1⟩
    rw [atomR, if_neg (by rw [k1]; decide), if_neg (by rw [k1]; decide), if_neg (by rw [k1]; decide), if_neg (by rw [k1]; decide), if_pos k1]; rfl
  | star x ih =>
    intro h
    have hx := ih h
    refine Back.of_piece rfl fun s a d hd ha hs => ?_
    have hs' : St s a (brk (bra 6 0 x.kind) x.tx ++ [42]) := hs
    obtain ⟨h1, h2⟩ := hs'.app
    obtain ⟨k1, _, _⟩ := h2.cons
    have hA : AtomB s d a x (a + (brk (bra 6 0 x.kind) x.tx).length) := by
      have hd' : dk (bra 6 0 x.kind) x.dp ≤ d := hd
      cases hb : bra 6 0 x.kind
      · rw [hb] at h1 hd'
        have hk := x.kind_pos
        have hk1 : x.kind ≠ 1 := by cases x <;> simp [Ex.kind]; exact h
        exact (hx s a d hd' ha h1).1 (by unfold bra at hb; simp at hb; omega)
      · rw [hb] at h1 hd'
        exact hx.brk hd' ha h1
    rw [show a + (Ex.star x).tx.length = a + (brk (bra 6 0 x.kind) x.tx).length + 1 by show a + (brk (bra 6 0 x.kind) x.tx ++ [42]).length = _; rw [List.length_append]; rfl]
    exact hA.star k1
  | cat x y ihx ihy =>
    intro h
    have hx := ihx h.1
    have hy := ihy h.2
    refine Back.of_row rfl fun s a d hd ha hs => ?_
    have hs' : St s a (brk (bra 4 0 x.kind) x.tx ++ brk (bra 4 1 y.kind) y.tx) := hs
    have hle := St.le hs' ha
    rw [List.length_append] at hle
    obtain ⟨h1, h2⟩ := hs'.app
    have hd' : max (dk (bra 4 0 x.kind) x.dp) (dk (bra 4 1 y.kind) y.dp) ≤ d := hd
    have hA : RowB s d a x (a + (brk (bra 4 0 x.kind) x.tx).length) := by
      cases hb : bra 4 0 x.kind
      · rw [hb] at h1 hd'
        have := bra_no40 hb
        exact (hx s a d (Nat.le_trans (Nat.le_max_left _ _) hd') ha h1).2.2.1 this.1 this.2
      · rw [hb] at h1 hd'
        exact (hx.brk (Nat.le_trans (Nat.le_max_left _ _) hd') ha h1).piece.row
    have hB : PieceB s d (a + (brk (bra 4 0 x.kind) x.tx).length) y (a + (brk (bra 4 0 x.kind) x.tx).length + (brk (bra 4 1 y.kind) y.tx).length) := by
      have ha2 : a + (brk (bra 4 0 x.kind) x.tx).length ≤ s.size := by omega
      generalize a + (brk (bra 4 0 x.kind) x.tx).length = m at *
      cases hb : bra 4 1 y.kind
      · rw [hb] at h2 hd'
        have hk := y.kind_pos
        have hk1 : y.kind ≠ 1 := by cases y <;> simp [Ex.kind]; exact h.2
        exact (hy s m d (Nat.le_trans (Nat.le_max_right _ _) hd') ha2 h2).2.1 (by have := bra_no41 hb; omega)
      · rw [hb] at h2 hd'
        exact (hy.brk (Nat.le_trans (Nat.le_max_right _ _) hd') ha2 h2).piece
    rw [show a + (Ex.cat x y).tx.length = a + (brk (bra 4 0 x.kind) x.tx).length + (brk (bra 4 1 y.kind) y.tx).length by show a + (brk (bra 4 0 x.kind) x.tx ++ brk (bra 4 1 y.kind) y.tx).length = _; rw [List.length_append, Nat.add_assoc]]
    exact hA.cat hB
  | alt x y ihx ihy =>
    intro h
    have hx := ihx h.1
    have hy := ihy h.2
    intro s a d hd ha hs
    have hs' : St s a (brk (bra 5 0 x.kind) x.tx ++ 124 :: brk (bra 5 1 y.kind) y.tx) := hs
    have hle := St.le hs' ha
    rw [List.length_append, List.length_cons] at hle
    obtain ⟨h1, h2⟩ := hs'.app
    obtain ⟨k1, _, h3⟩ := h2.cons
    have hd' : max (dk (bra 5 0 x.kind) x.dp) (dk (bra 5 1 y.kind) y.dp) ≤ d := hd
    have hb0 : bra 5 0 x.kind = false := by unfold bra; simp
    have hA : AltB s d a x (a + (brk (bra 5 0 x.kind) x.tx).length) := by
      rw [hb0] at h1 hd' ⊢
      exact (hx s a d (Nat.le_trans (Nat.le_max_left _ _) hd') ha h1).2.2.2.2
    have hB : RowW s d (a + (brk (bra 5 0 x.kind) x.tx).length + 1) y (a + (brk (bra 5 0 x.kind) x.tx).length + 1 + (brk (bra 5 1 y.kind) y.tx).length) := by
      have ha2 : a + (brk (bra 5 0 x.kind) x.tx).length + 1 ≤ s.size := by omega
      generalize a + (brk (bra 5 0 x.kind) x.tx).length + 1 = m at *
      cases hb : bra 5 1 y.kind
      · rw [hb] at h3 hd'
        exact (hy s m d (Nat.le_trans (Nat.le_max_right _ _) hd') ha2 h3).2.2.2.1 (by unfold bra at hb; simp at hb; exact hb)
      · rw [hb] at h3 hd'
        exact (hy.brk (Nat.le_trans (Nat.le_max_right _ _) hd') ha2 h3).piece.row.whole
    have hC := hA.or k1 hB
    rw [show a + (Ex.alt x y).tx.length = a + (brk (bra 5 0 x.kind) x.tx).length + 1 + (brk (bra 5 1 y.kind) y.tx).length by show a + (brk (bra 5 0 x.kind) x.tx ++ 124 :: brk (bra 5 1 y.kind) y.tx).length = _; rw [List.length_append, List.length_cons]; omega]
    exact ⟨fun h => by simp [Ex.kind] at h, fun h => by simp [Ex.kind] at h, fun _ h => absurd rfl h, fun h => absurd rfl h, hC⟩

/-- no RNone -/
def Ex.NoN : Ex → Prop
  | .none => False
  | .cat a b => a.NoN ∧ b.NoN
  | .alt a b => a.NoN ∧ b.NoN
  | .star a => a.NoN
  | _ => True
def Rs.NoN : Rs → Prop
  | .ok x _ => x.NoN
  | .err _ _ => True
theorem atom_non {s : ByteArray} {grp : Nat → Rs} (hg : ∀ a, (grp a).NoN) (a : Nat) : (atomR s grp a).NoN := by
  unfold atomR
  split
  · exact hg a
  split
  · split <;> trivial
  split
  · trivial
  split
  · trivial
  split
  · trivial
  split
  · trivial
  · split <;> trivial
theorem post_non (s : ByteArray) (n : Nat) : ∀ (x : Ex) (a : Nat), s.size - a ≤ n → x.NoN → (postR s x a).1.NoN := by
  induction n with
  | zero =>
    intro x a hn hx
    have h0 : ∀ c : UInt8, c ≠ 0 → pkB s a ≠ c := fun c hc e => by have := pk_some e hc; omega
    rw [postR_no (h0 42 (by decide)) (h0 43 (by decide)) (h0 63 (by decide))]; exact hx
  | succ n ih =>
    intro x a hn hx
    by_cases h1 : pkB s a = 42
    · have := pk_some h1 (by decide); rw [postR_42 h1]; exact ih _ _ (by omega) hx
    by_cases h2 : pkB s a = 43
    · have := pk_some h2 (by decide); rw [postR_43 h2]; exact ih _ _ (by omega) ⟨hx, hx⟩
    by_cases h3 : pkB s a = 63
    · have := pk_some h3 (by decide); rw [postR_63 h3]; exact ih _ _ (by omega) ⟨hx, trivial⟩
    rw [postR_no h1 h2 h3]; exact hx
theorem piece_non {s : ByteArray} {grp : Nat → Rs} (hg : ∀ a, (grp a).NoN) (a : Nat) : (pieceR s grp a).NoN := by
  have h := atom_non (s := s) hg a
  unfold pieceR
  cases hr : atomR s grp a with
  | err e b => trivial
  | ok x b => rw [hr] at h; exact post_non s _ x b (Nat.le_refl _) h
theorem rowL_non {s : ByteArray} {grp : Nat → Rs} (hg : ∀ a, (grp a).NoN) (n : Nat) : ∀ (x : Ex) (b : Nat), s.size - b ≤ n → x.NoN → (rowL s grp x b).NoN := by
  induction n with
  | zero =>
    intro x b hn hx
    rw [rowL]
    split
    · exact hx
    split
    · trivial
    · rw [dif_neg (by omega)]; trivial
  | succ n ih =>
    intro x b hn hx
    have hp := piece_non (s := s) hg b
    rw [rowL]
    split
    · exact hx
    cases hr : pieceR s grp b with
    | err e c => trivial
    | ok q c =>
      rw [hr] at hp
      dsimp only
      split
      · exact ih _ _ (by omega) ⟨hx, hp⟩
      · trivial
theorem row_non {s : ByteArray} {grp : Nat → Rs} (hg : ∀ a, (grp a).NoN) (a : Nat) : (rowR s grp a).NoN := by
  have hp := piece_non (s := s) hg a
  unfold rowR
  split
  · trivial
  cases hr : pieceR s grp a with
  | err e c => trivial
  | ok q c => rw [hr] at hp; exact rowL_non hg _ q c (Nat.le_refl _) hp
theorem altL_non {s : ByteArray} {grp : Nat → Rs} (hg : ∀ a, (grp a).NoN) (n : Nat) : ∀ (x : Ex) (b : Nat), s.size - b ≤ n → x.NoN → (altL s grp x b).NoN := by
  induction n with
  | zero =>
    intro x b hn hx
    rw [altL_end (fun e => by have := pk_some e (by decide); omega)]; exact hx
  | succ n ih =>
    intro x b hn hx
    have hp := row_non (s := s) hg (b + 1)
    rw [altL]
    split
    · cases hr : rowR s grp (b + 1) with
      | err e c => trivial
      | ok q c =>
        rw [hr] at hp
        dsimp only
        split
        · exact ih _ _ (by omega) ⟨hx, hp⟩
        · trivial
    · exact hx
theorem alt_non {s : ByteArray} {grp : Nat → Rs} (hg : ∀ a, (grp a).NoN) (a : Nat) : (altR s grp a).NoN := by
  have hp := row_non (s := s) hg a
  unfold altR
  cases hr : rowR s grp a with
  | err e c => trivial
  | ok q c => rw [hr] at hp; exact altL_non hg _ q c (Nat.le_refl _) hp
theorem grp_non (s : ByteArray) (d : Nat) : ∀ a, (grpR s d a).NoN := by
  induction d with
  | zero => intro a; trivial
  | succ d ih =>
    intro a
    have h := alt_non (s := s) ih (a + 1)
    rw [grpR]
    cases hr : altR s (grpR s d) (a + 1) with
    | err e b => trivial
    | ok x b => rw [hr] at h; dsimp only; split
                · exact h
                · trivial
theorem read_non {s : ByteArray} {x : Ex} {b : Nat} (h : readR s = .ok x b) : x.NoN ∧ chkR x.rx = 0 := by
  have ha := alt_non (s := s) (grp_non s 20) 0
  unfold readR at h
  cases hr : altR s (grpR s 20) 0 with
  | err e c => rw [hr] at h; cases h
  | ok y c =>
    rw [hr] at h ha
    dsimp only at h
    by_cases h1 : c < s.size
    · rw [if_pos h1] at h; cases h
    · rw [if_neg h1] at h
      by_cases h2 : chkR y.rx ≠ 0
      · rw [if_pos h2] at h; cases h
      · rw [if_neg h2] at h
        cases h
        exact ⟨ha, by simpa using h2⟩
/-- the text of a sound expression that is right is read as it was -/
theorem read_back {x : Ex} (hs : x.Sound) (hc : chkR x.rx = 0) (hh : x.high ≤ 20) : readR (mk x.tx) = .ok x x.tx.length := by
  have hsz : (mk x.tx).size = x.tx.length := Kb.mk_sz x.tx
  have hb := (back_any x hs (mk x.tx) 0 20 (by have := dp_high x; omega) (Nat.zero_le _) ⟨[], by simp [mk]⟩).2.2.2.2
  rw [Nat.zero_add] at hb
  have hend : rowE (mk x.tx) x.tx.length = true := by unfold rowE; simp [hsz]
  unfold readR
  rw [hb.1 hend, altL_end (fun e => by have := pk_some e (by decide); omega)]
  dsimp only
  rw [if_neg (by omega), if_neg (by simp [hc])]
end Go.Proofs.Ytmhjfiaohbioeaa
