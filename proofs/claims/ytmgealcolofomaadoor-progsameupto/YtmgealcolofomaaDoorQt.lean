/- Plain facts on quoted words: no program is read here. -/
import Derived.WalkKit
namespace Go.Proofs.YtmgealcolofomaaDoor
namespace Qt

/-- a digit of base 16, small letters -/
def hx (n : UInt8) : UInt8 := if n < 10 then 48 + n else 87 + n
/-- may it stand for itself? -/
def plain (c : UInt8) : Bool := 33 ≤ c && c ≤ 126
/-- how a byte is written -/
def q1 (c : UInt8) : List UInt8 :=
  if c = 10 then [92, 110] else if c = 13 then [92, 114] else if c = 9 then [92, 116] else if c = 32 then [92, 115] else if c = 92 then [92, 92]
  else if plain c = false then [92, 120, hx (c / 16), hx (c % 16)] else [c]
/-- how a text is written -/
def quote (l : List UInt8) : List UInt8 := if l = [] then [45] else if l = [45] then [92, 45] else l.flatMap q1

/-- the value of a digit of base 16, small letters alone -/
def hv (c : UInt8) : Option UInt8 := if 48 ≤ c && c ≤ 57 then some (c - 48) else if 97 ≤ c && c ≤ 102 then some (c - 87) else none
/-- what a sign behind the stroke stands for -/
def sg (c : UInt8) : Option UInt8 := if c = 110 then some 10 else if c = 114 then some 13 else if c = 116 then some 9 else if c = 115 then some 32 else if c = 92 then some 92 else if c = 45 then some 45 else none
/-- the byte with which a word begins, and how many bytes write it -/
def one (l : List UInt8) : Option (UInt8 × Nat) :=
  match l with
  | [] => none
  | a :: r =>
    if a ≠ 92 then (if plain a then some (a, 1) else none)
    else match r with
      | [] => none
      | b :: r' =>
        if b = 120 then (match r' with
          | x :: y :: _ => match hv x, hv y with
            | some p, some q => some (p * 16 + q, 4)
            | _, _ => none
          | _ => none)
        else (sg b).map fun c => (c, 2)

theorem one_pos {l : List UInt8} {c : UInt8} {k : Nat} (h : one l = some (c, k)) : 1 ≤ k ∧ k ≤ l.length := by
  unfold one at h
  repeat' split at h
  all_goals first | (cases h; done) | skip
  all_goals simp_all
  all_goals omega

def unqF : Nat → List UInt8 → Option (List UInt8)
  | 0, _ => none
  | f + 1, l => if l = [] then some [] else match one l with
    | none => none
    | some (c, k) => (unqF f (l.drop k)).map (c :: ·)

theorem unqF_more : ∀ (f g : Nat) (l : List UInt8), l.length < f → l.length < g → unqF f l = unqF g l := by
  intro f
  induction f with
  | zero => intro g l h; omega
  | succ f ih =>
    intro g l h1 h2
    cases g with
    | zero => omega
    | succ g =>
      unfold unqF
      split
      · rfl
      · cases ho : one l with
        | none => rfl
        | some p =>
          obtain ⟨c, k⟩ := p
          have := one_pos ho
          simp only
          rw [ih g (l.drop k) (by rw [List.length_drop]; omega) (by rw [List.length_drop]; omega)]

/-- what the bytes of a word stand for -/
def unq (l : List UInt8) : Option (List UInt8) := unqF (l.length + 1) l

theorem unq_nil : unq [] = some [] := rfl
theorem unq_none {l : List UInt8} (h : l ≠ []) (ho : one l = none) : unq l = none := by
  unfold unq; rw [unqF, if_neg h, ho]
theorem unq_some {l : List UInt8} {c : UInt8} {k : Nat} (ho : one l = some (c, k)) : unq l = (unq (l.drop k)).map (c :: ·) := by
  have hp := one_pos ho
  have h : l ≠ [] := by intro e; subst e; simp at hp; omega
  unfold unq
  rw [unqF, if_neg h, ho]
  simp only
  rw [unqF_more l.length ((l.drop k).length + 1) (l.drop k) (by rw [List.length_drop]; omega) (by omega)]

/-- the text that a word stands for -/
def unquote (l : List UInt8) : Option (List UInt8) := if l = [] then none else if l = [45] then some [] else unq l

theorem all_u8 {p : UInt8 → Bool} (h : (List.range 256).all (fun n => p (UInt8.ofNat n)) = true) (c : UInt8) : p c = true := by
  have := List.all_eq_true.1 h c.toNat (List.mem_range.2 c.toNat_lt)
  simpa using this

theorem hex_back (c : UInt8) : hv (hx (c / 16)) = some (c / 16) ∧ hv (hx (c % 16)) = some (c % 16) ∧ c / 16 * 16 + c % 16 = c := by
  have := all_u8 (p := fun c => hv (hx (c / 16)) == some (c / 16) && hv (hx (c % 16)) == some (c % 16) && c / 16 * 16 + c % 16 == c) (by decide +kernel) c
  simpa [Bool.and_eq_true, and_assoc] using this

theorem one_q1 : ∀ (c : UInt8) (r : List UInt8), one (q1 c ++ r) = some (c, (q1 c).length) := by
  intro c r
  unfold q1
  split
  · subst c; rfl
  split
  · subst c; rfl
  split
  · subst c; rfl
  split
  · subst c; rfl
  split
  · subst c; rfl
  split
  · rename_i h1 h2 h3 h4 h5 h6
    obtain ⟨k1, k2, k3⟩ := hex_back c
    simp [one, k1, k2, k3]
  · rename_i h1 h2 h3 h4 h5 h6
    simp at h6
    simp [one, h5, h6]

theorem unq_flat (l : List UInt8) : unq (l.flatMap q1) = some l := by
  induction l with
  | nil => rfl
  | cons c r ih =>
    rw [List.flatMap_cons, unq_some (one_q1 c _), List.drop_left, ih]; rfl

theorem q1_ne (c : UInt8) : q1 c ≠ [] := by
  unfold q1; (repeat' split) <;> simp

theorem flat_ne (l : List UInt8) (h : l ≠ []) : l.flatMap q1 ≠ [] := by
  cases l with
  | nil => exact absurd rfl h
  | cons c r => rw [List.flatMap_cons]; simp [q1_ne]

theorem flat_dash (l : List UInt8) (h : l.flatMap q1 = [45]) : l = [45] := by
  have := unq_flat l
  rw [h] at this
  have e : unq [45] = some [45] := by decide
  rw [e] at this
  exact (Option.some.inj this).symm

/-- a quoted text is what it was -/
theorem back (l : List UInt8) : unquote (quote l) = some l := by
  unfold quote
  split
  · subst l; rfl
  · split
    · subst l; rfl
    · rename_i h1 h2
      unfold unquote
      rw [if_neg (flat_ne l h1), if_neg (fun h => h2 (flat_dash l h)), unq_flat]

theorem quote_inj {a b : List UInt8} (h : quote a = quote b) : a = b := by
  have := back a
  rw [h, back b] at this
  exact (Option.some.inj this).symm

theorem quote_ne (l : List UInt8) : quote l ≠ [] := by
  unfold quote; split
  · simp
  · split
    · simp
    · exact flat_ne l ‹_›

theorem q1_len (c : UInt8) : (q1 c).length ≤ 4 := by unfold q1; (repeat' split) <;> simp
theorem flat_len (l : List UInt8) : (l.flatMap q1).length ≤ 4 * l.length := by
  induction l with
  | nil => simp
  | cons c r ih => rw [List.flatMap_cons, List.length_append, List.length_cons]; have := q1_len c; omega
theorem quote_len (l : List UInt8) : (quote l).length ≤ 4 * l.length + 1 := by
  unfold quote; split
  · simp
  · split
    · subst l; simp
    · have := flat_len l; omega

theorem flat_snoc (l : List UInt8) (c : UInt8) : (l ++ [c]).flatMap q1 = l.flatMap q1 ++ q1 c := by simp [List.flatMap_append]

theorem unqF_len : ∀ (f : Nat) (l x : List UInt8), unqF f l = some x → x.length ≤ l.length := by
  intro f
  induction f with
  | zero => intro l x h; cases h
  | succ f ih =>
    intro l x h
    rw [unqF] at h
    split at h
    · cases h; simp
    · cases ho : one l with
      | none => rw [ho] at h; cases h
      | some p =>
        obtain ⟨c, k⟩ := p
        rw [ho] at h
        simp only [Option.map_eq_some_iff] at h
        obtain ⟨y, hy, rfl⟩ := h
        have h1 := ih _ _ hy
        have h2 := one_pos ho
        rw [List.length_drop] at h1
        simp; omega
theorem unquote_len {l x : List UInt8} (h : unquote l = some x) : x.length ≤ l.length := by
  unfold unquote at h
  split at h
  · cases h
  · split at h
    · cases h; simp
    · exact unqF_len _ _ _ h

/-- quoted, each byte is plain -/
theorem q1_plain : ∀ c : UInt8, ∀ b ∈ q1 c, plain b = true := by
  intro c; exact List.all_eq_true.1 (all_u8 (p := fun c => (q1 c).all plain) (by decide +kernel) c)
theorem quote_plain (l : List UInt8) : ∀ b ∈ quote l, plain b = true := by
  unfold quote; split
  · decide
  · split
    · decide
    · intro b hb
      obtain ⟨c, _, h⟩ := List.mem_flatMap.1 hb
      exact q1_plain c b h
end Qt
end Go.Proofs.YtmgealcolofomaaDoor
