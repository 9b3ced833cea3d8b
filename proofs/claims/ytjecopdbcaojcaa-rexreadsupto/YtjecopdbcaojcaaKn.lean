/- What a text is read as: the grammar that the program's reader keeps: plain. -/
import Derived.Test.YtjecopdbcaojcaaKk
import Derived.Test.YtjecopdbcaojcaaHk
import Derived.Test.YtjecopdbcaojcaaJd
namespace Go.Proofs.Ytjecopdbcaojcaa
open Go.RowKit Kb
set_option linter.unusedVariables false
set_option maxRecDepth 20000

/-- the first k bits of a word -/
def wordOf (p : Nat → Bool) : Nat → Nat
  | 0 => 0
  | k + 1 => wordOf p k + (p k).toNat * 2 ^ k
theorem wordOf_lt (p : Nat → Bool) (k : Nat) : wordOf p k < 2 ^ k := by
  induction k with
  | zero => simp [wordOf]
  | succ k ih =>
    rw [wordOf, Nat.pow_succ]
    have : (p k).toNat ≤ 1 := Bool.toNat_le _
    have : (p k).toNat * 2 ^ k ≤ 1 * 2 ^ k := Nat.mul_le_mul_right _ this
    omega
theorem wordOf_bit (p : Nat → Bool) (k : Nat) : ∀ j, j < k → (wordOf p k).testBit j = p j := by
  induction k with
  | zero => intro j h; omega
  | succ k ih =>
    intro j hj
    have hl := wordOf_lt p k
    rw [wordOf, Nat.add_comm, Nat.mul_comm, Nat.testBit_two_pow_mul_add _ hl]
    by_cases e : j < k
    · rw [if_pos e]; exact ih j e
    · obtain rfl : j = k := by omega
      rw [if_neg e, Nat.sub_self]
      cases p j <;> rfl
/-- the set of the bytes for which something holds -/
def setOf (p : Nat → Bool) : Se := ⟨wordOf p 64, wordOf (fun j => p (64 + j)) 64, wordOf (fun j => p (128 + j)) 64, wordOf (fun j => p (192 + j)) 64⟩
theorem setOf_fit (p : Nat → Bool) : FitS (setOf p) := by
  have h0 := wordOf_lt p 64
  have h1 := wordOf_lt (fun j => p (64 + j)) 64
  have h2 := wordOf_lt (fun j => p (128 + j)) 64
  have h3 := wordOf_lt (fun j => p (192 + j)) 64
  unfold FitS setOf
  dsimp only
  omega
theorem setOf_bit (p : Nat → Bool) (b : Nat) (hb : b < 256) : bit (setOf p) b = p b := by
  have h : b < 64 ∨ (64 ≤ b ∧ b < 128) ∨ (128 ≤ b ∧ b < 192) ∨ 192 ≤ b := by omega
  unfold bit
  rcases h with h | h | h | h
  · rw [show b / 64 = 0 by omega, show b % 64 = b by omega]
    show (wordOf p 64 : Int).toNat.testBit b = p b
    rw [Int.toNat_natCast, wordOf_bit p 64 b h]
  · rw [show b / 64 = 1 by omega, show b % 64 = b - 64 by omega]
    show (wordOf (fun j => p (64 + j)) 64 : Int).toNat.testBit (b - 64) = p b
    rw [Int.toNat_natCast, wordOf_bit _ 64 (b - 64) (by omega), show 64 + (b - 64) = b by omega]
  · rw [show b / 64 = 2 by omega, show b % 64 = b - 128 by omega]
    show (wordOf (fun j => p (128 + j)) 64 : Int).toNat.testBit (b - 128) = p b
    rw [Int.toNat_natCast, wordOf_bit _ 64 (b - 128) (by omega), show 128 + (b - 128) = b by omega]
  · rw [show b / 64 = 3 by omega, show b % 64 = b - 192 by omega]
    show (wordOf (fun j => p (192 + j)) 64 : Int).toNat.testBit (b - 192) = p b
    rw [Int.toNat_natCast, wordOf_bit _ 64 (b - 192) (by omega), show 192 + (b - 192) = b by omega]
theorem setOf_of {t : Se} {p : Nat → Bool} (ht : FitS t) (h : ∀ j, j < 256 → bit t j = p j) : t = setOf p := bits_ext ht (setOf_fit p) fun j hj => by rw [h j hj, setOf_bit p j hj]
/-- what is read: an expression and where it leaves off, or what went wrong and where -/
inductive Rs where
  | ok (x : Ex) (a : Nat)
  | err (e : Int) (a : Nat)
/-- an atom; grp: what is read from a ( on -/
def atomR (s : ByteArray) (grp : Nat → Rs) (a : Nat) : Rs :=
  if pkB s a = 40 then grp a
  else if pkB s a = 91 then (match itemsR s (a + 1) with | (none, b) => .err 3 b | (some p, b) => .ok (.byte (setOf p)) b)
  else if pkB s a = 46 then .ok (.byte (setOf (fun j => decide (j ≠ 10)))) (a + 1)
  else if pkB s a = 94 then .ok .beg (a + 1)
  else if pkB s a = 36 then .ok .en (a + 1)
  else match clsP s a with
    | some p => .ok (.byte (setOf p)) (a + 2)
    | none => match charR s a with
      | (none, b) => .err 3 b
      | (some x, b) => .ok (.byte (setOf (fun j => decide (j = x)))) b
/-- what stands behind an atom: * + ? -/
def postR (s : ByteArray) (r : Ex) (a : Nat) : Ex × Nat :=
  if h : pkB s a = 42 then postR s (.star r) (a + 1)
  else if h : pkB s a = 43 then postR s (.cat r (.star r)) (a + 1)
  else if h : pkB s a = 63 then postR s (.alt r .emp) (a + 1)
  else (r, a)
  termination_by s.size - a
  decreasing_by
    all_goals
      have := pk_lt (s := s) (a := a) (by rw [h]; decide)
      omega
def pieceR (s : ByteArray) (grp : Nat → Rs) (a : Nat) : Rs :=
  match atomR s grp a with
  | .err e b => .err e b
  | .ok r b => .ok (postR s r b).1 (postR s r b).2
/-- does a row end here? -/
def rowE (s : ByteArray) (a : Nat) : Bool := decide (a = s.size) || decide (pkB s a = 124) || decide (pkB s a = 41)
def rowL (s : ByteArray) (grp : Nat → Rs) (r : Ex) (b : Nat) : Rs :=
  if rowE s b = true then .ok r b else
    match pieceR s grp b with
    | .err e c => .err e c
    | .ok q c => if h : b < c ∧ c ≤ s.size then rowL s grp (.cat r q) c else .err 3 c
  termination_by s.size - b
def rowR (s : ByteArray) (grp : Nat → Rs) (a : Nat) : Rs :=
  if rowE s a = true then .ok .emp a else
    match pieceR s grp a with
    | .err e b => .err e b
    | .ok r b => rowL s grp r b
def altL (s : ByteArray) (grp : Nat → Rs) (r : Ex) (b : Nat) : Rs :=
  if pkB s b = 124 then
    match rowR s grp (b + 1) with
    | .err e c => .err e c
    | .ok q c => if h : b < c ∧ c ≤ s.size then altL s grp (.alt r q) c else .err 3 c
  else .ok r b
  termination_by s.size - b
def altR (s : ByteArray) (grp : Nat → Rs) (a : Nat) : Rs :=
  match rowR s grp a with
  | .err e b => .err e b
  | .ok r b => altL s grp r b
/-- brackets: d: how many more may be opened -/
def grpR (s : ByteArray) : Nat → Nat → Rs
  | 0, a => .err 11 a
  | d + 1, a => match altR s (grpR s d) (a + 1) with
    | .err e b => .err e b
    | .ok r b => if pkB s b = 41 then .ok r (b + 1) else .err 3 b
/-- the whole text -/
def readR (s : ByteArray) : Rs :=
  match altR s (grpR s 20) 0 with
  | .err e b => .err e b
  | .ok r b => if b < s.size then .err 3 b else if chkR r.rx ≠ 0 then .err (chkR r.rx) b else .ok r b
end Go.Proofs.Ytjecopdbcaojcaa
