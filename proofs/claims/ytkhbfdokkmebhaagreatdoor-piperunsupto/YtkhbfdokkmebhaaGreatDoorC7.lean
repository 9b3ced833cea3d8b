/- Plain facts on base 64 by bits: no program is read here. -/
import Derived.WalkKit
import Derived.Test.YtkhbfdokkmebhaaGreatDoorC6
namespace Go.Proofs.YtkhbfdokkmebhaaGreatDoor
namespace C7
set_option linter.unusedVariables false
set_option maxRecDepth 20000

/-- the bits of a number, the greatest first -/
def bt : Nat → Nat → List Nat
  | 0, _ => []
  | w + 1, v => v / 2 ^ w % 2 :: bt w v
theorem bt_len (w v : Nat) : (bt w v).length = w := by
  induction w with
  | zero => rfl
  | succ w ih => simp [bt, ih]
theorem bt_lt (w v : Nat) : ∀ b ∈ bt w v, b < 2 := by
  induction w with
  | zero => intro b h; cases h
  | succ w ih =>
    intro b h
    rcases List.mem_cons.1 h with rfl | h
    · exact Nat.mod_lt _ (by decide)
    · exact ih b h
def val (l : List Nat) : Nat := l.foldl (fun n b => 2 * n + b) 0
theorem val_snoc (l : List Nat) (b : Nat) : val (l ++ [b]) = 2 * val l + b := by simp [val]
theorem val_lt : ∀ (n : Nat) (l : List Nat), l.length = n → (∀ b ∈ l, b < 2) → val l < 2 ^ n := by
  intro n
  induction n with
  | zero => intro l hl _; have : l = [] := List.length_eq_zero_iff.1 hl; subst this; simp [val]
  | succ n ih =>
    intro l hl h
    obtain ⟨a, c, rfl⟩ : ∃ a c, l = a ++ [c] := by
      have hne : l ≠ [] := by intro h; simp [h] at hl
      exact ⟨l.dropLast, l.getLast hne, (List.dropLast_concat_getLast hne).symm⟩
    have h1 := ih a (by simpa using hl) (fun b hb => h b (List.mem_append_left _ hb))
    have h2 := h c (by simp)
    rw [val_snoc, Nat.pow_succ]; omega
theorem fold_bt : ∀ (w v n : Nat), (bt w v).foldl (fun n b => 2 * n + b) n = n * 2 ^ w + v % 2 ^ w := by
  intro w
  induction w with
  | zero => intro v n; simp [bt, Nat.mod_one]
  | succ w ih =>
    intro v n
    rw [bt, List.foldl_cons, ih, Nat.mod_pow_succ, Nat.pow_succ, Nat.add_mul]
    have e1 : 2 * n * 2 ^ w = n * (2 ^ w * 2) := by rw [Nat.mul_comm 2 n, Nat.mul_assoc, Nat.mul_comm 2]
    rw [e1, Nat.mul_comm (2 ^ w) (v / 2 ^ w % 2)]; omega
theorem val_bt (w v : Nat) (h : v < 2 ^ w) : val (bt w v) = v := by
  unfold val; rw [fold_bt, Nat.mod_eq_of_lt h]; simp
/-- numbers of so many bits each -/
def nm (w : Nat) (l : List Nat) : List Nat := if _h : w = 0 ∨ l.length < w then [] else val (l.take w) :: nm w (l.drop w)
termination_by l.length
decreasing_by rw [List.length_drop]; omega
theorem nm_end {w : Nat} {l : List Nat} (h : l.length < w) : nm w l = [] := by rw [nm, dif_pos (.inr h)]
theorem nm_step {w : Nat} {l : List Nat} (h0 : 0 < w) (h : w ≤ l.length) : nm w l = val (l.take w) :: nm w (l.drop w) := by rw [nm, dif_neg (by omega)]
theorem nm_bt (w v : Nat) (r : List Nat) (h0 : 0 < w) (h : v < 2 ^ w) : nm w (bt w v ++ r) = v :: nm w r := by
  rw [nm_step h0 (by rw [List.length_append, bt_len]; omega)]
  rw [show (bt w v ++ r).take w = bt w v from by rw [List.take_append_of_le_length (by rw [bt_len]; omega), List.take_of_length_le (by rw [bt_len]; omega)], val_bt w v h]
  rw [show (bt w v ++ r).drop w = r from by rw [List.drop_append, bt_len, Nat.sub_self, List.drop_of_length_le (by rw [bt_len]; omega)]; rfl]
/-- all bits of a text -/
def b8s (l : List UInt8) : List Nat := l.flatMap fun c => bt 8 c.toNat
theorem b8s_len (l : List UInt8) : (b8s l).length = 8 * l.length := by
  induction l with
  | nil => rfl
  | cons c t ih => unfold b8s at *; rw [List.flatMap_cons, List.length_append, ih, bt_len, List.length_cons]; omega
theorem b8s_lt (l : List UInt8) : ∀ b ∈ b8s l, b < 2 := by
  intro b h
  rw [b8s, List.mem_flatMap] at h
  obtain ⟨c, _, h⟩ := h
  exact bt_lt 8 _ b h
theorem nm8 (l : List UInt8) (pad : List Nat) (h : pad.length < 8) : nm 8 (b8s l ++ pad) = l.map (·.toNat) := by
  induction l with
  | nil => simp [b8s, nm_end h]
  | cons c t ih =>
    show nm 8 (bt 8 c.toNat ++ b8s t ++ pad) = _
    rw [List.append_assoc, nm_bt 8 _ _ (by decide) (by have := c.toNat_lt; omega), ih]; rfl
def b6s (l : List UInt8) : List Nat := l.flatMap fun c => bt 6 ((C6.sv c).getD 0)
def allS (l : List UInt8) : Bool := l.all fun c => (C6.sv c).isSome
theorem b6s_len (l : List UInt8) : (b6s l).length = 6 * l.length := by
  induction l with
  | nil => rfl
  | cons c t ih => unfold b6s at *; rw [List.flatMap_cons, List.length_append, ih, bt_len, List.length_cons]; omega
theorem b6s_lt (l : List UInt8) : ∀ b ∈ b6s l, b < 2 := by
  intro b h
  rw [b6s, List.mem_flatMap] at h
  obtain ⟨c, _, h⟩ := h
  exact bt_lt 6 _ b h
theorem b6s_app (a b : List UInt8) : b6s (a ++ b) = b6s a ++ b6s b := by unfold b6s; rw [List.flatMap_append]
theorem allS_app (a b : List UInt8) : allS (a ++ b) = (allS a && allS b) := by unfold allS; rw [List.all_append]
theorem bits24 (a b c : Nat) (ha : a < 256) (hb : b < 256) (hc : c < 256) : bt 8 a ++ bt 8 b ++ bt 8 c = bt 6 (a / 4) ++ bt 6 (a % 4 * 16 + b / 16) ++ bt 6 (b % 16 * 4 + c / 64) ++ bt 6 (c % 64) := by
  simp only [bt, List.cons_append, List.nil_append, List.cons.injEq, and_true, Nat.reducePow]
  omega
theorem bits16 (a b : Nat) (ha : a < 256) (hb : b < 256) : bt 8 a ++ bt 8 b ++ [0, 0] = bt 6 (a / 4) ++ bt 6 (a % 4 * 16 + b / 16) ++ bt 6 (b % 16 * 4) := by
  simp only [bt, List.cons_append, List.nil_append, List.cons.injEq, and_true, Nat.reducePow]
  omega
theorem bits8 (a : Nat) (ha : a < 256) : bt 8 a ++ [0, 0, 0, 0] = bt 6 (a / 4) ++ bt 6 (a % 4 * 16) := by
  simp only [bt, List.cons_append, List.nil_append, List.cons.injEq, and_true, Nat.reducePow]
  omega
theorem b6_sg (n : Nat) (h : n < 64) (r : List UInt8) : b6s (C6.sg n :: r) = bt 6 n ++ b6s r := by
  unfold b6s; rw [List.flatMap_cons, C6.sv_sg n h]; rfl
theorem all_sg (n : Nat) (h : n < 64) (r : List UInt8) : allS (C6.sg n :: r) = allS r := by
  unfold allS; rw [List.all_cons, C6.sv_sg n h]; rfl
/-- the bits of a code are those of the text, and less than eight more -/
theorem bits_enc : ∀ l : List UInt8, allS (C6.trim1 (C6.trim1 (C6.enc64 l))) = true ∧ ∃ pad, pad.length < 8 ∧ b6s (C6.trim1 (C6.trim1 (C6.enc64 l))) = b8s l ++ pad := by
  intro l
  induction l using C6.enc64.induct with
  | case1 => exact ⟨rfl, [], by decide, rfl⟩
  | case2 a =>
    have ha := C6.nat8 a
    have e : C6.trim1 (C6.trim1 (C6.enc64 [a])) = [C6.sg (a.toNat / 4), C6.sg (a.toNat % 4 * 16)] := by rw [C6.enc64]; rfl
    rw [e]
    refine ⟨?_, [0, 0, 0, 0], by decide, ?_⟩
    · rw [all_sg _ (by omega), all_sg _ (by omega)]; rfl
    · rw [b6_sg _ (by omega), b6_sg _ (by omega)]
      show bt 6 _ ++ (bt 6 _ ++ []) = (bt 8 a.toNat ++ []) ++ _
      rw [List.append_nil, List.append_nil, bits8 _ ha]
  | case3 a b =>
    have ha := C6.nat8 a; have hb := C6.nat8 b
    have e : C6.trim1 (C6.trim1 (C6.enc64 [a, b])) = [C6.sg (a.toNat / 4), C6.sg (a.toNat % 4 * 16 + b.toNat / 16), C6.sg (b.toNat % 16 * 4)] := by
      rw [C6.enc64]
      show C6.trim1 [_, _, C6.sg (b.toNat % 16 * 4)] = _
      unfold C6.trim1
      rw [if_neg]
      simpa using C6.sg61 (b.toNat % 16 * 4) (by omega)
    rw [e]
    refine ⟨?_, [0, 0], by decide, ?_⟩
    · rw [all_sg _ (by omega), all_sg _ (by omega), all_sg _ (by omega)]; rfl
    · rw [b6_sg _ (by omega), b6_sg _ (by omega), b6_sg _ (by omega)]
      show bt 6 _ ++ (bt 6 _ ++ (bt 6 _ ++ [])) = (bt 8 a.toNat ++ (bt 8 b.toNat ++ [])) ++ _
      rw [List.append_nil, List.append_nil, bits16 _ _ ha hb]; simp
  | case4 a b c r ih =>
    have ha := C6.nat8 a; have hb := C6.nat8 b; have hc := C6.nat8 c
    obtain ⟨i1, pad, i2, i3⟩ := ih
    have e : C6.trim1 (C6.trim1 (C6.enc64 (a :: b :: c :: r))) = [C6.sg (a.toNat / 4), C6.sg (a.toNat % 4 * 16 + b.toNat / 16), C6.sg (b.toNat % 16 * 4 + c.toNat / 64), C6.sg (c.toNat % 64)] ++ C6.trim1 (C6.trim1 (C6.enc64 r)) := by
      rw [C6.enc64]
      by_cases hr : r = []
      · subst hr
        rw [C6.enc64]
        have : C6.trim1 [C6.sg (a.toNat / 4), C6.sg (a.toNat % 4 * 16 + b.toNat / 16), C6.sg (b.toNat % 16 * 4 + c.toNat / 64), C6.sg (c.toNat % 64)] = [C6.sg (a.toNat / 4), C6.sg (a.toNat % 4 * 16 + b.toNat / 16), C6.sg (b.toNat % 16 * 4 + c.toNat / 64), C6.sg (c.toNat % 64)] := by
          unfold C6.trim1; rw [if_neg]; simpa using C6.sg61 (c.toNat % 64) (by omega)
        rw [this, this]; rfl
      · rw [← C6.trim2_app _ _ (by have := C6.enc_ne r hr; omega)]; rfl
    rw [e]
    refine ⟨?_, pad, i2, ?_⟩
    · rw [allS_app, i1, all_sg _ (by omega), all_sg _ (by omega), all_sg _ (by omega), all_sg _ (by omega)]; rfl
    · rw [b6s_app, i3, b6_sg _ (by omega), b6_sg _ (by omega), b6_sg _ (by omega), b6_sg _ (by omega)]
      have := bits24 _ _ _ ha hb hc
      show bt 6 _ ++ (bt 6 _ ++ (bt 6 _ ++ (bt 6 _ ++ []))) ++ (b8s r ++ pad) = (bt 8 a.toNat ++ (bt 8 b.toNat ++ (bt 8 c.toNat ++ b8s r))) ++ pad
      simp only [List.append_nil, List.append_assoc] at this ⊢
      have h2 := congrArg (· ++ (b8s r ++ pad)) this
      simp only [List.append_assoc] at h2
      exact h2.symm
/-- what is read by bits of a code is the text -/
theorem cand_enc (l : List UInt8) : nm 8 (b6s (C6.trim1 (C6.trim1 (C6.enc64 l)))) = l.map (·.toNat) := by
  obtain ⟨_, pad, h, e⟩ := bits_enc l
  rw [e, nm8 l pad h]
/-- what is written by bits is the code -/
theorem enc_bits : ∀ (l : List UInt8) (z y : Nat), z < 6 → (8 * l.length + z) % 6 = 0 → y < 4 → ((8 * l.length + z) / 6 + y) % 4 = 0 → (nm 6 (b8s l ++ List.replicate z 0)).map C6.sg ++ List.replicate y 61 = C6.enc64 l := by
  intro l
  induction l using C6.enc64.induct with
  | case1 =>
    intro z y hz h6 hy h4
    obtain rfl : z = 0 := by simp at h6; omega
    obtain rfl : y = 0 := by simp at h4; omega
    simp [b8s, C6.enc64, nm_end]
  | case2 a =>
    intro z y hz h6 hy h4
    simp at h6 h4
    obtain rfl : z = 4 := by omega
    obtain rfl : y = 2 := by omega
    have ha := C6.nat8 a
    show (nm 6 ((bt 8 a.toNat ++ []) ++ [0, 0, 0, 0])).map C6.sg ++ [61, 61] = _
    rw [List.append_nil, bits8 _ ha, nm_bt 6 _ _ (by decide) (by omega)]
    have := nm_bt 6 (a.toNat % 4 * 16) [] (by decide) (by omega)
    rw [List.append_nil] at this
    rw [this, nm_end (by decide), C6.enc64]; rfl
  | case3 a b =>
    intro z y hz h6 hy h4
    simp at h6 h4
    obtain rfl : z = 2 := by omega
    obtain rfl : y = 1 := by omega
    have ha := C6.nat8 a; have hb := C6.nat8 b
    show (nm 6 ((bt 8 a.toNat ++ (bt 8 b.toNat ++ [])) ++ [0, 0])).map C6.sg ++ [61] = _
    rw [List.append_nil, bits16 _ _ ha hb, List.append_assoc, nm_bt 6 _ _ (by decide) (by omega), nm_bt 6 _ _ (by decide) (by omega)]
    have := nm_bt 6 (b.toNat % 16 * 4) [] (by decide) (by omega)
    rw [List.append_nil] at this
    rw [this, nm_end (by decide), C6.enc64]; rfl
  | case4 a b c r ih =>
    intro z y hz h6 hy h4
    have ha := C6.nat8 a; have hb := C6.nat8 b; have hc := C6.nat8 c
    rw [show (a :: b :: c :: r).length = r.length + 3 from rfl] at h6 h4
    have ih' := ih z y hz (by omega) hy (by omega)
    have e : b8s (a :: b :: c :: r) ++ List.replicate z 0 = bt 6 (a.toNat / 4) ++ (bt 6 (a.toNat % 4 * 16 + b.toNat / 16) ++ (bt 6 (b.toNat % 16 * 4 + c.toNat / 64) ++ (bt 6 (c.toNat % 64) ++ (b8s r ++ List.replicate z 0)))) := by
      show (bt 8 a.toNat ++ (bt 8 b.toNat ++ (bt 8 c.toNat ++ b8s r))) ++ _ = _
      have := congrArg (· ++ (b8s r ++ List.replicate z 0)) (bits24 _ _ _ ha hb hc)
      simp only [List.append_assoc] at this ⊢
      exact this
    rw [e, nm_bt 6 _ _ (by decide) (by omega), nm_bt 6 _ _ (by decide) (by omega), nm_bt 6 _ _ (by decide) (by omega), nm_bt 6 _ _ (by decide) (by omega), C6.enc64, ← ih']; rfl
theorem nm_len6 : ∀ (n : Nat) (l : List Nat), l.length ≤ n → (nm 6 l).length = l.length / 6 := by
  intro n
  induction n with
  | zero => intro l hl; rw [nm_end (by omega)]; have : l.length = 0 := by omega
            rw [this]; rfl
  | succ n ih =>
    intro l hl
    by_cases h : 6 ≤ l.length
    · rw [nm_step (by decide) h, List.length_cons, ih _ (by rw [List.length_drop]; omega), List.length_drop]; omega
    · rw [nm_end (by omega)]; simp; omega
theorem nm_lt (w : Nat) (h0 : 0 < w) : ∀ (n : Nat) (l : List Nat), l.length ≤ n → (∀ b ∈ l, b < 2) → ∀ v ∈ nm w l, v < 2 ^ w := by
  intro n
  induction n with
  | zero => intro l hl hb v hv; rw [nm_end (by omega)] at hv; cases hv
  | succ n ih =>
    intro l hl hb v hv
    by_cases h : w ≤ l.length
    · rw [nm_step h0 h] at hv
      rcases List.mem_cons.1 hv with rfl | hv
      · exact val_lt w _ (by rw [List.length_take]; omega) (fun b h => hb b (List.mem_of_mem_take h))
      · exact ih _ (by rw [List.length_drop]; omega) (fun b h => hb b (List.mem_of_mem_drop h)) v hv
    · rw [nm_end (by omega)] at hv; cases hv
theorem nm_len_le (w : Nat) (h0 : 0 < w) : ∀ (n : Nat) (l : List Nat), l.length ≤ n → (nm w l).length ≤ l.length := by
  intro n
  induction n with
  | zero => intro l hl; rw [nm_end (by omega)]; simp
  | succ n ih =>
    intro l hl
    by_cases h : w ≤ l.length
    · rw [nm_step h0 h, List.length_cons]
      have := ih (l.drop w) (by rw [List.length_drop]; omega)
      rw [List.length_drop] at this; omega
    · rw [nm_end (by omega)]; simp
end C7
end Go.Proofs.YtkhbfdokkmebhaaGreatDoor
