/- What is handed on, plain: no program is read here. -/
import Derived.Test.YtmgealcolofomaaDoorUA
import Derived.Lib.ItoaNum
namespace Go.Proofs.YtmgealcolofomaaDoor
set_option linter.unusedVariables false
set_option maxRecDepth 20000
set_option maxRecDepth 20000
namespace Se
open Mh (Fl)
abbrev L8 := List UInt8
/-- connection, in small letters -/
def conn : L8 := [99, 111, 110, 110, 101, 99, 116, 105, 111, 110]
/-- the names of fields that are for one connection alone -/
def base : List L8 := [conn, [107, 101, 101, 112, 45, 97, 108, 105, 118, 101], [112, 114, 111, 120, 121, 45, 99, 111, 110, 110, 101, 99, 116, 105, 111, 110], [116, 101], [116, 114, 97, 105, 108, 101, 114],
  [116, 114, 97, 110, 115, 102, 101, 114, 45, 101, 110, 99, 111, 100, 105, 110, 103], [117, 112, 103, 114, 97, 100, 101], [99, 111, 110, 116, 101, 110, 116, 45, 108, 101, 110, 103, 116, 104]]
/-- the names that a value tells -/
def nms (v : L8) : List L8 := (Cs.cut 44 v).map fun p => lower (trim p)
def own (fs : List Fl) : List L8 := base ++ (Mh.gets conn fs).flatMap nms
/-- without the fields of some names -/
def less (o : List L8) (fs : List Fl) : List Fl := fs.filter fun f => !decide (lower f.1 ∈ o)
def strip (fs : List Fl) : List Fl := less (own fs) fs
theorem less_snoc (o : List L8) (fs : List Fl) (k : Nat) (f : Fl) (h : fs[k]? = some f) : less o (fs.take (k + 1)) = less o (fs.take k) ++ (if lower f.1 ∈ o then [] else [f]) := by
  unfold less
  rw [List.take_add_one, h]
  simp only [Option.toList, List.filter_append]
  congr 1
  by_cases e : lower f.1 ∈ o
  · rw [if_pos e, List.filter_cons_of_neg (by simpa using e)]; rfl
  · rw [if_neg e, List.filter_cons_of_pos (by simpa using e)]; rfl
theorem less_len (o : List L8) (fs : List Fl) : (less o fs).length ≤ fs.length := List.length_filter_le _ _
theorem less_mem {o : List L8} {fs : List Fl} {f : Fl} (h : f ∈ less o fs) : f ∈ fs ∧ lower f.1 ∉ o := by
  unfold less at h
  obtain ⟨h1, h2⟩ := List.mem_filter.1 h
  exact ⟨h1, by simpa using h2⟩
theorem gets_none {n : L8} {fs : List Fl} (h : ∀ f ∈ fs, lower f.1 ≠ n) : Mh.gets n fs = [] := by
  unfold Mh.gets
  rw [List.filter_eq_nil_iff.2 (fun f hf => by simpa using h f hf)]; rfl
theorem gets_app (n : L8) (a b : List Fl) : Mh.gets n (a ++ b) = Mh.gets n a ++ Mh.gets n b := by
  unfold Mh.gets; rw [List.filter_append, List.map_append]
theorem gets_strip {n : L8} (h : n ∈ base) (fs : List Fl) : Mh.gets n (strip fs) = [] :=
  gets_none fun f hf e => (less_mem hf).2 (e ▸ List.mem_append.2 (.inl h))
theorem less_id {o : List L8} {fs : List Fl} (h : ∀ f ∈ fs, lower f.1 ∉ o) : less o fs = fs := List.filter_eq_self.2 fun f hf => by simpa using h f hf
theorem less_app (o : List L8) (a b : List Fl) : less o (a ++ b) = less o a ++ less o b := List.filter_append _ _
theorem conn_base : conn ∈ base := by simp [base]
theorem own_plain {fs : List Fl} (h : Mh.gets conn fs = []) : own fs = base := by unfold own; rw [h]; simp
theorem own_strip (fs : List Fl) : own (strip fs) = base := own_plain (gets_strip conn_base fs)
theorem not_base {fs : List Fl} : ∀ f ∈ strip fs, lower f.1 ∉ base := fun f hf e => (less_mem hf).2 (List.mem_append.2 (.inl e))
theorem strip_strip (fs : List Fl) : strip (strip fs) = strip fs := by
  show less (own (strip fs)) (strip fs) = _
  rw [own_strip]; exact less_id not_base
/-- the size's field -/
def size (n : Nat) : Fl := (Cu.nameL, Lib.itoa n)
theorem low_size : lower Cu.nameL ∈ base := by decide
theorem low_size_conn : lower Cu.nameL ≠ conn := by decide
theorem low_size_code : lower Cu.nameL ≠ lower Cu.nameC := by decide
theorem code_base : lower Cu.nameC ∈ base := by decide
/-- the fields that go on -/
def out (k : Int) (fs : List Fl) (n : Nat) : List Fl := if k = 1 then strip fs else strip fs ++ [size n]
theorem strip_out (k : Int) (fs : List Fl) (n : Nat) : strip (out k fs n) = strip fs := by
  unfold out; split
  · exact strip_strip fs
  · have h : own (strip fs ++ [size n]) = base := by
      refine own_plain ?_
      rw [gets_app, gets_strip conn_base, gets_none (by intro f hf; simp at hf; rw [hf]; exact low_size_conn)]; rfl
    show less (own (strip fs ++ [size n])) _ = _
    rw [h, less_app, less_id not_base]
    have : less base [size n] = [] := by unfold less; rw [List.filter_eq_nil_iff.2]; intro f hf; simp at hf; rw [hf]; have h2 : lower (size n).1 ∈ base := low_size; simp [h2]
    rw [this, List.append_nil]

theorem dig_dec (k : Nat) (h : k < 10) : Num.dig ((UInt8.ofNat (48 + k)).toNat : Int) = k := by
  have : ∀ k : Fin 10, Num.dig ((UInt8.ofNat (48 + k.1)).toNat : Int) = k.1 := by decide
  exact this ⟨k, h⟩
theorem step_10 {u d : Int} {c : UInt8} (h : Num.dig c.toNat = d) (h0 : 0 ≤ d) (h1 : d < 10) : Num.step 10 (some u) c = some (u * 10 + d) := by
  unfold Num.step; simp only [h]; rw [if_neg (by omega)]
theorem num_dec (f : Nat) : ∀ n : Nat, n ≤ f → Num.num 10 (Lib.decDigits n) = some (n : Int) := by
  induction f with
  | zero =>
    intro n h
    rw [Lib.decDigits_one (by omega)]
    show Num.step 10 (some 0) _ = _
    rw [step_10 (dig_dec n (by omega)) (by omega) (by omega)]; simp
  | succ f ih =>
    intro n h
    by_cases h10 : n < 10
    · rw [Lib.decDigits_one h10]
      show Num.step 10 (some 0) _ = _
      rw [step_10 (dig_dec n h10) (by omega) (by omega)]; simp
    · rw [Lib.decDigits, dif_neg h10, Num.num_snoc, ih (n / 10) (by omega), step_10 (dig_dec (n % 10) (by omega)) (by omega) (by omega)]
      congr 1; omega
theorem len_dec (k : Nat) : ∀ n : Nat, n < 10 ^ (k + 1) → 1 ≤ (Lib.decDigits n).length ∧ (Lib.decDigits n).length ≤ k + 1 := by
  induction k with
  | zero => intro n h; rw [Lib.decDigits_one (by omega)]; simp
  | succ k ih =>
    intro n h
    by_cases h10 : n < 10
    · rw [Lib.decDigits_one h10]; simp
    · rw [Lib.decDigits, dif_neg h10, List.length_append, List.length_singleton]
      have := ih (n / 10) (by rw [Nat.pow_succ] at h; omega)
      omega
theorem itoa_dec (n : Nat) : Lib.itoa (n : Int) = Lib.decDigits n := by unfold Lib.itoa; rw [if_neg (by omega), Int.toNat_natCast]
theorem itoa_len (n : Nat) (h : n ≤ 4096) : (Lib.itoa (n : Int)).length ≤ 9 := by rw [itoa_dec]; exact (len_dec 8 n (by omega)).2
theorem ans_dec (n : Nat) (h : n ≤ 4096) : Num.ans 10 9 (Lib.itoa (n : Int)) = ((n : Int), 0) := by
  have hl := len_dec 8 n (by omega)
  rw [itoa_dec]
  unfold Num.ans
  rw [if_neg (by omega), num_dec n n (Nat.le_refl _)]
theorem sizeOf_strip (fs : List Fl) : Cu.sizeOf (strip fs) = (1, 0, 0) := by
  unfold Cu.sizeOf Cu.sizeE Cu.valsL Cu.valsC
  rw [gets_strip low_size, gets_strip code_base, if_pos ⟨rfl, rfl⟩]
theorem sizeOf_size (fs : List Fl) (n : Nat) (h : n ≤ 4096) : Cu.sizeOf (strip fs ++ [size n]) = (2, (n : Int), 0) := by
  unfold Cu.sizeOf Cu.sizeE Cu.valsL Cu.valsC
  rw [gets_app, gets_app, gets_strip low_size, gets_strip code_base, gets_none (n := lower Cu.nameC) (fs := [size n]) (by intro f hf; simp at hf; rw [hf]; exact low_size_code)]
  have e : Mh.gets (lower Cu.nameL) [size n] = [Lib.itoa (n : Int)] := by
    unfold Mh.gets; rw [List.filter_cons_of_pos (by simp [size])]; rfl
  rw [e, List.nil_append, List.nil_append, if_neg (by simp), if_pos rfl]
  unfold Cu.lens
  rw [if_pos (by simp), List.headD_cons, ans_dec n h, if_neg (by simp)]

/-- what is wrong with a request, or 0 -/
def wrong (m t : L8) (fs : List Fl) (b : L8) : Int :=
  if Mh.check m t fs ≠ 0 then Mh.check m t fs else if (Cu.sizeOf fs).2.2 ≠ 0 then (Cu.sizeOf fs).2.2
  else if (Cu.sizeOf fs).1 = 1 ∧ b ≠ [] then 4 else if 4096 < b.length then 6 else 0
/-- the bytes that go on -/
def fwd (m t : L8) (fs : List Fl) (b : L8) : L8 × Int :=
  if wrong m t fs b ≠ 0 then ([], wrong m t fs b)
  else if Mh.check m t (out (Cu.sizeOf fs).1 fs b.length) ≠ 0 then ([], Mh.check m t (out (Cu.sizeOf fs).1 fs b.length))
  else (Mh.text m t (out (Cu.sizeOf fs).1 fs b.length) ++ b, 0)
theorem wrong_ok {m t : L8} {fs : List Fl} {b : L8} (h : wrong m t fs b = 0) : Mh.check m t fs = 0 ∧ (Cu.sizeOf fs).2.2 = 0 ∧ ((Cu.sizeOf fs).1 = 1 → b = []) ∧ b.length ≤ 4096 := by
  unfold wrong at h
  by_cases h1 : Mh.check m t fs ≠ 0
  · rw [if_pos h1] at h; exact absurd h h1
  rw [if_neg h1] at h
  by_cases h2 : (Cu.sizeOf fs).2.2 ≠ 0
  · rw [if_pos h2] at h; exact absurd h h2
  rw [if_neg h2] at h
  by_cases h3 : (Cu.sizeOf fs).1 = 1 ∧ b ≠ []
  · rw [if_pos h3] at h; cases h
  rw [if_neg h3] at h
  by_cases h4 : 4096 < b.length
  · rw [if_pos h4] at h; cases h
  refine ⟨by simpa using h1, by simpa using h2, fun h => ?_, by omega⟩
  by_cases hb : b = []
  · exact hb
  · exact absurd ⟨h, hb⟩ h3
theorem fwd_bad {m t : L8} {fs : List Fl} {b : L8} (h : (fwd m t fs b).2 ≠ 0) : (fwd m t fs b).1 = [] := by
  unfold fwd at h ⊢
  split
  · rfl
  rename_i h1
  rw [if_neg h1] at h
  split
  · rfl
  rename_i h2
  rw [if_neg h2] at h
  exact absurd rfl h
theorem fwd_ok {m t : L8} {fs : List Fl} {b : L8} (h : (fwd m t fs b).2 = 0) :
    wrong m t fs b = 0 ∧ Mh.check m t (out (Cu.sizeOf fs).1 fs b.length) = 0 ∧ (fwd m t fs b).1 = Mh.text m t (out (Cu.sizeOf fs).1 fs b.length) ++ b := by
  unfold fwd at h ⊢
  by_cases h1 : wrong m t fs b ≠ 0
  · rw [if_pos h1] at h; exact absurd h h1
  rw [if_neg h1] at h ⊢
  by_cases h2 : Mh.check m t (out (Cu.sizeOf fs).1 fs b.length) ≠ 0
  · rw [if_pos h2] at h; exact absurd h h2
  rw [if_neg h2]
  exact ⟨by simpa using h1, by simpa using h2, rfl⟩
theorem sizeOf_out {fs : List Fl} {k : Int} {b : L8} (hb : k = 1 → b = []) (hl : b.length ≤ 4096) :
    Cu.sizeOf (out k fs b.length) = (if k = 1 then (1, 0, 0) else (2, (b.length : Int), 0)) := by
  unfold out
  split
  · exact sizeOf_strip fs
  · exact sizeOf_size fs _ hl
/-- what goes on is read as one request -/
theorem fwd_one {m t : L8} {fs : List Fl} {b : L8} (h : (fwd m t fs b).2 = 0) (hl : (Mh.text m t (out (Cu.sizeOf fs).1 fs b.length)).length ≤ 4096) (more : L8) :
    On.one 4096 4096 ((fwd m t fs b).1 ++ more) = .ok ((m, t, out (Cu.sizeOf fs).1 fs b.length, b), (fwd m t fs b).1.length) := by
  obtain ⟨h1, h2, h3⟩ := fwd_ok h
  obtain ⟨_, _, w3, w4⟩ := wrong_ok h1
  rw [h3]
  have hz := sizeOf_out (fs := fs) w3 w4
  by_cases hk : (Cu.sizeOf fs).1 = 1
  · rw [if_pos hk] at hz
    have hb := w3 hk
    subst hb
    exact On.one_text h2 hl (Nat.le_refl _) hz [] more On.body_none
  · rw [if_neg hk] at hz
    exact On.one_text h2 hl (Nat.le_refl _) hz b more (On.body_len (by omega))
/-- what was read of it goes on as the same bytes -/
theorem fwd_again {m t : L8} {fs : List Fl} {b : L8} (h : (fwd m t fs b).2 = 0) : fwd m t (out (Cu.sizeOf fs).1 fs b.length) b = ((fwd m t fs b).1, 0) := by
  obtain ⟨h1, h2, h3⟩ := fwd_ok h
  obtain ⟨_, _, w3, w4⟩ := wrong_ok h1
  have hz := sizeOf_out (fs := fs) w3 w4
  rw [h3]
  obtain ⟨g, hg⟩ : ∃ g, out (Cu.sizeOf fs).1 fs b.length = g := ⟨_, rfl⟩
  have ho : out (Cu.sizeOf g).1 g b.length = g := by
    rw [← hg, hz]
    by_cases hk : (Cu.sizeOf fs).1 = 1
    · rw [if_pos hk]
      unfold out
      rw [if_pos rfl, if_pos hk, strip_strip]
    · rw [if_neg hk]
      show (if (2 : Int) = 1 then _ else _) = _
      rw [if_neg (by decide), strip_out]
      unfold out; rw [if_neg hk]
  rw [hg] at h2 hz ⊢
  have hw : wrong m t g b = 0 := by
    unfold wrong
    rw [if_neg (by simpa using h2), hz]
    by_cases hk : (Cu.sizeOf fs).1 = 1
    · rw [if_pos hk]; dsimp only
      rw [if_neg (by simp), if_neg (by simp [w3 hk]), if_neg (by omega)]
    · rw [if_neg hk]; dsimp only
      rw [if_neg (by simp), if_neg (by simp), if_neg (by omega)]
  unfold fwd
  rw [if_neg (by simpa using hw), ho, if_neg (by simpa using h2)]
end Se
end Go.Proofs.YtmgealcolofomaaDoor
