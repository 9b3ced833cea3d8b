/- The words of a pipe, and pipes as lists of numbers: no program is read here. -/
import Derived.Test.YtkhbfdokkmebhaaGreatDoorCs
namespace Go.Proofs.YtkhbfdokkmebhaaGreatDoor
open Go.Lib
namespace Pw

/-- lower, url, hex, base, html, path, squeeze, nonull, trim, length, cmd -/
def words : List (List UInt8) := [[108, 111, 119, 101, 114], [117, 114, 108], [104, 101, 120], [98, 97, 115, 101], [104, 116, 109, 108], [112, 97, 116, 104], [115, 113, 117, 101, 101, 122, 101], [110, 111, 110, 117, 108, 108], [116, 114, 105, 109], [108, 101, 110, 103, 116, 104], [99, 109, 100]]
def inn (k : Int) : Bool := decide (1 ≤ k) && decide (k ≤ 11)
def check (l : List Int) : Int := if 8 < l.length then 2 else if l.all inn then 0 else 1
def word (k : Int) : List UInt8 := words.getD (k - 1).toNat []
def print (l : List Int) : List UInt8 := if l = [] then [45] else Lib.join (l.map word) [44]
def kindFrom (p : List UInt8) : Nat → List (List UInt8) → Option Int
  | _, [] => none
  | k, w :: r => if w = p then some ((k : Int) + 1) else kindFrom p (k + 1) r
def kind (p : List UInt8) : Option Int := kindFrom p 0 words
def kinds : List (List UInt8) → Option (List Int)
  | [] => some []
  | p :: r => match kind p with
    | none => none
    | some k => (kinds r).map (k :: ·)
/-- the pipe that a text tells, or what is wrong -/
def parse (s : List UInt8) : List Int × Int :=
  if 8 < (Cs.cut 44 s).length then ([], 2) else if s = [45] then ([], 0) else
    match kinds (Cs.cut 44 s) with
    | none => ([], 3)
    | some l => (l, 0)

theorem word_of (k : Nat) (h : k < 11) : words[k]? = some (word ((k : Int) + 1)) := by
  match k, h with
  | 0, _ | 1, _ | 2, _ | 3, _ | 4, _ | 5, _ | 6, _ | 7, _ | 8, _ | 9, _ | 10, _ => decide
theorem inn_iff (k : Int) : inn k = true ↔ ∃ n : Nat, n < 11 ∧ k = (n : Int) + 1 := by
  unfold inn
  rw [Bool.and_eq_true, decide_eq_true_iff, decide_eq_true_iff]
  constructor
  · intro ⟨h1, h2⟩; exact ⟨(k - 1).toNat, by omega, by omega⟩
  · rintro ⟨n, h1, rfl⟩; omega
theorem kind_word (k : Int) (h : inn k = true) : kind (word k) = some k := by
  obtain ⟨n, hn, rfl⟩ := (inn_iff k).1 h
  match n, hn with
  | 0, _ | 1, _ | 2, _ | 3, _ | 4, _ | 5, _ | 6, _ | 7, _ | 8, _ | 9, _ | 10, _ => decide
theorem word_plain (k : Int) (h : inn k = true) : (44 : UInt8) ∉ word k ∧ (word k).length ≤ 7 ∧ word k ≠ [45] := by
  obtain ⟨n, hn, rfl⟩ := (inn_iff k).1 h
  match n, hn with
  | 0, _ | 1, _ | 2, _ | 3, _ | 4, _ | 5, _ | 6, _ | 7, _ | 8, _ | 9, _ | 10, _ => decide
theorem kindFrom_some {p : List UInt8} {x : Int} : ∀ {ws : List (List UInt8)} {k : Nat}, kindFrom p k ws = some x → ∃ j, ws[j]? = some p ∧ x = ((k + j : Nat) : Int) + 1
  | [], k, h => by cases h
  | w :: r, k, h => by
    unfold kindFrom at h
    split at h
    · rename_i e; subst e; exact ⟨0, rfl, by simpa using (Option.some.inj h).symm⟩
    · obtain ⟨j, h1, h2⟩ := kindFrom_some h
      exact ⟨j + 1, h1, by rw [h2]; omega⟩
theorem word_kind {p : List UInt8} {k : Int} (h : kind p = some k) : inn k = true ∧ word k = p := by
  obtain ⟨j, h1, h2⟩ := kindFrom_some h
  have hj : j < 11 := (List.getElem?_eq_some_iff.1 h1).1
  subst h2
  rw [Nat.zero_add]
  refine ⟨(inn_iff _).2 ⟨j, hj, rfl⟩, ?_⟩
  have := word_of j hj
  rw [h1] at this
  exact (Option.some.inj this).symm
theorem kinds_words : ∀ (l : List Int), l.all inn = true → kinds (l.map word) = some l
  | [], _ => rfl
  | k :: l, h => by
    rw [List.all_cons, Bool.and_eq_true] at h
    rw [List.map_cons, kinds, kind_word k h.1, kinds_words l h.2]; rfl
theorem words_kinds : ∀ (ps : List (List UInt8)) (l : List Int), kinds ps = some l → l.all inn = true ∧ l.map word = ps ∧ l.length = ps.length
  | [], l, h => by cases h; exact ⟨rfl, rfl, rfl⟩
  | p :: ps, l, h => by
    unfold kinds at h
    cases hk : kind p with
    | none => rw [hk] at h; cases h
    | some k =>
      rw [hk] at h
      obtain ⟨m, h1, rfl⟩ := Option.map_eq_some_iff.1 h
      obtain ⟨a, b, c⟩ := words_kinds ps m h1
      obtain ⟨d, e⟩ := word_kind hk
      exact ⟨by rw [List.all_cons, a, d]; rfl, by rw [List.map_cons, b, e], by simp [c]⟩
theorem check_ok {l : List Int} (h : check l = 0) : l.length ≤ 8 ∧ l.all inn = true := by
  unfold check at h
  split at h
  · cases h
  · split at h
    · rename_i h1 h2; exact ⟨by omega, h2⟩
    · cases h
theorem ok_check {l : List Int} (h1 : l.length ≤ 8) (h2 : l.all inn = true) : check l = 0 := by
  unfold check; rw [if_neg (by omega), if_pos h2]
theorem map_plain {l : List Int} (h : l.all inn = true) : ∀ p ∈ l.map word, (44 : UInt8) ∉ p := by
  intro p hp
  obtain ⟨k, hk, rfl⟩ := List.mem_map.1 hp
  exact (word_plain k (List.all_eq_true.1 h k hk)).1
/-- what was printed is read again -/
theorem parse_print {l : List Int} (h : check l = 0) : parse (print l) = (l, 0) := by
  obtain ⟨h1, h2⟩ := check_ok h
  unfold print
  split
  · rename_i e; subst e; decide
  · rename_i e
    have hc : Cs.cut 44 (Lib.join (l.map word) [44]) = l.map word := Cs.cut_join (by simpa using e) (map_plain h2)
    have hne : Lib.join (l.map word) [44] ≠ [45] := by
      intro h3
      rw [h3] at hc
      cases l with
      | nil => exact e rfl
      | cons k r =>
        have h4 := congrArg List.head? hc
        rw [List.map_cons, List.head?_cons] at h4
        have h5 := (word_plain k (List.all_eq_true.1 h2 k (by simp))).2.2
        exact h5 (Option.some.inj h4).symm
    unfold parse
    rw [hc, if_neg (by rw [List.length_map]; omega), if_neg hne, kinds_words l h2]
/-- what was read is printed again -/
theorem print_parse {s : List UInt8} {l : List Int} (h : parse s = (l, 0)) : check l = 0 ∧ print l = s := by
  unfold parse at h
  split at h
  · cases h
  · rename_i h8
    split at h
    · rename_i e; cases h; subst e; exact ⟨rfl, rfl⟩
    · cases hk : kinds (Cs.cut 44 s) with
      | none => rw [hk] at h; cases h
      | some m =>
        rw [hk] at h
        cases h
        obtain ⟨a, b, c⟩ := words_kinds _ _ hk
        refine ⟨ok_check (by omega) a, ?_⟩
        unfold print
        have hne : l ≠ [] := by
          intro e; subst e
          exact Cs.cut_ne 44 s (by rw [← b]; rfl)
        rw [if_neg hne, b, Cs.join_cut]
theorem parse_bad {s : List UInt8} (h : (parse s).2 ≠ 0) : (parse s).1 = [] := by
  unfold parse at h ⊢
  split
  · rfl
  · split
    · rfl
    · cases hk : kinds (Cs.cut 44 s) with
      | none => rfl
      | some m => rename_i h1 h2; rw [if_neg h1, if_neg h2, hk] at h; exact absurd rfl h
theorem parse_fits (s : List UInt8) : (parse s).1.length ≤ 8 := by
  unfold parse
  split
  · exact Nat.zero_le _
  · rename_i h8
    split
    · exact Nat.zero_le _
    · cases hk : kinds (Cs.cut 44 s) with
      | none => exact Nat.zero_le _
      | some m => have := (words_kinds _ _ hk).2.2; show m.length ≤ 8; omega
theorem parse_all (s : List UInt8) : (parse s).1.all inn = true := by
  unfold parse
  split
  · rfl
  · split
    · rfl
    · cases hk : kinds (Cs.cut 44 s) with
      | none => rfl
      | some m => exact (words_kinds _ _ hk).1
theorem print_len {l : List Int} (h : check l = 0) : (print l).length ≤ 64 := by
  obtain ⟨h1, h2⟩ := check_ok h
  unfold print
  split
  · decide
  · refine Nat.le_trans (Cs.join_len 44 _) ?_
    have : ∀ l : List Int, l.all inn = true → Cp.wt (l.map word) ≤ l.length * 8 := by
      intro l
      induction l with
      | nil => intro _; decide
      | cons k l ih =>
        intro h
        rw [List.all_cons, Bool.and_eq_true] at h
        rw [List.map_cons, Cp.wt_cons, List.length_cons]
        have := (word_plain k h.1).2.1
        have := ih h.2
        omega
    have := this l h2
    omega
end Pw
end Go.Proofs.YtkhbfdokkmebhaaGreatDoor
