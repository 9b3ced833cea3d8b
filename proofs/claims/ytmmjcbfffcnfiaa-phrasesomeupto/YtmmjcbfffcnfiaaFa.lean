/- Trees of phrases, plainly: right trees, children, the walk and its hits. -/
import Derived.Test.YtmmjcbfffcnfiaaKb
namespace Go.Proofs.Ytmmjcbfffcnfiaa
namespace Ph
set_option linter.unusedVariables false
set_option maxRecDepth 20000

structure Nd where
  c : Int
  up : Int
  fail : Int
  ends : List Int
instance : Inhabited Nd := ⟨⟨0, 0, 0, []⟩⟩
def nd (T : List Nd) (i : Nat) : Nd := T.getD i default
theorem nd_at {T : List Nd} {i : Nat} (h : i < T.length) : T[i]? = some (nd T i) := by
  simp [nd, List.getD, List.getElem?_eq_getElem h]
theorem nd_of {T : List Nd} {i : Nat} {x : Nd} (h : T[i]? = some x) : nd T i = x := by simp [nd, List.getD, h]

/-- the child of node n with byte c among the first i nodes -/
def kid (T : List Nd) : Nat → Int → Int → Nat
  | 0, _, _ => 0
  | i + 1, n, c => if kid T i n c ≠ 0 then kid T i n c else if (nd T i).up = n ∧ (nd T i).c = c then i else 0
theorem kid_lt (T : List Nd) (i : Nat) (n c : Int) : kid T i n c = 0 ∨ kid T i n c < i := by
  induction i with
  | zero => exact .inl rfl
  | succ i ih =>
    unfold kid
    by_cases h : kid T i n c ≠ 0
    · rw [if_pos h]; omega
    · rw [if_neg h]; by_cases h2 : (nd T i).up = n ∧ (nd T i).c = c
      · rw [if_pos h2]; omega
      · rw [if_neg h2]; exact .inl rfl
theorem kid_none (T : List Nd) (i : Nat) (n c : Int) : kid T i n c = 0 ↔ ∀ k, 1 ≤ k → k < i → ¬ ((nd T k).up = n ∧ (nd T k).c = c) := by
  induction i with
  | zero => simp [kid]
  | succ i ih =>
    unfold kid
    by_cases h : kid T i n c ≠ 0
    · rw [if_pos h]
      refine ⟨fun g => absurd g h, fun g => ih.2 fun k h1 h2 => g k h1 (by omega)⟩
    · rw [if_neg h]
      have h0 := ih.1 (Decidable.byContradiction h)
      by_cases h2 : (nd T i).up = n ∧ (nd T i).c = c
      · rw [if_pos h2]
        refine ⟨fun g k h1 h3 h4 => ?_, fun g => ?_⟩
        · exact h0 k h1 (by omega) h4
        · by_cases hi : i = 0
          · exact hi
          · exact absurd h2 (g i (by omega) (by omega))
      · rw [if_neg h2]
        refine ⟨fun _ k h1 h3 h4 => ?_, fun _ => rfl⟩
        by_cases hk : k = i
        · subst hk; exact h2 h4
        · exact h0 k h1 (by omega) h4
theorem kid_some {T : List Nd} {i : Nat} {n c : Int} (h : kid T i n c ≠ 0) : (nd T (kid T i n c)).up = n ∧ (nd T (kid T i n c)).c = c := by
  induction i with
  | zero => exact absurd rfl h
  | succ i ih =>
    revert h
    unfold kid
    by_cases h1 : kid T i n c ≠ 0
    · rw [if_pos h1]; exact fun _ => ih h1
    · rw [if_neg h1]
      by_cases h2 : (nd T i).up = n ∧ (nd T i).c = c
      · rw [if_pos h2]; exact fun _ => h2
      · rw [if_neg h2]; exact fun h => absurd rfl h
theorem kid_succ {T : List Nd} {k : Nat} (hk : k ≠ 0) (h : kid T k (nd T k).up (nd T k).c = 0) (a b : Int) : (if a = (nd T k).up ∧ b = (nd T k).c then k else kid T k a b) = kid T (k + 1) a b := by
  rw [kid]
  by_cases h1 : a = (nd T k).up ∧ b = (nd T k).c
  · rw [if_pos h1, h1.1, h1.2, h]; simp
  · rw [if_neg h1]
    by_cases h2 : kid T k a b ≠ 0
    · rw [if_pos h2]
    · rw [if_neg h2, if_neg (fun h => h1 ⟨h.1.symm, h.2.symm⟩)]; omega
theorem kid_one (T : List Nd) (a b : Int) : kid T 0 a b = kid T 1 a b := by simp [kid]
def Kid (T : List Nd) (n c : Int) : Nat := kid T T.length n c
theorem Kid_lt (T : List Nd) (n c : Int) (h : 0 < T.length) : Kid T n c < T.length := by
  have := kid_lt T T.length n c
  unfold Kid; omega

/-- whether node i is right behind the nodes ahead of it -/
def links (T : List Nd) (i : Nat) : Prop := i = 0 ∨ ((0 ≤ (nd T i).up ∧ (nd T i).up < i) ∧ (0 ≤ (nd T i).fail ∧ (nd T i).fail < i)) ∧ kid T i (nd T i).up (nd T i).c = 0
def numsIn (l : List Int) (words : Int) : Prop := ∀ e ∈ l, 0 ≤ e ∧ e < words
def okAt (T : List Nd) (words : Int) (i : Nat) : Prop := links T i ∧ numsIn (nd T i).ends words
instance (T : List Nd) (i : Nat) : Decidable (links T i) := by unfold links; infer_instance
instance (l : List Int) (words : Int) : Decidable (numsIn l words) := by unfold numsIn; infer_instance
instance (T : List Nd) (words : Int) (i : Nat) : Decidable (okAt T words i) := by unfold okAt; infer_instance
def Ok (T : List Nd) (words : Int) (i : Nat) : Prop := ∀ j, j < i → okAt T words j
instance (T : List Nd) (words : Int) (i : Nat) : Decidable (Ok T words i) := by unfold Ok; infer_instance
def root (T : List Nd) : Prop := T ≠ [] ∧ (nd T 0).up = 0 ∧ (nd T 0).fail = 0
instance (T : List Nd) : Decidable (root T) := by
  unfold root
  have : Decidable (T ≠ []) := by cases T <;> simp <;> infer_instance
  infer_instance
def chk (T : List Nd) (words : Int) : Int :=
  if T.length > 400 ∨ words > 30 then 2 else if root T then (if Ok T words T.length then 0 else 1) else 1
theorem ok_succ {T : List Nd} {words : Int} {i : Nat} (h : Ok T words i) (g : okAt T words i) : Ok T words (i + 1) := by
  intro j hj
  by_cases h1 : j = i
  · subst h1; exact g
  · exact h j (by omega)
theorem chk_large {T : List Nd} {words : Int} (h : T.length > 400 ∨ words > 30) : chk T words = 2 := by unfold chk; rw [if_pos h]
theorem chk_root {T : List Nd} {words : Int} (h : ¬ (T.length > 400 ∨ words > 30)) (g : ¬ root T) : chk T words = 1 := by unfold chk; rw [if_neg h, if_neg g]
theorem chk_bad {T : List Nd} {words : Int} {i : Nat} (h : ¬ (T.length > 400 ∨ words > 30)) (hi : i < T.length) (g : ¬ okAt T words i) : chk T words = 1 := by
  unfold chk; rw [if_neg h]
  by_cases hr : root T
  · rw [if_pos hr, if_neg]; exact fun k => g (k i hi)
  · rw [if_neg hr]
theorem chk_ok {T : List Nd} {words : Int} (h : ¬ (T.length > 400 ∨ words > 30)) (g : root T) (k : Ok T words T.length) : chk T words = 0 := by
  unfold chk; rw [if_neg h, if_pos g, if_pos k]
structure Right (T : List Nd) : Prop where
  ne : 0 < T.length
  few : T.length ≤ 400
  up0 : (nd T 0).up = 0
  fail0 : (nd T 0).fail = 0
  link : ∀ i, i < T.length → links T i
theorem right_of {T : List Nd} {words : Int} (h : chk T words = 0) : Right T ∧ Ok T words T.length := by
  unfold chk at h
  by_cases h1 : T.length > 400 ∨ words > 30
  · rw [if_pos h1] at h; cases h
  · rw [if_neg h1] at h
    by_cases h2 : root T
    · rw [if_pos h2] at h
      by_cases h3 : Ok T words T.length
      · exact ⟨⟨List.length_pos_iff.2 h2.1, by omega, h2.2.1, h2.2.2, fun i hi => (h3 i hi).1⟩, h3⟩
      · rw [if_neg h3] at h; cases h
    · rw [if_neg h2] at h; cases h
def fl (T : List Nd) (i : Nat) : Nat := (nd T i).fail.toNat
theorem Right.fail_lt {T : List Nd} (R : Right T) {i : Nat} (hi : i < T.length) (h0 : i ≠ 0) : fl T i < i ∧ (nd T i).fail = (fl T i : Int) := by
  rcases R.link i hi with h | ⟨⟨_, h1, h2⟩, _⟩
  · exact absurd h h0
  · unfold fl; omega

/-- where byte c leads from node i, by children f and fails F -/
def nxg (f : Int → Int → Nat) (F : Nat → Nat) (c : Int) (i : Nat) : Nat :=
  if h : i ≠ 0 ∧ f i c = 0 ∧ F i < i then nxg f F c (F i) else f i c
termination_by i
decreasing_by exact h.2.2
theorem nxg_go {f : Int → Int → Nat} {F : Nat → Nat} {c : Int} {i : Nat} (h0 : i ≠ 0) (h1 : f i c = 0) (h2 : F i < i) : nxg f F c i = nxg f F c (F i) := by
  rw [nxg, dif_pos ⟨h0, h1, h2⟩]
theorem nxg_stop {f : Int → Int → Nat} {F : Nat → Nat} {c : Int} {i : Nat} (h : i = 0 ∨ f i c ≠ 0) : nxg f F c i = f i c := by
  rw [nxg, dif_neg]; rintro ⟨h0, h1, _⟩; rcases h with h | h <;> contradiction
theorem nxg_lt (f : Int → Int → Nat) (F : Nat → Nat) (c : Int) (N : Nat) (h : ∀ i, f i c < N) (i : Nat) : nxg f F c i < N := by
  induction i using Nat.strongRecOn with
  | _ i ih =>
    rw [nxg]
    by_cases g : i ≠ 0 ∧ f i c = 0 ∧ F i < i
    · rw [dif_pos g]; exact ih _ g.2.2
    · rw [dif_neg g]; exact h _
/-- where byte c leads from node i -/
def nx (T : List Nd) (c : Int) (i : Nat) : Nat := nxg (Kid T) (fl T) c i
theorem nx_lt (T : List Nd) (c : Int) (h : 0 < T.length) (i : Nat) : nx T c i < T.length := nxg_lt _ _ _ _ (fun i => Kid_lt T _ _ h) i
def endsOf (T : List Nd) (i : Nat) : List Int := if i = 0 then [] else (nd T i).ends
/-- the node behind the first i bytes of s -/
def stt (T : List Nd) (s : List UInt8) : Nat → Nat
  | 0 => 0
  | i + 1 => nx T ((s.getD i 0).toNat : Int) (stt T s i)
theorem stt_lt (T : List Nd) (s : List UInt8) (h : 0 < T.length) (i : Nat) : stt T s i < T.length := by
  cases i with
  | zero => exact h
  | succ i => exact nx_lt T _ h _
abbrev Ht := Int × Int
/-- the hits of the first i bytes of s -/
def hits (T : List Nd) (s : List UInt8) : Nat → List Ht
  | 0 => []
  | i + 1 => hits T s i ++ (endsOf T (stt T s (i + 1))).map fun e => (e, ((i + 1 : Nat) : Int))
def some_ (T : List Nd) (s : List UInt8) (i : Nat) : Prop := hits T s i ≠ []
theorem hits_len (T : List Nd) (s : List UInt8) (M : Nat) (h : ∀ i, i < T.length → (nd T i).ends.length ≤ M) (h0 : 0 < T.length) (i : Nat) : (hits T s i).length ≤ i * M := by
  induction i with
  | zero => simp [hits]
  | succ i ih =>
    have h1 : (endsOf T (stt T s (i + 1))).length ≤ M := by
      unfold endsOf; split
      · simp
      · exact h _ (stt_lt T s h0 _)
    simp only [hits, List.length_append, List.length_map, Nat.succ_mul]; omega
theorem hits_mono (T : List Nd) (s : List UInt8) {i : Nat} (j : Nat) (h : hits T s i ≠ []) : hits T s (i + j) ≠ [] := by
  induction j with
  | zero => exact h
  | succ j ih => rw [show i + (j + 1) = (i + j) + 1 by omega]; simp only [hits]; exact fun e => ih (List.append_eq_nil_iff.1 e).1
end Ph
end Go.Proofs.Ytmmjcbfffcnfiaa
