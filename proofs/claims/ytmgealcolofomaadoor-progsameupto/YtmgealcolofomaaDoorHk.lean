/- Right expressions as plain trees, and their texts: plain. -/
import Derived.Test.YtmgealcolofomaaDoorHc
import Derived.Test.YtmgealcolofomaaDoorHg
import Derived.Test.YtmgealcolofomaaDoorHj
namespace Go.Proofs.YtmgealcolofomaaDoor
open Go.RowKit Kb Pop
set_option linter.unusedVariables false
set_option maxRecDepth 20000

/-- a right expression -/
inductive Ex where
  | none
  | emp
  | byte (s : Se)
  | cat (a b : Ex)
  | alt (a b : Ex)
  | star (a : Ex)
  | beg
  | en
namespace Ex
def kind : Ex → Int
  | none => 1
  | emp => 2
  | byte _ => 3
  | cat _ _ => 4
  | alt _ _ => 5
  | star _ => 6
  | beg => 7
  | en => 8
def rx : Ex → Rx
  | none => .mk 1 noSet []
  | emp => .mk 2 noSet []
  | byte s => .mk 3 s []
  | cat a b => .mk 4 noSet [a.rx, b.rx]
  | alt a b => .mk 5 noSet [a.rx, b.rx]
  | star a => .mk 6 noSet [a.rx]
  | beg => .mk 7 noSet []
  | en => .mk 8 noSet []
def nodes : Ex → Nat
  | cat a b => 1 + a.nodes + b.nodes
  | alt a b => 1 + a.nodes + b.nodes
  | star a => 1 + a.nodes
  | _ => 1
def high : Ex → Nat
  | cat a b => 1 + max a.high b.high
  | alt a b => 1 + max a.high b.high
  | star a => 1 + a.high
  | _ => 1
/-- no set of it is empty -/
def Full : Ex → Prop
  | byte s => s ≠ noSet ∧ FitS s
  | cat a b => a.Full ∧ b.Full
  | alt a b => a.Full ∧ b.Full
  | star a => a.Full
  | _ => True
theorem rx_k (e : Ex) : e.rx.k = e.kind := by cases e <;> rfl
theorem nodes_pos (e : Ex) : 0 < e.nodes := by cases e <;> simp [nodes] <;> omega
theorem kind_pos (e : Ex) : 1 ≤ e.kind ∧ e.kind ≤ 8 := by cases e <;> simp [kind]
end Ex
theorem badN_cases {k : Int} {s : Se} {ks : List Rx} (h : ¬ badN k s ks.length) :
    ((k = 1 ∨ k = 2 ∨ k = 7 ∨ k = 8) ∧ s = noSet ∧ ks = []) ∨ (k = 3 ∧ s ≠ noSet ∧ ks = []) ∨ (k = 6 ∧ s = noSet ∧ ∃ x, ks = [x]) ∨ ((k = 4 ∨ k = 5) ∧ s = noSet ∧ ∃ x y, ks = [x, y]) := by
  unfold badN at h
  simp only [not_or, Int.not_lt, gt_iff_lt, ne_eq, Classical.not_not] at h
  obtain ⟨h1, h2, h3, h4⟩ := h
  have hk : k = 1 ∨ k = 2 ∨ k = 3 ∨ k = 4 ∨ k = 5 ∨ k = 6 ∨ k = 7 ∨ k = 8 := by omega
  have hs : k ≠ 3 → s = noSet := fun hn => by
    rw [decide_eq_false hn] at h4
    simpa using h4
  unfold wantK at h3
  rcases hk with rfl | rfl | rfl | rfl | rfl | rfl | rfl | rfl
  all_goals simp at h3
  · exact .inl ⟨.inl rfl, hs (by decide), h3⟩
  · exact .inl ⟨.inr (.inl rfl), hs (by decide), h3⟩
  · exact .inr (.inl ⟨rfl, by simpa using h4, h3⟩)
  · match ks, h3 with
    | [x, y], _ => exact .inr (.inr (.inr ⟨.inl rfl, hs (by decide), x, y, rfl⟩))
    | [], h => simp at h
    | [_], h => simp at h
    | _ :: _ :: _ :: _, h => simp at h; omega
  · match ks, h3 with
    | [x, y], _ => exact .inr (.inr (.inr ⟨.inr rfl, hs (by decide), x, y, rfl⟩))
    | [], h => simp at h
    | [_], h => simp at h
    | _ :: _ :: _ :: _, h => simp at h; omega
  · match ks, h3 with
    | [x], _ => exact .inr (.inr (.inl ⟨rfl, hs (by decide), x, rfl⟩))
    | [], h => simp at h
    | _ :: _ :: _, h => simp at h; omega
  · exact .inl ⟨.inr (.inr (.inl rfl)), hs (by decide), h3⟩
  · exact .inl ⟨.inr (.inr (.inr rfl)), hs (by decide), h3⟩
theorem look_ex (r : Rx) : ∀ d n, (lookR r d n).2 = 0 → ∃ e : Ex, r = e.rx ∧ (lookR r d n).1 = n + e.nodes ∧ n + e.nodes ≤ 80 ∧ d + e.high ≤ 21 ∧ (∀ w v, RexV w v r → e.Full) := by
  induction r using Rx.ind with
  | h k s ks ih =>
    intro d n h
    rw [lookR] at h ⊢
    by_cases h80 : 80 < n + 1
    · rw [if_pos h80] at h; cases h
    rw [if_neg h80] at h ⊢
    by_cases h20 : 20 < d
    · rw [if_pos h20] at h; cases h
    rw [if_neg h20] at h ⊢
    by_cases hb : badN k s ks.length
    · rw [if_pos hb] at h; cases h
    rw [if_neg hb] at h ⊢
    rcases badN_cases hb with ⟨hk, rfl, rfl⟩ | ⟨rfl, hs, rfl⟩ | ⟨rfl, rfl, x, rfl⟩ | ⟨hk, rfl, x, y, rfl⟩
    · rw [lookL]
      rcases hk with rfl | rfl | rfl | rfl
      · exact ⟨.none, rfl, rfl, by show n + 1 ≤ 80; omega, by show d + 1 ≤ 21; omega, fun _ _ _ => trivial⟩
      · exact ⟨.emp, rfl, rfl, by show n + 1 ≤ 80; omega, by show d + 1 ≤ 21; omega, fun _ _ _ => trivial⟩
      · exact ⟨.beg, rfl, rfl, by show n + 1 ≤ 80; omega, by show d + 1 ≤ 21; omega, fun _ _ _ => trivial⟩
      · exact ⟨.en, rfl, rfl, by show n + 1 ≤ 80; omega, by show d + 1 ≤ 21; omega, fun _ _ _ => trivial⟩
    · rw [lookL]
      exact ⟨.byte s, rfl, rfl, by show n + 1 ≤ 80; omega, by show d + 1 ≤ 21; omega, fun _ _ hv => ⟨hs, hv.fit.2⟩⟩
    · rw [lookL, lookL] at h ⊢
      by_cases hx : (lookR x (d + 1) (n + 1)).2 = 0
      · obtain ⟨e, h1, h2, h3, h4, h5⟩ := ih x (by simp) _ _ hx
        rw [if_neg (fun g => g hx)]
        refine ⟨.star e, by rw [h1]; rfl, ?_, ?_, ?_, ?_⟩
        · simp only [h2, Ex.nodes]; omega
        · simp only [Ex.nodes]; omega
        · simp only [Ex.high]; omega
        · intro w v hv
          obtain ⟨t, rfl, hk⟩ := hv.val
          obtain ⟨g, o, c, t', _, _, hf, _, _, _, _, _, _, hk'⟩ := hk.at_ (i := 0) (x := x) rfl
          exact h5 w _ ⟨⟨t', rfl, hk'⟩, hf⟩
      · rw [if_pos hx] at h; exact absurd h hx
    · rw [lookL, lookL, lookL] at h ⊢
      by_cases hx : (lookR x (d + 1) (n + 1)).2 = 0
      · obtain ⟨e, h1, h2, h3, h4, h5⟩ := ih x (by simp) _ _ hx
        rw [if_neg (fun g => g hx), h2] at h ⊢
        by_cases hy : (lookR y (d + 1) (n + 1 + e.nodes)).2 = 0
        · obtain ⟨f, g1, g2, g3, g4, g5⟩ := ih y (by simp) _ _ hy
          rw [if_neg (fun g => g hy), g2]
          have hfull : ∀ w v, RexV w v (.mk k noSet [x, y]) → e.Full ∧ f.Full := by
            intro w v hv
            obtain ⟨t, rfl, hk⟩ := hv.val
            obtain ⟨g, o, c, t', _, _, hf, _, _, _, _, _, _, hk'⟩ := hk.at_ (i := 0) (x := x) rfl
            obtain ⟨g, o, c, t'', _, _, hf', _, _, _, _, _, _, hk''⟩ := hk.at_ (i := 1) (x := y) rfl
            exact ⟨h5 w _ ⟨⟨t', rfl, hk'⟩, hf⟩, g5 w _ ⟨⟨t'', rfl, hk''⟩, hf'⟩⟩
          rcases hk with rfl | rfl
          · refine ⟨.cat e f, by rw [h1, g1]; rfl, ?_, ?_, ?_, hfull⟩
            · simp only [Ex.nodes]; omega
            · simp only [Ex.nodes]; omega
            · simp only [Ex.high]; omega
          · refine ⟨.alt e f, by rw [h1, g1]; rfl, ?_, ?_, ?_, hfull⟩
            · simp only [Ex.nodes]; omega
            · simp only [Ex.nodes]; omega
            · simp only [Ex.high]; omega
        · rw [if_pos hy] at h; exact absurd h hy
      · rw [if_pos hx] at h; exact absurd h hx
theorem chk_ex {r : Rx} {w : World} {v : Value} (h : chkR r = 0) (hv : RexV w v r) : ∃ e : Ex, r = e.rx ∧ e.nodes ≤ 80 ∧ e.high ≤ 20 ∧ e.Full := by
  obtain ⟨e, h1, _, h3, h4, h5⟩ := look_ex r 1 0 h
  exact ⟨e, h1, by omega, by omega, h5 w v hv⟩
theorem notBad (k : Int) (s : Se) (n : Nat) (h : (1 ≤ k ∧ k ≤ 8) ∧ (n : Int) = wantK k ∧ (s ≠ noSet ↔ k = 3)) : ¬ badN k s n := by
  unfold badN
  rintro (h1 | h1 | h1 | h1)
  · omega
  · omega
  · exact h1 h.2.1
  · exact h1 (by rw [decide_eq_decide]; exact h.2.2)
/-- what look tells of a right one -/
theorem ex_look (e : Ex) : ∀ d n, e.Full → n + e.nodes ≤ 80 → d + e.high ≤ 21 → lookR e.rx d n = (n + e.nodes, 0) := by
  induction e with
  | none => intro d n hf hn hd; simp only [Ex.nodes, Ex.high] at hn hd; rw [Ex.rx, lookR, if_neg (by omega), if_neg (by omega), if_neg (notBad _ _ _ (by decide)), lookL]; rfl
  | emp => intro d n hf hn hd; simp only [Ex.nodes, Ex.high] at hn hd; rw [Ex.rx, lookR, if_neg (by omega), if_neg (by omega), if_neg (notBad _ _ _ (by decide)), lookL]; rfl
  | beg => intro d n hf hn hd; simp only [Ex.nodes, Ex.high] at hn hd; rw [Ex.rx, lookR, if_neg (by omega), if_neg (by omega), if_neg (notBad _ _ _ (by decide)), lookL]; rfl
  | en => intro d n hf hn hd; simp only [Ex.nodes, Ex.high] at hn hd; rw [Ex.rx, lookR, if_neg (by omega), if_neg (by omega), if_neg (notBad _ _ _ (by decide)), lookL]; rfl
  | byte s => intro d n hf hn hd; simp only [Ex.nodes, Ex.high] at hn hd; rw [Ex.rx, lookR, if_neg (by omega), if_neg (by omega), if_neg (notBad _ _ _ ⟨by decide, by decide, by simp [hf.1]⟩), lookL]; rfl
  | star a iha =>
    intro d n hf hn hd
    simp only [Ex.nodes, Ex.high] at hn hd
    rw [Ex.rx, lookR, if_neg (by omega), if_neg (by omega), if_neg (notBad _ _ _ ⟨by decide, rfl, by decide⟩), lookL, iha _ _ hf (by omega) (by omega), lookL]
    simp [Ex.nodes]; omega
  | cat a b iha ihb =>
    intro d n hf hn hd
    simp only [Ex.nodes, Ex.high] at hn hd
    rw [Ex.rx, lookR, if_neg (by omega), if_neg (by omega), if_neg (notBad _ _ _ ⟨by decide, rfl, by decide⟩), lookL, iha _ _ hf.1 (by omega) (by omega), lookL, ihb _ _ hf.2 (by omega) (by omega), lookL]
    simp [Ex.nodes]; omega
  | alt a b iha ihb =>
    intro d n hf hn hd
    simp only [Ex.nodes, Ex.high] at hn hd
    rw [Ex.rx, lookR, if_neg (by omega), if_neg (by omega), if_neg (notBad _ _ _ ⟨by decide, rfl, by decide⟩), lookL, iha _ _ hf.1 (by omega) (by omega), lookL, ihb _ _ hf.2 (by omega) (by omega), lookL]
    simp [Ex.nodes]; omega
theorem rx_inj (e : Ex) : ∀ f : Ex, e.rx = f.rx → e = f := by
  induction e with
  | none => intro f h; cases f <;> first | rfl | (simp [Ex.rx] at h)
  | emp => intro f h; cases f <;> first | rfl | (simp [Ex.rx] at h)
  | beg => intro f h; cases f <;> first | rfl | (simp [Ex.rx] at h)
  | en => intro f h; cases f <;> first | rfl | (simp [Ex.rx] at h)
  | byte s => intro f h; cases f <;> simp [Ex.rx] at h; rw [h]
  | star a iha => intro f h; cases f <;> simp [Ex.rx] at h; rw [iha _ h]
  | cat a b iha ihb => intro f h; cases f <;> simp [Ex.rx] at h; rw [iha _ h.1, ihb _ h.2]
  | alt a b iha ihb => intro f h; cases f <;> simp [Ex.rx] at h; rw [iha _ h.1, ihb _ h.2]
/-- in brackets -/
def brk (b : Bool) (t : List UInt8) : List UInt8 := if b = true then 40 :: (t ++ [41]) else t
/-- the text of a set -/
def setT (p : Nat → Bool) (N : Nat) : List UInt8 :=
  if cntN p N = 1 then itemsP p N else if cntN p N = 255 ∧ p 10 = false then [46] else if 128 < cntN p N ∧ cntN p N < 256 then 91 :: 94 :: (itemsP (fun b => !p b) N ++ [93]) else 91 :: (itemsP p N ++ [93])
def noB : List UInt8 := [91, 94, 92, 120, 48, 48, 45, 92, 120, 102, 102, 93]
/-- does a kid want brackets: of a node of a kind, in a place, of a kind of its own? -/
def bra (k : Int) (i : Nat) (q : Int) : Bool :=
  if k = 6 then decide (q = 2 ∨ q = 4 ∨ q = 5 ∨ q = 6) else if k = 4 then decide (q = 2 ∨ q = 5 ∨ (q = 4 ∧ i = 1)) else decide (q = 5 ∧ i = 1)
namespace Ex
/-- the text -/
def tx : Ex → List UInt8
  | none => noB
  | emp => []
  | byte s => setT (bit s) 256
  | cat a b => brk (bra 4 0 a.kind) a.tx ++ brk (bra 4 1 b.kind) b.tx
  | alt a b => brk (bra 5 0 a.kind) a.tx ++ 124 :: brk (bra 5 1 b.kind) b.tx
  | star a => brk (bra 6 0 a.kind) a.tx ++ [42]
  | beg => [94]
  | en => [36]
end Ex
theorem brk_len (b : Bool) (t : List UInt8) : (brk b t).length ≤ t.length + 2 := by
  unfold brk; split <;> simp
theorem setT_len (p : Nat → Bool) : (setT p 256).length ≤ 2310 := by
  have h1 := itemsP_len p 256
  have h2 := itemsP_len (fun b => !p b) 256
  unfold setT
  split
  · omega
  split
  · simp
  split <;> simp <;> omega
theorem tx_len (e : Ex) : e.tx.length + 4 ≤ 2320 * e.nodes := by
  induction e with
  | none => decide
  | emp => decide
  | beg => decide
  | en => decide
  | byte s => have := setT_len (bit s); simp only [Ex.tx, Ex.nodes]; omega
  | star a iha => have := brk_len (bra 6 0 a.kind) a.tx; simp only [Ex.tx, Ex.nodes, List.length_append, List.length_cons, List.length_nil]; omega
  | cat a b iha ihb => have := brk_len (bra 4 0 a.kind) a.tx; have := brk_len (bra 4 1 b.kind) b.tx; simp only [Ex.tx, Ex.nodes, List.length_append]; omega
  | alt a b iha ihb => have := brk_len (bra 5 0 a.kind) a.tx; have := brk_len (bra 5 1 b.kind) b.tx; simp only [Ex.tx, Ex.nodes, List.length_append, List.length_cons]; omega
end Go.Proofs.YtmgealcolofomaaDoor
