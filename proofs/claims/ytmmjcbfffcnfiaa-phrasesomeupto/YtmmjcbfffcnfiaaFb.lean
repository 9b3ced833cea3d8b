/- Trees in memory; the children of nodes in a map. -/
import Derived.Test.YtmmjcbfffcnfiaaFa
import Derived.Test.YtmmjcbfffcnfiaaFi
import Derived.Maps.OwnOps
import Derived.Maps.Views
import Derived.DeepKeys4
namespace Go.Proofs.Ytmmjcbfffcnfiaa
open Go.RowKit Kb Go.Maps Ph
set_option linter.unusedVariables false
set_option maxRecDepth 20000

structure Tree (w : World) (v : Value) (T : List Nd) : Prop where
  form : ∃ o c, v = .slice o T.length c ∧ T.length ≤ c
  room : T.length ≤ 140737488355328
  fits : ∀ x ∈ T, (0 ≤ x.c ∧ x.c ≤ 255) ∧ (-9223372036854775808 ≤ x.up ∧ x.up ≤ 9223372036854775807) ∧ (-9223372036854775808 ≤ x.fail ∧ x.fail ≤ 9223372036854775807)
  at_ : T ≠ [] → ∃ g off c, v = .slice (some ⟨g, off, none⟩) T.length c ∧ g < w.heap.size ∧ ∀ i x, T[i]? = some x →
    w.cell? ⟨g, off + i * 4, none⟩ = some (.int .u8 x.c) ∧ w.cell? ⟨g, off + i * 4 + 1, none⟩ = some (.int .i64 x.up) ∧ w.cell? ⟨g, off + i * 4 + 2, none⟩ = some (.int .i64 x.fail) ∧
    ∃ e, w.cell? ⟨g, off + i * 4 + 3, none⟩ = some e ∧ Ints w e x.ends
theorem Tree.below {w w' : World} {v : Value} {T : List Nd} (h : Tree w v T) (b : Below w.heap.size w w') : Tree w' v T := by
  refine ⟨h.form, h.room, h.fits, fun hne => ?_⟩
  obtain ⟨g, off, c, h1, h2, h3⟩ := h.at_ hne
  refine ⟨g, off, c, h1, Nat.lt_of_lt_of_le h2 b.size, fun i x hi => ?_⟩
  obtain ⟨k0, k1, k2, e, k3, k4⟩ := h3 i x hi
  exact ⟨cell_below k0 h2 b, cell_below k1 h2 b, cell_below k2 h2 b, e, cell_below k3 h2 b, k4.below b⟩
theorem Tree.node {w : World} {v : Value} {T : List Nd} (h : Tree w v T) {i : Nat} (hi : i < T.length) : ∃ g off c e, v = .slice (some ⟨g, off, none⟩) T.length c ∧ T.length ≤ c ∧ g < w.heap.size ∧
    w.cell? ⟨g, off + i * 4, none⟩ = some (.int .u8 (nd T i).c) ∧ w.cell? ⟨g, off + i * 4 + 1, none⟩ = some (.int .i64 (nd T i).up) ∧ w.cell? ⟨g, off + i * 4 + 2, none⟩ = some (.int .i64 (nd T i).fail) ∧
    w.cell? ⟨g, off + i * 4 + 3, none⟩ = some e ∧ Ints w e (nd T i).ends := by
  obtain ⟨g, off, c, h1, h2, h3⟩ := h.at_ (by intro e; rw [e] at hi; cases hi)
  obtain ⟨k0, k1, k2, e, k3, k4⟩ := h3 i _ (nd_at hi)
  obtain ⟨o, c', hv, hc⟩ := h.form
  rw [hv] at h1
  cases h1
  exact ⟨g, off, c, e, hv, hc, h2, k0, k1, k2, k3, k4⟩

set_option maxHeartbeats 2000000 in
theorem endsAt_any (w0 w : World) (v : Value) (T : List Nd) (i : Nat) (hT : Tree w0 v T) (hb : Below w0.heap.size w0 w) (hi : i < T.length) :
    Calls Try.prog 33 #[v, .int .i64 i] w fun e w' => ∃ x, e = .returned x ∧ Ints w0 x (endsOf T i) ∧ w' = w := by
  by_cases h0 : i = 0
  · subst h0
    clear hT hb
    go_enter Try.func33, Try.ntmps33
    go_wp2
    go_ret
    exact ⟨_, rfl, Ints.nil _, rfl⟩
  · obtain ⟨g, off, c, e, rfl, hc, hg, k0, k1, k2, k3, k4⟩ := hT.node hi
    have HK : Hid (Ints w0 e (endsOf T i)) := hide (by unfold endsOf; rw [if_neg h0]; exact k4)
    have k3 := cell_below k3 hg hb
    have hr := hT.room
    clear hT k0 k1 k2 k4 hb
    go_enter Try.func33, Try.ntmps33
    go_wp2
    go_ret
    exact ⟨_, rfl, unhide HK, rfl⟩
theorem own_base {w : World} {B B' e size n : Nat} {v : Value} {xs : List Value} (h : w.ownsRow B e size v n xs) (hB : B' ≤ B) : w.ownsRow B' e size v n xs := by
  refine ⟨h.1, ?_⟩
  rcases h.2 with h1 | ⟨g, cap, cur, h1, h2, h3⟩
  · exact .inl h1
  · exact .inr ⟨g, cap, cur, h1, by omega, h3⟩
theorem laidOutAll : laidOutB Try.prog = true := by kernel_rfl
theorem types_size : Try.prog.types.size = 140 + 1 + 1 := by kernel_rfl
theorem kidLaw : Keyed Try.prog 74 :=
  Keyed.of_law (deep_law_laid laidOutAll (m := 3) (by omega) (by rw [types_size]; decide) (by kernel_rfl) (by kernel_rfl))
def kv (a c : Int) : Value := .agg #[.int .i64 a, .int .u8 c]
def kl (a c : Int) : Lit := .string (keyBytes [.int .i64 a, .int .u8 c])
def I64 (a : Int) : Prop := -9223372036854775808 ≤ a ∧ a ≤ 9223372036854775807
def U8 (c : Int) : Prop := 0 ≤ c ∧ c ≤ 255
theorem wfI {a : Int} (h : I64 a) : (Lit.int .i64 a).wf = true := WalkArith.wf_i64 (by unfold I64 at h; omega)
theorem wfU {c : Int} (h : U8 c) : (Lit.int .u8 c).wf = true := by 
  unfold U8 at h
  have h1 : IntKind.u8.min = 0 := by decide
  have h2 : IntKind.u8.max = 255 := by decide
  simp [Lit.wf, h1, h2]; omega
theorem zeroI (w : World) : (zeroValue 3).run Try.prog w = .ok (.int .i64 0) w := by kernel_rfl
theorem keyType_step : Try.prog.keyType 74 = true := by kernel_rfl
theorem keyOf_kv {a c : Int} (ha : I64 a) (hc : U8 c) : keyOf Try.prog 74 (kv a c) = some (kl a c) := by
  have wa := wfI ha
  have wc := wfU hc
  obtain ⟨m, hm⟩ : ∃ m, Try.prog.types.size = m + 1 := ⟨_, types_size⟩
  have l3 : Try.prog.keyLits (m + 1) 3 [.int .i64 a] = some [.int .i64 a] := by unfold Program.keyLits; simp [Try.underlying3, wa]
  have l5 : Try.prog.keyLits (m + 1) 5 [.int .u8 c] = some [.int .u8 c] := by unfold Program.keyLits; simp [Try.underlying5, wc]
  have c3 : Try.prog.cellsOf 3 = 1 := by kernel_rfl
  have c5 : Try.prog.cellsOf 5 = 1 := by kernel_rfl
  have hcell : Try.prog.cellsOf 74 = 2 := by kernel_rfl
  unfold keyOf
  simp only [Try.underlying74]
  rw [if_pos (by rw [keyType_step]; simp [Value.formed, kv, Try.underlying74, hcell]), hm]
  unfold Program.keyLits
  simp only [Try.underlying74, kv, Value.cells]
  rw [if_pos ⟨by rw [hcell]; rfl, by simp⟩]
  simp [c3, c5, l3, l5, kl]
theorem kl_inj {a c a' c' : Int} (ha : I64 a) (hc : U8 c) (ha' : I64 a') (hc' : U8 c') (h : kl a c = kl a' c') : a = a' ∧ c = c' := by
  have := kidLaw.inj (keyOf_kv ha hc) (h ▸ keyOf_kv ha' hc')
  simpa [kv] using this

/-- block B is a map of at most n children that answers f -/
def Kids (w : World) (B n : Nat) (f : Int → Int → Nat) : Prop :=
  ∃ D : DataW Unit, w.ownsMap Try.prog 74 (plainElem Try.prog 3) B n D ∧ ∀ a c, I64 a → U8 c → D.atKey (kl a c) (.lit (.int .i64 0)) = .lit (.int .i64 (f a c))
theorem Kids.look {w : World} {B n : Nat} {f : Int → Int → Nat} (h : Kids w B n f) {a c : Int} (ha : I64 a) (hc : U8 c) :
    (Instr.lookup 48 (.map (some B)) (.agg #[.int .i64 a, .int .u8 c]) false).run Try.prog w = .ok (.int .i64 (f a c)) w := by
  obtain ⟨D, h1, h2⟩ := h
  obtain ⟨x, hrun, hat, _⟩ := h1.lookup_int kidLaw Try.underlying48 Try.underlying3 (zeroI _) (keyOf_kv ha hc)
  rw [h2 a c ha hc] at hat
  cases hat
  exact hrun
theorem Kids.put {w w' : World} {B n : Nat} {f : Int → Int → Nat} {D : DataW Unit} (h1 : w.ownsMap Try.prog 74 (plainElem Try.prog 3) B n D)
    (h2 : ∀ a c, I64 a → U8 c → D.atKey (kl a c) (.lit (.int .i64 0)) = .lit (.int .i64 (f a c))) {a c : Int} {k : Nat} (ha : I64 a) (hc : U8 c)
    (h : w'.ownsMap Try.prog 74 (plainElem Try.prog 3) B (n + 1) (D.put (kl a c) (.lit (.int .i64 k)))) : Kids w' B (n + 1) (fun a' c' => if a' = a ∧ c' = c then k else f a' c') := by
  refine ⟨_, h, fun a' c' ha' hc' => ?_⟩
  dsimp only
  have hm : IsMap D := by obtain ⟨es, clock, _, _, _, e⟩ := h1; exact ⟨_, e⟩
  by_cases he : a' = a ∧ c' = c
  · obtain ⟨rfl, rfl⟩ := he
    rw [atKey_put_same hm (kidLaw.key (keyOf_kv ha hc)), if_pos ⟨rfl, rfl⟩]
  · rw [atKey_put_other (fun e => he (kl_inj ha' hc' ha hc e)), h2 a' c' ha' hc', if_neg he]
theorem Kids.below {w w' : World} {B n : Nat} {f : Int → Int → Nat} (h : Kids w B n f) (b : Below w.heap.size w w') : Kids w' B n f := by
  obtain ⟨D, ⟨es, clock, h1, h2⟩, h3⟩ := h
  refine ⟨D, ⟨es, clock, ?_, h2⟩, h3⟩
  rw [b.block B (Array.getElem?_eq_some_iff.1 h1).1]; exact h1
theorem Kids.alloc {w : World} {B n : Nat} {f : Int → Int → Nat} (h : Kids w B n f) (o : Obj) : Kids (w.alloc o) B n f := by
  obtain ⟨D, h1, h2⟩ := h; exact ⟨D, h1.alloc o, h2⟩
theorem Kids.mono {w : World} {B n n' : Nat} {f : Int → Int → Nat} (h : Kids w B n f) (hn : n ≤ n') : Kids w B n' f := by
  obtain ⟨D, h1, h2⟩ := h; exact ⟨D, h1.mono hn, h2⟩
theorem Kids.lt {w : World} {B n : Nat} {f : Int → Int → Nat} (h : Kids w B n f) : B < w.heap.size := by
  obtain ⟨D, h1, _⟩ := h; exact h1.lt
theorem Kids.congr {w : World} {B n : Nat} {f g : Int → Int → Nat} (h : Kids w B n f) (e : ∀ a c, f a c = g a c) : Kids w B n g := by
  obtain ⟨D, h1, h2⟩ := h; exact ⟨D, h1, fun a c ha hc => by rw [h2 a c ha hc, e]⟩

set_option maxHeartbeats 4000000 in
theorem next_any (w : World) (v : Value) (T : List Nd) (B n i : Nat) (c : Int) (f : Int → Int → Nat) (F : Nat → Nat) (hT : Tree w v T) (hK : Kids w B n f) (hi : i < T.length) (hc : U8 c)
    (hF : ∀ j, j ≤ i → j ≠ 0 → F j < j ∧ (nd T j).fail = (F j : Int)) :
    Calls Try.prog 32 #[v, .map (some B), .int .i64 i, .int .u8 c] w fun e w' => e = .returned (.int .i64 (nxg f F c i)) ∧ w' = w := by
  have hr := hT.room
  obtain ⟨g, off, cp, e0, rfl, hcp, hg, _, _, _, _, _⟩ := hT.node hi
  have HT := hide hT
  have HK := hide hK
  have HF := hide hF
  clear hT hK hF
  go_enter Try.func32, Try.ntmps32
  go_wp2
  go_loop [2] (fun x => ∃ j : Nat, x = .int .i64 j ∧ j ≤ i ∧ nxg f F c j = nxg f F c i) (fun x => (intOf x).toNat)
  case atStart => exact ⟨i, rfl, Nat.le_refl _, rfl⟩
  case round =>
    obtain ⟨j, rfl, hj, hx⟩ := hrel
    have HX := hide hx
    clear hx
    have hl := (unhide HK).look (a := (j : Int)) (c := c) (by unfold I64; omega) hc
    by_cases h0 : j = 0
    · have HE := hide ((nxg_stop (f := f) (F := F) (c := c) (.inl h0)).symm.trans (unhide HX))
      subst h0
      have hl0 := (unhide HK).look (a := 0) (c := c) (by unfold I64; omega) hc
      clear hl
      go_wp2
      go_ret
      exact ⟨ret_i (by rw [← unhide HE]; rfl), rfl⟩
    · by_cases h1 : f j c = 0
      · obtain ⟨g', off', cp', e1, he, _, _, _, _, k2, _, _⟩ := (unhide HT).node (i := j) (by omega)
        cases he
        obtain ⟨hlt, hfl⟩ := (unhide HF) j hj h0
        have HE := hide ((nxg_go h0 h1 hlt).symm.trans (unhide HX))
        rw [h1] at hl
        rw [hfl] at k2
        clear hfl
        go_wp2
        exact ⟨⟨F j, rfl, by omega, unhide HE⟩, by simp [intOf]; omega⟩
      · have HE := hide ((nxg_stop (f := f) (F := F) (c := c) (.inr h1)).symm.trans (unhide HX))
        obtain ⟨k, hk⟩ : ∃ k, f j c = k := ⟨_, rfl⟩
        rw [hk] at hl h1
        have HE2 : Hid (k = nxg f F c i) := hide (hk.symm.trans (unhide HE))
        clear hk HE
        have hk0 : ((k : Int) == 0) = false := by simp; omega
        clear h1
        go_wp2
        go_ret
        exact ⟨ret_i (by rw [← unhide HE2]), rfl⟩
end Go.Proofs.Ytmmjcbfffcnfiaa
