/- Walks: a head's text is read (the program's); are two heads the same? -/
import Derived.Test.YtmgealcolofomaaDoorMl
namespace Go.Proofs.YtmgealcolofomaaDoor
open Go.RowKit Kb
set_option linter.unusedVariables false
set_option maxRecDepth 20000
open Mh (Fl)

namespace Mh
theorem first_bounds {l : L8} {p : Fl} (h : firstOf l = some p) : p.1.length ≤ l.length ∧ p.2.length ≤ l.length := by
  unfold firstOf at h
  split at h
  · rename_i hc
    cases h
    have hm : ∀ (i : Nat), i < 3 → ((Cs.cut 32 l)[i]?.getD []).length ≤ l.length := fun i hi => by
      have hl : i < (Cs.cut 32 l).length := by rw [hc.1]; exact hi
      rw [List.getElem?_eq_getElem hl, Option.getD_some]
      have := pc_mem_len (t := [32]) (by simp) l (Cs.cut 32 l)[i] (by rw [pc_one]; exact List.getElem_mem hl)
      exact this
    exact ⟨hm 0 (by omega), hm 1 (by omega)⟩
  · cases h
theorem field_bounds {l : L8} {p : Fl} (h : fieldOf l = some p) : p.1.length ≤ l.length ∧ p.2.length ≤ l.length := by
  unfold fieldOf at h
  split at h
  · cases h
    have := cut_len l [58]
    exact ⟨this.1, Nat.le_trans (trim_len _) this.2⟩
  · cases h
theorem fields_bounds (n : Nat) : ∀ (L : List L8) (acc fs : List Fl), fieldsOf acc L = some fs → (∀ p ∈ L, p.length ≤ n) → (∀ f ∈ acc, f.1.length ≤ n ∧ f.2.length ≤ n) → fs.length = acc.length + L.length ∧ ∀ f ∈ fs, f.1.length ≤ n ∧ f.2.length ≤ n
  | [], acc, fs, h, _, ha => by
    rw [fieldsOf] at h
    cases h; exact ⟨rfl, ha⟩
  | l :: r, acc, fs, h, hl, ha => by
    rw [fieldsOf] at h
    cases hf : fieldOf l with
    | none => rw [hf] at h; cases h
    | some f =>
      rw [hf] at h
      have hb := field_bounds hf
      have hln := hl l (by simp)
      obtain ⟨h1, h2⟩ := fields_bounds n r (acc ++ [f]) fs h (fun p hp => hl p (List.mem_cons_of_mem _ hp)) (fun x hx => by
        rcases List.mem_append.1 hx with h | h
        · exact ha x h
        · have : x = f := by simpa using h
          rw [this]; omega)
      refine ⟨?_, h2⟩
      rw [h1, List.length_append, List.length_cons]; simp; omega
theorem read_bounds {s m t : L8} {fs : List Fl} (h : readH s = some (m, t, fs)) : m.length ≤ s.length ∧ t.length ≤ s.length ∧ fs.length ≤ s.length ∧ ∀ f ∈ fs, f.1.length ≤ s.length ∧ f.2.length ≤ s.length := by
  unfold readH at h
  split at h
  · have hn : (s.take (s.length - 4)).length ≤ s.length := by rw [List.length_take]; omega
    have hm : ∀ p ∈ pc crlf (s.take (s.length - 4)), p.length ≤ s.length := fun p hp => Nat.le_trans (pc_mem_len crlf_ne _ p hp) hn
    have hl := pc_len crlf_ne (s.take (s.length - 4))
    obtain ⟨x, r, hx⟩ := List.exists_cons_of_ne_nil (pc_ne crlf (s.take (s.length - 4)) crlf_ne)
    unfold readL at h
    rw [hx] at h hm hl
    split at h
    · cases h
    · rw [List.head?_cons, Option.getD_some, List.tail_cons] at h
      cases h1 : firstOf x with
      | none => rw [h1] at h; cases h
      | some q =>
        rw [h1] at h
        dsimp only at h
        cases h2 : fieldsOf [] r with
        | none => rw [h2] at h; cases h
        | some fs' =>
          rw [h2] at h
          dsimp only at h
          have h3 := Option.some.inj h
          injection h3 with e1 e2; injection e2 with e2 e3
          subst e1 e2 e3
          have hb := first_bounds h1
          have hxl := hm x (by simp)
          obtain ⟨g1, g2⟩ := fields_bounds s.length r [] fs' h2 (fun p hp => hm p (List.mem_cons_of_mem _ hp)) (by simp)
          rw [List.length_cons] at hl
          exact ⟨by omega, by omega, by rw [g1]; simp; omega, g2⟩
  · cases h
end Mh
set_option maxHeartbeats 4000000 in
theorem equal_flds (w : World) (v u : Value) (l : List Fl) (h1 : Flds w v l) (h2 : Flds w u l) :
    Calls Tryd.prog 27 #[v, u] w fun e w' => e = .returned (.bool true) ∧ Below w.heap.size w w' := by
  obtain ⟨o1, c1, rfl, _⟩ := h1.form
  obtain ⟨o2, c2, rfl, _⟩ := h2.form
  have hroom := h1.room
  have H1 := hide h1
  have H2 := hide h2
  clear h1 h2
  go_enter Tryd.func27, Tryd.ntmps27
  go_wp2_with fail
  go_loopw [13] (fun x wr => ∃ j : Nat, x = .int .i64 j ∧ j ≤ l.length ∧ Below w.heap.size w wr) (fun x _ => l.length - (intOf x).toNat)
  case atStart => exact ⟨0, rfl, Nat.zero_le _, Below.refl _ _⟩
  case round =>
    obtain ⟨j, rfl, hj, hb⟩ := hrel
    have HB := hide hb
    clear hb
    by_cases hlt : j < l.length
    · obtain ⟨x, hx⟩ : ∃ x, l[j]? = some x := ⟨l[j], List.getElem?_eq_getElem hlt⟩
      have hne : l ≠ [] := by intro e; rw [e] at hlt; cases hlt
      obtain ⟨g1, off1, cc1, he1, hg1, hc1⟩ := ((unhide H1).below (unhide HB)).at_ hne
      obtain ⟨g2, off2, cc2, he2, hg2, hc2⟩ := ((unhide H2).below (unhide HB)).at_ hne
      cases he1
      cases he2
      obtain ⟨a0, a1⟩ := hc1 j x hx
      obtain ⟨b0, b1⟩ := hc2 j x hx
      obtain ⟨p, hp⟩ : ∃ p, mk x.1 = p := ⟨_, rfl⟩
      obtain ⟨q, hq⟩ : ∃ q, mk x.2 = q := ⟨_, rfl⟩
      rw [hp] at a0 b0
      rw [hq] at a1 b1
      have hI : (j : Int) < l.length := by omega
      clear hx hp hq hc1 hc2
      go_wp2_with fail
      go_quiet (fail)
      go_wp2
      exact ⟨⟨j + 1, by go_num, by omega, Go.below_drewN (unhide HB) _⟩, by simp [intOf]; omega⟩
    · obtain rfl : j = l.length := by omega
      go_wp2
      go_ret
      exact ⟨rfl, unhide HB⟩
set_option maxHeartbeats 4000000 in
theorem same_any (m t : List UInt8) (v u : Value) (fs : List Fl) (w : World) (h1 : Flds w v fs) (h2 : Flds w u fs) :
    Calls Tryd.prog 8 #[headV m t v, headV m t u] w fun e w' => e = .returned (.bool true) ∧ Below w.heap.size w w' := by
  unfold headV
  have HE := hide (fun W (b : Below w.heap.size w W) => equal_flds W v u fs (h1.below b) (h2.below b))
  obtain ⟨o1, c1, rfl, _⟩ := h1.form
  obtain ⟨o2, c2, rfl, _⟩ := h2.form
  clear h1 h2
  obtain ⟨x, hx⟩ : ∃ x, mk m = x := ⟨_, rfl⟩
  obtain ⟨y, hy⟩ : ∃ y, mk t = y := ⟨_, rfl⟩
  rw [hx, hy]
  clear hx hy
  have X1 := HX.new (base := w.heap.size) w (Nat.le_refl _) x y o1 fs.length c1
  have bb1 := (Below.refl w.heap.size w).alloc (Nat.le_refl _) (.cells #[.string x, .string y, .slice o1 fs.length c1] 24)
  obtain ⟨W1, hW1⟩ : ∃ W, w.alloc (.cells #[.string x, .string y, .slice o1 fs.length c1] 24) = W := ⟨_, rfl⟩
  rw [hW1] at X1 bb1
  have X2 := HX.new (base := W1.heap.size) W1 (Nat.le_refl _) x y o2 fs.length c2
  have bb2 := (Below.refl W1.heap.size W1).alloc (Nat.le_refl _) (.cells #[.string x, .string y, .slice o2 fs.length c2] 24)
  obtain ⟨g2, hg2⟩ : ∃ g, W1.heap.size = g := ⟨_, rfl⟩
  obtain ⟨W2, hW2⟩ : ∃ W, W1.alloc (.cells #[.string x, .string y, .slice o2 fs.length c2] 24) = W := ⟨_, rfl⟩
  have Y1 := X1.below bb2
  rw [hW2] at X2 bb2 Y1
  have B2 := hide (bel_trans bb1 bb2)
  rw [hg2] at X2
  obtain ⟨a0, a1, a2⟩ := Y1.cells
  obtain ⟨b0, b1, b2⟩ := X2.cells
  clear X1 X2 Y1 bb1 bb2
  go_enter Tryd.func8, Tryd.ntmps8
  go_wp2_with fail
  clear hW1 hW2 hg2
  refine ((unhide HE) W2 (unhide B2)).mono ?_; rintro e w3 ⟨rfl, b3⟩
  go_wp2_with fail
  go_ret
  exact ⟨rfl, bel_trans (unhide B2) b3⟩
end Go.Proofs.YtmgealcolofomaaDoor
