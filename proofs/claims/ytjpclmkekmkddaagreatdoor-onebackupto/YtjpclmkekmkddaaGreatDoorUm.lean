/- Walks: a request as bytes. -/
import Derived.Test.YtjpclmkekmkddaaGreatDoorUl
import Derived.Test.YtjpclmkekmkddaaGreatDoorUk
import Derived.Test.YtjpclmkekmkddaaGreatDoorTf
import Derived.BigQuiet
namespace Go.Proofs.YtjpclmkekmkddaaGreatDoor
open Go.RowKit Kb
set_option linter.unusedVariables false
set_option maxRecDepth 20000
open Mh (Fl)
namespace On
def askedP (m t : L8) (fs : List Fl) (b : L8) (zs : List Int) : Option L8 :=
  if Mh.check m t fs ≠ 0 ∨ (Cu.sizeOf fs).2.2 ≠ 0 ∨ 4096 < (Mh.text m t fs).length ∨ 4096 < b.length then none
  else if (Cu.sizeOf fs).1 = 3 then some (Mh.text m t fs ++ Cu.chunked zs b)
  else if ((Cu.sizeOf fs).1 = 1 ∧ b = []) ∨ ((Cu.sizeOf fs).1 = 2 ∧ (Cu.sizeOf fs).2.1 = b.length) then some (Mh.text m t fs ++ b) else none
theorem asked_ok {m t : L8} {fs : List Fl} {b : L8} {zs : List Int} {l : L8} (h : askedP m t fs b zs = some l) :
    (∀ more, oneB 4096 4096 40 (l ++ more) = .ok ((m, t, fs, b), l.length)) ∧ l.length ≤ 4096 + 12 * 4096 + 5 ∧ fs.length ≤ 30 := by
  unfold askedP at h
  split at h
  · cases h
  rename_i h1
  have hc : Mh.check m t fs = 0 := Classical.byContradiction fun e => h1 (.inl e)
  have hz : (Cu.sizeOf fs).2.2 = 0 := Classical.byContradiction fun e => h1 (.inr (.inl e))
  have hl : (Mh.text m t fs).length ≤ 4096 := by omega
  have hb : b.length ≤ 4096 := by omega
  have hfs := (Mh.check_ok hc).2.2.2.1
  have hcl := Cu.chunked_len zs b (by omega)
  have hob : ∀ l' : L8, oneB 4096 4096 40 l' = one 4096 4096 l' := fun l' => by unfold oneB; rw [if_neg (by decide)]; rfl
  obtain ⟨⟨k, sz, e⟩, hr⟩ : ∃ r, Cu.sizeOf fs = r := ⟨_, rfl⟩
  rw [hr] at h hz
  dsimp only at h hz
  subst hz
  split at h
  · rename_i h3
    cases h
    subst h3
    refine ⟨fun more => ?_, by rw [List.length_append]; omega, hfs⟩
    rw [hob]
    exact one_text hc hl (Nat.le_refl _) hr _ more (body_chunks zs (by omega) (by omega))
  · split at h
    · rename_i h3 h4
      cases h
      refine ⟨fun more => ?_, by rw [List.length_append]; omega, hfs⟩
      rw [hob]
      rcases h4 with ⟨h5, h6⟩ | ⟨h5, h6⟩
      · subst h5 h6
        exact one_text hc hl (Nat.le_refl _) hr _ more body_none
      · subst h5 h6
        exact one_text hc hl (Nat.le_refl _) hr _ more (body_len (by omega))
    · cases h
end On
set_option maxHeartbeats 4000000 in
theorem asked_any (m t : List UInt8) (u : Value) (fs : List Fl) (d : ByteArray) (v : Value) (zs : List Int) (w : World) (hu : Flds w u fs) (hz : m.length + t.length ≤ 1048576 ∧ fs.length ≤ 1048576 ∧ ∀ f ∈ fs, f.1.length + f.2.length ≤ 1048576) (hd : d.size ≤ 1048576) (hI : Ints w v zs) (hT : DB w)
    (o : Option (List UInt8)) (ho : On.askedP m t fs d.data.toList zs = o) :
    Calls Tryz.prog 15 #[.agg #[.string (mk m), .string (mk t), u, .string d], v] w fun e w' => e = .returned (.tuple #[.string (mk (o.getD [])), .bool o.isSome]) ∧ Below w.heap.size w w' := by
  obtain ⟨hmt, hfl, hff⟩ := hz
  have hff' : ∀ f ∈ fs, f.1.length + f.2.length ≤ 68719476736 := fun f hf => by have := hff f hf; omega
  have HP1 := hide (fun (h0 : Mh.check m t fs = 0) W (h : Below w.heap.size w W) => hprint_ok m t u fs W (hu.below h) h0)
  have HP2 := hide (fun (h0 : Mh.check m t fs ≠ 0) W (h : Below w.heap.size w W) => hprint_bad m t u fs _ W (hu.below h) (by omega) hff' rfl h0)
  have HOF := hide (fun W (h : Below w.heap.size w W) => of_any m t u fs W (hu.below h) hff' (by omega) _ rfl)
  have HCD := hide (fun W (h : Below w.heap.size w W) => chunked_any d v zs W (hI.below h) (hT.below h) (by omega) _ rfl)
  unfold On.askedP at ho
  obtain ⟨⟨k, sz, e3⟩, hr⟩ : ∃ r, Cu.sizeOf fs = r := ⟨_, rfl⟩
  rw [hr] at HOF ho
  dsimp only at HOF ho
  obtain ⟨z, hzz⟩ : ∃ z, Mh.check m t fs = z := ⟨_, rfl⟩
  obtain ⟨p, hp⟩ := ex_list (Mh.text m t fs)
  obtain ⟨c, hc⟩ := ex_list (Cu.chunked zs d.data.toList)
  rw [hzz] at HP1 HP2 ho
  rw [← hp] at HP1 ho
  rw [← hc] at HCD ho
  rw [mk_data] at HP1 HCD
  rw [len_data, len_data] at ho
  have HTL := hide (fun (h0 : z = 0) => (by have := Mh.text_len (hzz.trans h0); rw [← hp, len_data] at this; exact this : p.size ≤ 40000))
  have HCL := hide (by have := Cu.chunked_len zs d.data.toList (by rw [len_data]; omega); rw [← hc, len_data, len_data] at this; exact this : c.size ≤ 12 * d.size + 5)
  unfold headV at HP1 HP2 HOF
  obtain ⟨uo, uc, rfl, _⟩ := hu.form
  obtain ⟨vo, vc, rfl, _⟩ := hI.form
  obtain ⟨x, hx⟩ : ∃ x, mk m = x := ⟨_, rfl⟩
  obtain ⟨y, hy⟩ : ∃ y, mk t = y := ⟨_, rfl⟩
  rw [hx, hy] at HP1 HP2 HOF ⊢
  have HO := hide ho
  clear hx hy hp hc hzz hr ho hu hI hT hff hff' hmt hfl
  have X0 := hide (QX.new (base := w.heap.size) w (Nat.le_refl _) x y uo fs.length uc d)
  have B0 := hide ((Below.refl w.heap.size w).alloc (Nat.le_refl _) (.cells #[.string x, .string y, .slice uo fs.length uc, .string d] 30))
  obtain ⟨W0, hW0⟩ : ∃ W, w.alloc (.cells #[.string x, .string y, .slice uo fs.length uc, .string d] 30) = W := ⟨_, rfl⟩
  rw [hW0] at X0 B0
  obtain ⟨x0, x1, x2, x3⟩ := (unhide X0).cells
  have HPZ : Hid (∃ s : ByteArray, (∀ W (h : Below w.heap.size w W), Calls Tryz.prog 27 #[.agg #[.string x, .string y, .slice uo fs.length uc]] W fun e w' => e = .returned (.tuple #[.string s, .int .i64 z]) ∧ Below W.heap.size W w') ∧ (z = 0 → s = p)) := hide (by
    by_cases h0 : z = 0
    · exact ⟨p, fun W h => by have := (unhide HP1) h0 W h; rw [h0]; exact this, fun _ => rfl⟩
    · exact ⟨⟨#[]⟩, fun W h => (unhide HP2) h0 W h, fun h => absurd h h0⟩)
  obtain ⟨s, hs1, hs2⟩ := unhide HPZ
  have HPR := hide hs1
  have HSP := hide hs2
  clear hs1 hs2 HPZ HP1 HP2
  go_enter Tryz.func15, Tryz.ntmps15
  go_wp2_with fail
  clear hW0 x0 x1 x2 x3
  refine ((unhide HPR) W0 (unhide B0)).mono ?_; rintro e w1 ⟨rfl, b1⟩
  have X1 := hide ((unhide X0).below b1)
  have B1 := hide (bel_trans (unhide B0) b1)
  obtain ⟨x0, x1, x2, x3⟩ := (unhide X1).cells
  clear b1 X0 B0 HPR
  go_wp2_with fail
  refine ((unhide HOF) w1 (unhide B1)).mono ?_; rintro e w2 ⟨rfl, b2⟩
  have K2 := BX.new (base := w2.heap.size) w2 (Nat.le_refl _) k sz
  have bb := (Below.refl w2.heap.size w2).alloc (Nat.le_refl _) (.cells #[.int .i64 k, .int .i64 sz] 50)
  obtain ⟨g2, hg2⟩ : ∃ g, w2.heap.size = g := ⟨_, rfl⟩
  obtain ⟨W2, hW2⟩ : ∃ W, w2.alloc (.cells #[.int .i64 k, .int .i64 sz] 50) = W := ⟨_, rfl⟩
  rw [hW2] at K2 bb
  rw [hg2] at K2
  have X2 := hide (((unhide X1).below b2).below bb)
  have B2 := hide (bel_trans (bel_trans (unhide B1) b2) bb)
  obtain ⟨k0, k1⟩ := K2.cells
  clear b2 bb X1 B1 HOF x0 x1 x2 x3
  obtain ⟨x0, x1, x2, x3⟩ := (unhide X2).cells
  have e0 : mk [] = ByteArray.empty := rfl
  by_cases h0 : z = 0
  case neg =>
    have hz0 : (z != 0) = true := by simpa using h0
    have HE : Hid (o = none) := hide (by rw [← unhide HO]; exact if_pos (.inl h0))
    clear HO h0
    go_wp2_with fail
    go_ret2
    exact ⟨by rw [unhide HE]; rfl, unhide B2⟩
  have hz0 : (z != 0) = false := by simpa using h0
  obtain rfl := (unhide HSP) h0
  have hpl := (unhide HTL) h0
  by_cases h1 : e3 = 0
  case neg =>
    have hz1 : (e3 != 0) = true := by simpa using h1
    have HE : Hid (o = none) := hide (by rw [← unhide HO]; exact if_pos (.inr (.inl h1)))
    clear HO h0 h1
    go_wp2_with fail
    go_ret2
    exact ⟨by rw [unhide HE]; rfl, unhide B2⟩
  have hz1 : (e3 != 0) = false := by simpa using h1
  by_cases h2 : 4096 < s.size
  · have h2I : (4096 : Int) < s.size := by omega
    have HE : Hid (o = none) := hide (by rw [← unhide HO]; exact if_pos (.inr (.inr (.inl h2))))
    clear HO h0 h1
    go_wp2_with fail
    go_ret2
    exact ⟨by rw [unhide HE]; rfl, unhide B2⟩
  have h2I : ¬ (4096 : Int) < s.size := by omega
  by_cases h3 : 4096 < d.size
  · have h3I : (4096 : Int) < d.size := by omega
    have HE : Hid (o = none) := hide (by rw [← unhide HO]; exact if_pos (.inr (.inr (.inr h3))))
    clear HO h0 h1
    go_wp2_with fail
    go_ret2
    exact ⟨by rw [unhide HE]; rfl, unhide B2⟩
  have h3I : ¬ (4096 : Int) < d.size := by omega
  have HO2 := unhide HO
  rw [if_neg (by intro h; rcases h with h | h | h | h; exact h h0; exact h h1; exact h2 h; exact h3 h)] at HO2
  clear HO h0 h1
  have HCL2 := unhide HCL
  by_cases hk3 : k = 3
  · subst hk3
    rw [if_pos rfl] at HO2
    have HE : Hid (s ++ c = mk (o.getD []) ∧ o.isSome = true) := hide (by
      rw [← HO2]
      exact ⟨by apply eq_of_lists; rw [cat_data]; simp [mk], rfl⟩)
    clear HO2
    go_wp2_with fail
    clear hW2 hg2
    refine ((unhide HCD) W2 (unhide B2)).mono ?_; rintro e w3 ⟨rfl, b3⟩
    go_wp2_with fail
    go_ret2
    exact ⟨by rw [(unhide HE).1, (unhide HE).2]; rfl, bel_trans (unhide B2) b3⟩
  rw [if_neg hk3] at HO2
  have hk3b : (k == 3) = false := by simpa using hk3
  by_cases hk1 : k = 1
  · subst hk1
    by_cases hd0 : d.size = 0
    · have hde : d = ByteArray.empty := by apply eq_of_lists; exact List.length_eq_zero_iff.1 (by rw [len_data]; exact hd0)
      rw [if_pos (.inl ⟨rfl, by rw [hde]; rfl⟩)] at HO2
      have HE : Hid (s ++ d = mk (o.getD []) ∧ o.isSome = true) := hide (by
        rw [← HO2]
        exact ⟨by apply eq_of_lists; rw [cat_data]; simp [mk], rfl⟩)
      have hdl : d.toList = [] := by rw [Lib.toList_data, hde]; rfl
      have hdb : (d.toList == []) = true := by rw [hdl]; rfl
      have hdi : d.toList.isEmpty = true := by rw [hdl]; rfl
      clear HO2 hde hdl
      go_wp2_with fail
      go_ret2
      exact ⟨by rw [(unhide HE).1, (unhide HE).2]; rfl, unhide B2⟩
    · have hdl : d.data.toList ≠ [] := by intro e; apply hd0; have := congrArg List.length e; simpa using this
      rw [if_neg (by rintro (h | h); exact hdl h.2; exact absurd h.1 (by decide))] at HO2
      have HE : Hid (o = none) := hide HO2.symm
      have hdb : (d.toList == []) = false := by rw [Lib.toList_data]; simpa using hdl
      have hdi : d.toList.isEmpty = false := by rw [Lib.toList_data]; simpa using hdl
      clear HO2 hdl
      go_wp2_with fail
      go_ret2
      exact ⟨by rw [unhide HE]; rfl, unhide B2⟩
  have hk1b : (k == 1) = false := by simpa using hk1
  by_cases hk2 : k = 2
  · subst hk2
    by_cases hs2 : sz = d.size
    · subst hs2
      rw [if_pos (.inr ⟨rfl, rfl⟩)] at HO2
      have HE : Hid (s ++ d = mk (o.getD []) ∧ o.isSome = true) := hide (by
        rw [← HO2]
        exact ⟨by apply eq_of_lists; rw [cat_data]; simp [mk], rfl⟩)
      clear HO2
      go_wp2_with fail
      go_ret2
      exact ⟨by rw [(unhide HE).1, (unhide HE).2]; rfl, unhide B2⟩
    · rw [if_neg (by rintro (h | h); exact absurd h.1 (by decide); exact hs2 h.2)] at HO2
      have HE : Hid (o = none) := hide HO2.symm
      have hsb : (sz == (d.size : Int)) = false := by simpa using hs2
      clear HO2
      go_wp2_with fail
      go_ret2
      exact ⟨by rw [unhide HE]; rfl, unhide B2⟩
  have hk2b : (k == 2) = false := by simpa using hk2
  rw [if_neg (by rintro (h | h); exact hk1 h.1; exact hk2 h.1)] at HO2
  have HE : Hid (o = none) := hide HO2.symm
  clear HO2
  go_wp2_with fail
  go_ret2
  exact ⟨by rw [unhide HE]; rfl, unhide B2⟩
end Go.Proofs.YtjpclmkekmkddaaGreatDoor
