/- Walks: a field is read, the first line is read (the program's). -/
import Derived.Test.YtmgealcolofomaaGreatDoorMj
import Derived.OwnWalk
namespace Go.Proofs.YtmgealcolofomaaGreatDoor
open Go.RowKit Kb
set_option linter.unusedVariables false
set_option maxRecDepth 20000
open Mh (Fl)

theorem cell_ltH {w : World} {a : Addr} {v : Value} (h : w.cell? a = some v) : a.block < w.heap.size := by
  unfold World.cell? at h
  split at h
  · rename_i hb; exact (Array.getElem?_eq_some_iff.1 hb).1
  · cases h
/-- the library's word for the longest needle lies where it lay -/
def MH (m : Int) (w : World) : Prop := w.cell? ⟨1, 0, none⟩ = some (.int .i64 m)
theorem MH.below {m : Int} {w w' : World} (h : MH m w) (b : Below w.heap.size w w') : MH m w' := cell_below h (cell_ltH (a := ⟨1, 0, none⟩) h) b
theorem hcut_any (c : UInt8) (s : ByteArray) (m : Int) (w : World) (hs : s.size < 4294967281) (hm : MH m w) (k : List UInt8 × List UInt8 × Bool) (hk : Lib.cut s.data.toList [c] = k) :
    Calls Tryz.prog 93 #[.string s, .string ⟨#[c]⟩] w fun e w' => e = .returned (.tuple #[.string (mk k.1), .string (mk k.2.1), .bool k.2.2]) ∧ Below w.heap.size w w' := by
  refine (Tryz.strings_Cut s ⟨#[c]⟩ m w hs hm).mono ?_
  rintro e w' ⟨rfl, n, rfl⟩
  subst hk
  exact ⟨rfl, Go.below_drewN (Below.refl _ _) _⟩
theorem cut_len (l : List UInt8) (t : List UInt8) : (Lib.cut l t).1.length ≤ l.length ∧ (Lib.cut l t).2.1.length ≤ l.length := by
  unfold Lib.cut
  split
  · refine ⟨?_, ?_⟩
    · rw [List.length_take]; omega
    · rw [List.length_drop]; omega
  · exact ⟨Nat.le_refl _, Nat.zero_le _⟩
def fst' (o : Option Fl) : List UInt8 := (o.getD ([], [])).1
def snd' (o : Option Fl) : List UInt8 := (o.getD ([], [])).2
set_option maxHeartbeats 2000000 in
theorem readField_any (s : ByteArray) (m : Int) (w : World) (hs : s.size ≤ 1073741824) (hm : MH m w) (o : Option Fl) (ho : Mh.fieldOf s.data.toList = o) :
    Calls Tryz.prog 64 #[.string s] w fun e w' => e = .returned (.tuple #[.agg #[.string (mk (fst' o)), .string (mk (snd' o))], .bool o.isSome]) ∧ Below w.heap.size w w' := by
  obtain ⟨⟨u, v, b⟩, hq⟩ : ∃ q, Lib.cut s.data.toList [58] = q := ⟨_, rfl⟩
  have hlen := cut_len s.data.toList [58]
  rw [hq, len_data] at hlen
  dsimp only at hlen
  have HC := hide (fun W (hW : MH m W) => hcut_any 58 s m W (by omega) hW _ hq)
  unfold Mh.fieldOf at ho
  rw [hq] at ho
  dsimp only at ho HC
  have HCL := hide (fun W => clone_any (mk u) W (by rw [mk_size]; omega))
  have HTR := hide (fun W => trim_any (mk v) W (by rw [mk_size]; omega))
  rw [mk_toList, show (⟨(trim v).toArray⟩ : ByteArray) = mk (trim v) from rfl] at HTR
  have X0 := hide (FX.new (base := w.heap.size) w (Nat.le_refl _) (⟨#[]⟩ : ByteArray) (⟨#[]⟩ : ByteArray))
  have b0 := (Below.refl w.heap.size w).alloc (Nat.le_refl _) (.cells #[.string (⟨#[]⟩ : ByteArray), .string (⟨#[]⟩ : ByteArray)] 39)
  have HM0 := hide (hm.below b0)
  have B0 := hide b0
  obtain ⟨W0, hW0⟩ : ∃ W0, w.alloc (.cells #[.string (⟨#[]⟩ : ByteArray), .string (⟨#[]⟩ : ByteArray)] 39) = W0 := ⟨_, rfl⟩
  rw [hW0] at X0 B0 HM0
  obtain ⟨x, hx⟩ : ∃ x, mk u = x := ⟨_, rfl⟩
  obtain ⟨y, hy⟩ : ∃ y, mk v = y := ⟨_, rfl⟩
  obtain ⟨z, hz⟩ : ∃ z, mk (trim v) = z := ⟨_, rfl⟩
  have HO : Hid ((b = false → fst' o = [] ∧ snd' o = [] ∧ o.isSome = false) ∧ (b = true → mk (fst' o) = x ∧ mk (snd' o) = z ∧ o.isSome = true)) := hide (by
    refine ⟨fun h => ?_, fun h => ?_⟩
    · subst h; rw [if_neg (by simp)] at ho; subst ho; exact ⟨rfl, rfl, rfl⟩
    · subst h; rw [if_pos rfl] at ho; subst ho; exact ⟨hx, hz, rfl⟩)
  rw [hx] at HC HCL
  rw [hy] at HC HTR
  rw [hz] at HTR
  have done : ∀ (W : World) (g : Nat) (a b : ByteArray), g = w.heap.size → FX W w.heap.size g a b → Below w.heap.size w W → ∀ a' b' : ByteArray, Below w.heap.size w (putF W g a' b') := fun W g a b hg hX hB a' b' => hB.grown (hX.put a' b').2 hB.size (fun q hq => by have := Option.some.inj hq; omega)
  clear ho hq hx hy hz b0 hm
  go_enter Tryz.func64, Tryz.ntmps64
  go_wp2_with fail
  clear hW0
  refine ((unhide HC) W0 (unhide HM0)).mono ?_; rintro e w1 ⟨rfl, b1⟩
  have B1 := hide (bel_trans (unhide B0) b1)
  have X1 := hide ((unhide X0).below b1)
  clear b1 B0 X0 HM0 HC
  cases b
  · have HEE := hide ((unhide HO).1 rfl)
    obtain ⟨y0, y1⟩ := (unhide X1).cells
    obtain ⟨h0, h1⟩ := (unhide X1).frozen
    have P1 := hide ((unhide X1).loaded (⟨#[]⟩ : ByteArray) (⟨#[]⟩ : ByteArray))
    have P2 := hide (done w1 _ _ _ rfl (unhide X1) (unhide B1) (⟨#[]⟩ : ByteArray) (⟨#[]⟩ : ByteArray))
    clear done HO
    go_wp2_with fail
    (try simp only [Exit.inBlock, Exit.then])
    refine bodyPost_ret_by (v := .tuple #[.agg #[.string (⟨#[]⟩ : ByteArray), .string (⟨#[]⟩ : ByteArray)], .bool false]) ?_ rfl ⟨by rw [(unhide HEE).1, (unhide HEE).2.1, (unhide HEE).2.2]; rfl, unhide P2⟩
    refine results_ct (p := 2) (u := 3) (ty := 39) ?_ _ _ w.heap.size _ ?_ (unhide P1) _ ?_ <;> rfl
  · have HEE := hide ((unhide HO).2 rfl)
    clear HO
    go_wp2_with fail
    refine ((unhide HCL) w1).mono ?_; rintro e w2 ⟨rfl, b2⟩
    have B2 := hide (bel_trans (unhide B1) b2)
    have X2 := hide ((unhide X1).below b2)
    clear b2 B1 X1 HCL
    go_wp2_with fail
    refine ((unhide HTR) w2).mono ?_; rintro e w3 ⟨rfl, b3⟩
    have B3 := hide (bel_trans (unhide B2) b3)
    have X3 := hide ((unhide X2).below b3)
    clear b3 B2 X2 HTR
    obtain ⟨y0, y1⟩ := (unhide X3).cells
    obtain ⟨h0, h1⟩ := (unhide X3).frozen
    have P1 := hide ((unhide X3).loaded x z)
    have P2 := hide (done w3 _ _ _ rfl (unhide X3) (unhide B3) x z)
    clear done
    go_wp2_with fail
    (try simp only [Exit.inBlock, Exit.then])
    refine bodyPost_ret_by (v := .tuple #[.agg #[.string x, .string z], .bool true]) ?_ rfl ⟨by rw [(unhide HEE).1, (unhide HEE).2.1, (unhide HEE).2.2], unhide P2⟩
    refine results_ct (p := 2) (u := 3) (ty := 39) ?_ _ _ w.heap.size _ ?_ (unhide P1) _ ?_ <;> rfl
theorem pc_one (c : UInt8) (l : List UInt8) : Mh.pc [c] l = Cs.cut c l := Cs.split_cut c _ l (Nat.le_refl _)
set_option maxHeartbeats 4000000 in
theorem readFirst_any (s : ByteArray) (m : Int) (w : World) (hs : s.size ≤ 1073741824) (hm : MH m w) (o : Option Fl) (ho : Mh.firstOf s.data.toList = o) :
    Calls Tryz.prog 63 #[.string s] w fun e w' => e = .returned (.tuple #[.agg #[.string (mk (fst' o)), .string (mk (snd' o)), .slice none 0 0], .bool o.isSome]) ∧ Below w.heap.size w w' := by
  have HSP := hide (fun W (hW : MH m W) => split_s ⟨#[32]⟩ s m W (by omega) (by show 1 ≤ 1; decide) hW)
  rw [show (⟨#[32]⟩ : ByteArray).data.toList = [32] from rfl, pc_one] at HSP
  have hml : ∀ p ∈ Cs.cut 32 s.data.toList, p.length ≤ s.size := fun p hp => by
    have := Mh.pc_mem_len (t := [32]) (by simp) s.data.toList p (by rw [pc_one]; exact hp)
    rwa [len_data] at this
  have hcl := Mh.pc_len (t := [32]) (by simp) s.data.toList
  rw [pc_one, len_data] at hcl
  unfold Mh.firstOf at ho
  obtain ⟨cs, hcs⟩ : ∃ cs, Cs.cut 32 s.data.toList = cs := ⟨_, rfl⟩
  rw [hcs] at HSP hml hcl ho
  clear hcs
  have X0 := hide (HX.new (base := w.heap.size) w (Nat.le_refl _) (⟨#[]⟩ : ByteArray) (⟨#[]⟩ : ByteArray) none 0 0)
  have b0 := (Below.refl w.heap.size w).alloc (Nat.le_refl _) (.cells #[.string (⟨#[]⟩ : ByteArray), .string (⟨#[]⟩ : ByteArray), .slice none 0 0] 24)
  have HM0 := hide (hm.below b0)
  have B0 := hide b0
  obtain ⟨W0, hW0⟩ : ∃ W0, w.alloc (.cells #[.string (⟨#[]⟩ : ByteArray), .string (⟨#[]⟩ : ByteArray), .slice none 0 0] 24) = W0 := ⟨_, rfl⟩
  rw [hW0] at X0 B0 HM0
  have done : ∀ (W : World) (g : Nat) (a b : ByteArray) (v : Value), g = w.heap.size → HX W w.heap.size g a b v → Below w.heap.size w W → ∀ (a' b' : ByteArray), Below w.heap.size w (putH W g a' b' (.slice none 0 0)) := fun W g a b v hg hX hB a' b' => hB.grown (hX.put a' b' _ rfl).2 hB.size (fun q hq => by have := Option.some.inj hq; omega)
  have HO := hide ho
  have HML := hide hml
  clear b0 hm ho hml
  go_enter Tryz.func63, Tryz.ntmps63
  go_wp2_with fail
  clear hW0
  refine ((unhide HSP) W0 (unhide HM0)).mono ?_; rintro e w1 ⟨rfl, hw1⟩
  have b1 : Below W0.heap.size W0 w1 := by rw [hw1]; exact (Below.refl _ _).alloc (Nat.le_refl _) _
  have HC1 : Hid (∀ j p, cs[j]? = some p → w1.cell? ⟨W0.heap.size, j, none⟩ = some (.string (mk p))) := hide (by
    intro j p hp
    rw [hw1, World.cell?_alloc_new W0 _ _ j]; simp [cellsS, hp])
  have hg1 : W0.heap.size < w1.heap.size := by rw [hw1]; simp
  have B1 := hide (bel_trans (unhide B0) b1)
  have X1 := hide ((unhide X0).below b1)
  clear b1 hw1 B0 X0 HM0 HSP
  by_cases h3 : cs.length = 3
  · match cs, h3 with
    | [p0, p1, p2], _ =>
      have c0 := (unhide HC1) 0 p0 rfl
      have c1 := (unhide HC1) 1 p1 rfl
      have c2 := (unhide HC1) 2 p2 rfl
      have hp0 := (unhide HML) p0 (by simp)
      have hp1 := (unhide HML) p1 (by simp)
      have hh : (mk p2 = ⟨#[72, 84, 84, 80, 47, 49, 46, 49]⟩) ↔ p2 = Mh.http := ⟨fun e => by have := congrArg (fun q : ByteArray => q.data.toList) e; rw [mk_toList] at this; exact this, fun e => by rw [e]; rfl⟩
      obtain ⟨x0, hx0⟩ : ∃ x, mk p0 = x := ⟨_, rfl⟩
      obtain ⟨x1, hx1⟩ : ∃ x, mk p1 = x := ⟨_, rfl⟩
      obtain ⟨x2, hx2⟩ : ∃ x, mk p2 = x := ⟨_, rfl⟩
      rw [hx0] at c0
      rw [hx1] at c1
      rw [hx2] at c2 hh
      have hs0 : x0.size ≤ 1073741824 := by rw [← hx0, mk_size]; omega
      have hs1 : x1.size ≤ 1073741824 := by rw [← hx1, mk_size]; omega
      by_cases hp : p2 = Mh.http
      · have hxe := hh.2 hp
        have ho : o = some (p0, p1) := by
          have := unhide HO
          rw [if_pos ⟨rfl, hp⟩] at this; exact this.symm
        have e1 : mk (fst' o) = x0 := by rw [ho]; exact hx0
        have e2 : mk (snd' o) = x1 := by rw [ho]; exact hx1
        have e3 : o.isSome = true := by rw [ho]; rfl
        have HEE : Hid (mk (fst' o) = x0 ∧ mk (snd' o) = x1 ∧ o.isSome = true) := hide ⟨e1, e2, e3⟩
        have hb : (x2.toList == [72, 84, 84, 80, 47, 49, 46, 49]) = true := by rw [hxe, Lib.toList_data]; rfl
        have HFACT : Hid (∀ W, Below w1.heap.size w1 W → (W.cell? ⟨W0.heap.size, 0, none⟩ = some (.string x0) ∧ W.cell? ⟨W0.heap.size, 1, none⟩ = some (.string x1)) ∧ (W.cell? ⟨w.heap.size, 0, none⟩ = some (.string (⟨#[]⟩ : ByteArray)) ∧ W.cell? ⟨w.heap.size, 1, none⟩ = some (.string (⟨#[]⟩ : ByteArray)) ∧ W.cell? ⟨w.heap.size, 2, none⟩ = some (.slice none 0 0)) ∧ (W.frozen? ⟨w.heap.size, 0, none⟩ = false ∧ W.frozen? ⟨w.heap.size, 1, none⟩ = false ∧ W.frozen? ⟨w.heap.size, 2, none⟩ = false)) :=
          hide (fun W h => ⟨⟨cell_below c0 hg1 h, cell_below c1 hg1 h⟩, ((unhide X1).below h).cells, ((unhide X1).below h).frozen⟩)
        have HFIN : Hid (∀ W, Below w1.heap.size w1 W → (loadVar 24 ⟨w.heap.size, 0, none⟩).run Tryz.prog (putH W w.heap.size x0 x1 (.slice none 0 0)) = .ok (.agg #[.string x0, .string x1, .slice none 0 0]) (putH W w.heap.size x0 x1 (.slice none 0 0)) ∧ Below w.heap.size w (putH W w.heap.size x0 x1 (.slice none 0 0))) :=
          hide (fun W h => ⟨((unhide X1).below h).loaded x0 x1 none 0 0, done W _ _ _ _ rfl ((unhide X1).below h) (bel_trans (unhide B1) h) x0 x1⟩)
        have HCLG : ∀ (x : ByteArray) W, x.size ≤ 1073741824 → Below w1.heap.size w1 W → Calls Tryz.prog 21 #[.string x] W fun e W' => e = .returned (.string x) ∧ Below w1.heap.size w1 W' := fun x W hx h => (clone_any x W (by omega)).mono fun e W' k => ⟨k.1, bel_trans h k.2⟩
        obtain ⟨y0, y1, y2⟩ := (unhide X1).cells
        obtain ⟨f0, f1, f2⟩ := (unhide X1).frozen
        have s1 : Below w1.heap.size w1 w1.drew := (Below.refl _ _).drew
        obtain ⟨Sb, hSb⟩ : ∃ Q : World → Prop, Below w1.heap.size w1 = Q := ⟨_, rfl⟩
        rw [hSb] at s1
        have FCL : Hid (∀ (x : ByteArray) W, x.size ≤ 1073741824 → Sb W → Calls Tryz.prog 21 #[.string x] W fun e W' => e = .returned (.string x) ∧ Sb W') := hide (by rw [← hSb]; exact HCLG)
        have FF : Hid (∀ W, Sb W → (W.cell? ⟨W0.heap.size, 0, none⟩ = some (.string x0) ∧ W.cell? ⟨W0.heap.size, 1, none⟩ = some (.string x1)) ∧ (W.cell? ⟨w.heap.size, 0, none⟩ = some (.string (⟨#[]⟩ : ByteArray)) ∧ W.cell? ⟨w.heap.size, 1, none⟩ = some (.string (⟨#[]⟩ : ByteArray)) ∧ W.cell? ⟨w.heap.size, 2, none⟩ = some (.slice none 0 0)) ∧ (W.frozen? ⟨w.heap.size, 0, none⟩ = false ∧ W.frozen? ⟨w.heap.size, 1, none⟩ = false ∧ W.frozen? ⟨w.heap.size, 2, none⟩ = false)) := hide (by rw [← hSb]; exact unhide HFACT)
        have FFIN : Hid (∀ W, Sb W → (loadVar 24 ⟨w.heap.size, 0, none⟩).run Tryz.prog (putH W w.heap.size x0 x1 (.slice none 0 0)) = .ok (.agg #[.string x0, .string x1, .slice none 0 0]) (putH W w.heap.size x0 x1 (.slice none 0 0)) ∧ Below w.heap.size w (putH W w.heap.size x0 x1 (.slice none 0 0))) := hide (by rw [← hSb]; exact unhide HFIN)
        clear hh hx0 hx1 hx2 hp hp0 hp1 hSb HCLG HFACT HFIN done ho e1 e2 e3 HO HML HC1 B1 X1
        go_wp2_with fail
        go_region_law (go_simp; go_at_call 21; refine ((unhide FCL) _ _ (by assumption) (by assumption)).mono ?_; rintro e w5 ⟨rfl, s5⟩; obtain ⟨⟨q0, q1⟩, ⟨y0, y1, y2⟩, ⟨f0, f1, f2⟩⟩ := (unhide FF) _ s5)
        all_goals (
          go_wp2_with fail
          (try simp only [Exit.inBlock, Exit.then])
          refine bodyPost_ret_by (v := .tuple #[.agg #[.string x0, .string x1, .slice none 0 0], .bool true]) ?_ rfl ⟨by rw [(unhide HEE).1, (unhide HEE).2.1, (unhide HEE).2.2], ?_⟩
          rotate_left 1
          · exact ((unhide FFIN) _ s5).2
          refine results_ct (p := 2) (u := 3) (ty := 24) ?_ _ _ w.heap.size _ ?_ ((unhide FFIN) _ s5).1 _ ?_ <;> rfl)
      · have hxf := fun e => hp (hh.1 e)
        have hb : (x2.toList == [72, 84, 84, 80, 47, 49, 46, 49]) = false := str_fl (l := [72, 84, 84, 80, 47, 49, 46, 49]) hxf
        have HEE : Hid (mk (fst' o) = ⟨#[]⟩ ∧ mk (snd' o) = ⟨#[]⟩ ∧ o.isSome = false) := hide (by
          have ho := unhide HO
          rw [if_neg (fun h => hp h.2)] at ho
          subst ho; exact ⟨rfl, rfl, rfl⟩)
        obtain ⟨y0, y1, y2⟩ := (unhide X1).cells
        obtain ⟨f0, f1, f2⟩ := (unhide X1).frozen
        have P1 := hide ((unhide X1).loaded ⟨#[]⟩ ⟨#[]⟩ none 0 0)
        have P2 := hide (done w1 _ _ _ _ rfl (unhide X1) (unhide B1) ⟨#[]⟩ ⟨#[]⟩)
        clear hh hx0 hx1 hx2 hp hp0 hp1 hxf done HO HML HC1
        go_wp2_with fail
        (try simp only [Exit.inBlock, Exit.then])
        refine bodyPost_ret_by (v := .tuple #[.agg #[.string ⟨#[]⟩, .string ⟨#[]⟩, .slice none 0 0], .bool false]) ?_ rfl ⟨by rw [(unhide HEE).1, (unhide HEE).2.1, (unhide HEE).2.2], unhide P2⟩
        refine results_ct (p := 2) (u := 3) (ty := 24) ?_ _ _ w.heap.size _ ?_ (unhide P1) _ ?_ <;> rfl
  · have HEE : Hid (mk (fst' o) = ⟨#[]⟩ ∧ mk (snd' o) = ⟨#[]⟩ ∧ o.isSome = false) := hide (by
      have ho := unhide HO
      rw [if_neg (fun h => h3 h.1)] at ho
      subst ho; exact ⟨rfl, rfl, rfl⟩)
    have h3' : ((cs.length : Int) != 3) = true := bne_iff_ne.2 (by omega)
    obtain ⟨y0, y1, y2⟩ := (unhide X1).cells
    obtain ⟨f0, f1, f2⟩ := (unhide X1).frozen
    have P1 := hide ((unhide X1).loaded ⟨#[]⟩ ⟨#[]⟩ none 0 0)
    have P2 := hide (done w1 _ _ _ _ rfl (unhide X1) (unhide B1) ⟨#[]⟩ ⟨#[]⟩)
    clear done HO HML HC1 h3
    go_wp2_with fail
    (try simp only [Exit.inBlock, Exit.then])
    refine bodyPost_ret_by (v := .tuple #[.agg #[.string ⟨#[]⟩, .string ⟨#[]⟩, .slice none 0 0], .bool false]) ?_ rfl ⟨by rw [(unhide HEE).1, (unhide HEE).2.1, (unhide HEE).2.2], unhide P2⟩
    refine results_ct (p := 2) (u := 3) (ty := 24) ?_ _ _ w.heap.size _ ?_ (unhide P1) _ ?_ <;> rfl
end Go.Proofs.YtmgealcolofomaaGreatDoor
