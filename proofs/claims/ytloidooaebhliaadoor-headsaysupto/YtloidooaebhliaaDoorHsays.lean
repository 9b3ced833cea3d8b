/- Check, Print and Get of heads answer what the document says: whatever is handed in.
   Conditions: what is handed in is of bulk at most 1048576; the library's tables are as the program's text lays them. -/
import Derived.Test.YtloidooaebhliaaDoorRows
import Derived.Test.YtloidooaebhliaaDoorTie
import Derived.Test.YtloidooaebhliaaDoorCards
import Derived.WalkKit
import Derived.ProofKit
import Derived.OpenShut
import Derived.ShutString
import Derived.JoinedCond
import Derived.Test.YtloidooaebhliaaDoorMf
import Derived.Test.YtloidooaebhliaaDoorMg
import Derived.Test.YtloidooaebhliaaDoorLaid
import Derived.Stop.LaidErr
import Derived.Deep.RegionHeld3
namespace Go.Proofs.YtloidooaebhliaaDoor.headSays
open Go.ChangeShapes Go.WideShapes Go.ChangeAt Go.RowKit
open Go.ChangeMaps (open_string shut_string)
open Kb
open Mh (Fl)
set_option linter.unusedVariables false
set_option maxRecDepth 20000

set_option maxHeartbeats 1000000 in
theorem walk_m (m t : List UInt8) (u : Value) (fs : List Fl) (name : ByteArray) (hb : name.size ≤ 1048576) (w : World) (hu : Flds w u fs) (hz : m.length + t.length ≤ 1048576 ∧ fs.length ≤ 1048576 ∧ ∀ f ∈ fs, f.1.length + f.2.length ≤ 1048576) :
    Calls Tryd.prog 4 #[headV m t u, .string name] w fun e w' => e = .returned (.bool true) ∧ Below w.heap.size w w' := by
  obtain ⟨hmt, hfl, hff⟩ := hz
  have hff' : ∀ f ∈ fs, f.1.length + f.2.length ≤ 68719476736 := fun f hf => by have := hff f hf; omega
  have HRC := hide (fun W (h : Below w.heap.size w W) => rhead_any m t u fs W (hu.below h) (by omega) hff')
  have HPC := hide (fun W (h : Below w.heap.size w W) => hcheck_any m t u fs W (hu.below h) (by omega) hff')
  have HRT := hide (fun (h0 : Mh.check m t fs = 0) W (h : Below w.heap.size w W) => rtext_any m t u fs W (hu.below h) h0)
  have HP1 := hide (fun (h0 : Mh.check m t fs = 0) W (h : Below w.heap.size w W) => hprint_ok m t u fs W (hu.below h) h0)
  have HP2 := hide (fun z (hz : Mh.check m t fs = z) (h0 : z ≠ 0) W (h : Below w.heap.size w W) => hprint_bad m t u fs z W (hu.below h) (by omega) hff' hz h0)
  obtain ⟨gs, hgs⟩ : ∃ gs, Mh.gets (lower name.data.toList) fs = gs := ⟨_, rfl⟩
  have hgl : gs.length ≤ 1048576 := by rw [← hgs]; exact Nat.le_trans (Mh.gets_len _ _) hfl
  have HG1 := hide (fun W (h : Below w.heap.size w W) => hget_any m t u fs name W (hu.below h) (by omega) hff' gs hgs)
  have HG2 := hide (fun W (h : Below w.heap.size w W) => rget_any m t u fs name W (hu.below h) (by omega) hff' gs hgs)
  obtain ⟨z, hz⟩ : ∃ z, Mh.check m t fs = z := ⟨_, rfl⟩
  obtain ⟨q, hq⟩ : ∃ q, mk (Mh.text m t fs) = q := ⟨_, rfl⟩
  rw [hz] at HRC HPC HRT HP1
  rw [hq] at HRT HP1
  have HP2' := hide ((unhide HP2) z hz)
  clear HP2 hz hq hgs hff hff' hmt hfl
  unfold headV at HPC HRT HP1 HP2' HG1 HG2 HRC ⊢
  obtain ⟨o, c, rfl, hc⟩ := hu.form
  obtain ⟨x, hx⟩ : ∃ x, mk m = x := ⟨_, rfl⟩
  obtain ⟨y, hy⟩ : ∃ y, mk t = y := ⟨_, rfl⟩
  rw [hx, hy] at HPC HRT HP1 HP2' HG1 HG2 HRC ⊢
  clear hx hy hu
  have B0 := hide ((Below.refl w.heap.size w).alloc (Nat.le_refl _) (.cells #[.string x, .string y, .slice o fs.length c] 31))
  obtain ⟨z0, z1, z2⟩ := three_newF w (.string x) (.string y) (.slice o fs.length c) 31
  have hlt0 : w.heap.size < (w.alloc (.cells #[.string x, .string y, .slice o fs.length c] 31)).heap.size := by simp
  obtain ⟨W0, hW0⟩ : ∃ W0, w.alloc (.cells #[.string x, .string y, .slice o fs.length c] 31) = W0 := ⟨_, rfl⟩
  rw [hW0] at z0 z1 z2 B0 hlt0
  have HS : Hid (∀ W, Below W0.heap.size W0 W → W.cell? ⟨w.heap.size, 0, none⟩ = some (.string x) ∧ W.cell? ⟨w.heap.size, 1, none⟩ = some (.string y) ∧ W.cell? ⟨w.heap.size, 2, none⟩ = some (.slice o fs.length c) ∧ Below W0.heap.size W0 W) :=
    hide (fun W h => ⟨cell_below z0 hlt0 h, cell_below z1 hlt0 h, cell_below z2 hlt0 h, h⟩)
  have HW : Hid (∀ W, Below W0.heap.size W0 W → Below w.heap.size w W) := hide (fun W h => bel_trans (unhide B0) h)
  go_enter Tryd.func4, Tryd.ntmps4
  go_wp2_with fail
  clear hW0
  refine ((unhide HRC) W0 (unhide B0)).mono ?_; rintro e w1 ⟨rfl, b1⟩
  obtain ⟨y0, y1, y2, -⟩ := (unhide HS) w1 b1
  have B1 := hide b1
  clear b1 z0 z1 z2 HRC
  have HE : Hid (z ≠ 0 ∨ z = 0) := hide (by omega)
  rcases unhide HE with h0 | h0
  · have hz1 : (z == 0) = false := by simpa using h0
    have HP := hide ((unhide HP2') h0)
    clear HP1 HP2' HRT h0 HE
    go_wp2_with fail
    refine ((unhide HP) w1 ((unhide HW) _ (unhide B1))).mono ?_; rintro e w2 ⟨rfl, b2⟩
    have B2 := hide (bel_trans (unhide B1) b2)
    clear b2 y0 y1 y2 B1 HP
    have s2 := (unhide HS) w2 (unhide B2)
    have HSD : ∀ W, Below W0.heap.size W0 W → Below W0.heap.size W0 W.drew := fun W h => h.drew
    have HB : ∀ W, Below W0.heap.size W0 W → Below w.heap.size w W := unhide HW
    have HCK : ∀ W, Below W0.heap.size W0 W → Calls Tryd.prog 13 #[.agg #[.string x, .string y, .slice o fs.length c]] W fun e W' => e = .returned (.int .i64 z) ∧ Below W0.heap.size W0 W' := fun W h => ((unhide HPC) W (HB W h)).mono fun e W' k => ⟨k.1, bel_trans h k.2⟩
    have HGA : ∀ W, Below W0.heap.size W0 W → Calls Tryd.prog 15 #[.agg #[.string x, .string y, .slice o fs.length c], .string name] W fun e W' => ∃ v, e = .returned v ∧ W'.ownsRow W.heap.size 9 1 v gs.length (cellsS gs) ∧ Below W.heap.size W W' ∧ Below W0.heap.size W0 W' := fun W h => ((unhide HG1) W (HB W h)).mono fun e W' ⟨v, k1, k2, k3⟩ => ⟨v, k1, k2, k3, bel_trans h k3⟩
    have HGB : ∀ W, Below W0.heap.size W0 W → Calls Tryd.prog 16 #[.agg #[.string x, .string y, .slice o fs.length c], .string name] W fun e W' => ∃ v, e = .returned v ∧ W'.ownsRow W.heap.size 9 1 v gs.length (cellsS gs) ∧ Below W.heap.size W W' ∧ Below W0.heap.size W0 W' := fun W h => ((unhide HG2) W (HB W h)).mono fun e W' ⟨v, k1, k2, k3⟩ => ⟨v, k1, k2, k3, bel_trans h k3⟩
    have HEQ : ∀ W B C v v', Below W0.heap.size W0 W → W.ownsRow B 9 1 v gs.length (cellsS gs) → W.ownsRow C 9 1 v' gs.length (cellsS gs) → Calls Tryd.prog 14 #[v, v'] W fun e W' => e = .returned (.bool true) ∧ Below W0.heap.size W0 W' := fun W B C v v' h h1 h2 => (equal_strs W B C v v' gs h1 h2 (by omega)).mono fun e W' k => ⟨k.1, bel_trans h k.2⟩
    have HSS := unhide HS
    have hB2 := unhide B2
    obtain ⟨Sb, hSb⟩ : ∃ Q : World → Prop, Below W0.heap.size W0 = Q := ⟨_, rfl⟩
    rw [hSb] at s2 hB2
    have FCK : Hid (∀ W, Sb W → Calls Tryd.prog 13 #[.agg #[.string x, .string y, .slice o fs.length c]] W fun e W' => e = .returned (.int .i64 z) ∧ Sb W') := hide (by rw [← hSb]; exact HCK)
    have FGA : Hid (∀ W, Sb W → Calls Tryd.prog 15 #[.agg #[.string x, .string y, .slice o fs.length c], .string name] W fun e W' => ∃ v, e = .returned v ∧ W'.ownsRow W.heap.size 9 1 v gs.length (cellsS gs) ∧ Below W.heap.size W W' ∧ Sb W') := hide (by rw [← hSb]; exact HGA)
    have FGB : Hid (∀ W, Sb W → Calls Tryd.prog 16 #[.agg #[.string x, .string y, .slice o fs.length c], .string name] W fun e W' => ∃ v, e = .returned v ∧ W'.ownsRow W.heap.size 9 1 v gs.length (cellsS gs) ∧ Below W.heap.size W W' ∧ Sb W') := hide (by rw [← hSb]; exact HGB)
    have FEQ : Hid (∀ W B C v v', Sb W → W.ownsRow B 9 1 v gs.length (cellsS gs) → W.ownsRow C 9 1 v' gs.length (cellsS gs) → Calls Tryd.prog 14 #[v, v'] W fun e W' => e = .returned (.bool true) ∧ Sb W') := hide (by rw [← hSb]; exact HEQ)
    have FS : Hid (∀ W, Sb W → (W.cell? ⟨w.heap.size, 0, none⟩ = some (.string x) ∧ W.cell? ⟨w.heap.size, 1, none⟩ = some (.string y) ∧ W.cell? ⟨w.heap.size, 2, none⟩ = some (.slice o fs.length c) ∧ Sb W)) := hide (by rw [← hSb]; exact HSS)
    have FC : Hid (∀ W, (W.cell? ⟨w.heap.size, 0, none⟩ = some (.string x) ∧ W.cell? ⟨w.heap.size, 1, none⟩ = some (.string y) ∧ W.cell? ⟨w.heap.size, 2, none⟩ = some (.slice o fs.length c) ∧ Sb W) → (W.drew.cell? ⟨w.heap.size, 0, none⟩ = some (.string x) ∧ W.drew.cell? ⟨w.heap.size, 1, none⟩ = some (.string y) ∧ W.drew.cell? ⟨w.heap.size, 2, none⟩ = some (.slice o fs.length c) ∧ Sb W.drew)) := hide (fun W h => unhide FS _ (by have := h.2.2.2; rw [← hSb] at this ⊢; exact this.drew))
    have FX : Hid (∀ W, (W.cell? ⟨w.heap.size, 0, none⟩ = some (.string x) ∧ W.cell? ⟨w.heap.size, 1, none⟩ = some (.string y) ∧ W.cell? ⟨w.heap.size, 2, none⟩ = some (.slice o fs.length c) ∧ Sb W) → Sb W) := hide (fun W h => h.2.2.2)
    have HOUT : Hid (∀ W, Sb W → Below w.heap.size w W) := hide (by rw [← hSb]; exact HB)
    clear HSD HB HCK HGA HGB HEQ HSS hSb hB2 HS HW HG1 HG2 HPC B0 B2
    go_wp2_with fail
    go_region_held3 (fun W => W.cell? ⟨w.heap.size, 0, none⟩ = some (.string x) ∧ W.cell? ⟨w.heap.size, 1, none⟩ = some (.string y) ∧ W.cell? ⟨w.heap.size, 2, none⟩ = some (.slice o fs.length c) ∧ Sb W) (first | assumption | exact unhide FC _ (by assumption) | exact unhide FS _ (by assumption))
      (first
        | (go_at_call 14; refine (unhide FEQ _ _ _ _ _ (unhide FX _ (by assumption)) (own_below own1 bel2) own2).mono ?_; rintro e w' ⟨rfl, hw'⟩)
        | (go_at_call 13; refine (unhide FCK _ (unhide FX _ (by assumption))).mono ?_; rintro e w' ⟨rfl, hw'⟩)
        | (go_at_call 15; refine (unhide FGA _ (unhide FX _ (by assumption))).mono ?_; rintro e w' ⟨v1, rfl, own1, bel1, hw'⟩)
        | (go_at_call 16; refine (unhide FGB _ (unhide FX _ (by assumption))).mono ?_; rintro e w' ⟨v2, rfl, own2, bel2, hw'⟩))
    clear FS FC FEQ FCK FGA FGB
    go_wp2_with fail
    go_ret
    exact ⟨rfl, unhide HOUT _ (unhide FX _ (by assumption))⟩
  · subst h0
    have HT := hide ((unhide HRT) rfl)
    have HP := hide ((unhide HP1) rfl)
    clear HP1 HP2' HRT HE
    go_wp2_with fail
    refine ((unhide HT) w1 ((unhide HW) _ (unhide B1))).mono ?_; rintro e w1' ⟨rfl, b1⟩
    obtain ⟨y0', y1', y2', -⟩ := (unhide HS) w1' (bel_trans (unhide B1) b1)
    have B1' := hide (bel_trans (unhide B1) b1)
    clear b1 y0 y1 y2 B1 HT
    go_wp2_with fail
    refine ((unhide HP) w1' ((unhide HW) _ (unhide B1'))).mono ?_; rintro e w2 ⟨rfl, b2⟩
    have B2 := hide (bel_trans (unhide B1') b2)
    clear b2 y0' y1' y2' B1' HP
    have s2 := (unhide HS) w2 (unhide B2)
    have HSD : ∀ W, Below W0.heap.size W0 W → Below W0.heap.size W0 W.drew := fun W h => h.drew
    have HB : ∀ W, Below W0.heap.size W0 W → Below w.heap.size w W := unhide HW
    have HCK : ∀ W, Below W0.heap.size W0 W → Calls Tryd.prog 13 #[.agg #[.string x, .string y, .slice o fs.length c]] W fun e W' => e = .returned (.int .i64 0) ∧ Below W0.heap.size W0 W' := fun W h => ((unhide HPC) W (HB W h)).mono fun e W' k => ⟨k.1, bel_trans h k.2⟩
    have HGA : ∀ W, Below W0.heap.size W0 W → Calls Tryd.prog 15 #[.agg #[.string x, .string y, .slice o fs.length c], .string name] W fun e W' => ∃ v, e = .returned v ∧ W'.ownsRow W.heap.size 9 1 v gs.length (cellsS gs) ∧ Below W.heap.size W W' ∧ Below W0.heap.size W0 W' := fun W h => ((unhide HG1) W (HB W h)).mono fun e W' ⟨v, k1, k2, k3⟩ => ⟨v, k1, k2, k3, bel_trans h k3⟩
    have HGB : ∀ W, Below W0.heap.size W0 W → Calls Tryd.prog 16 #[.agg #[.string x, .string y, .slice o fs.length c], .string name] W fun e W' => ∃ v, e = .returned v ∧ W'.ownsRow W.heap.size 9 1 v gs.length (cellsS gs) ∧ Below W.heap.size W W' ∧ Below W0.heap.size W0 W' := fun W h => ((unhide HG2) W (HB W h)).mono fun e W' ⟨v, k1, k2, k3⟩ => ⟨v, k1, k2, k3, bel_trans h k3⟩
    have HEQ : ∀ W B C v v', Below W0.heap.size W0 W → W.ownsRow B 9 1 v gs.length (cellsS gs) → W.ownsRow C 9 1 v' gs.length (cellsS gs) → Calls Tryd.prog 14 #[v, v'] W fun e W' => e = .returned (.bool true) ∧ Below W0.heap.size W0 W' := fun W B C v v' h h1 h2 => (equal_strs W B C v v' gs h1 h2 (by omega)).mono fun e W' k => ⟨k.1, bel_trans h k.2⟩
    have HSS := unhide HS
    have hB2 := unhide B2
    obtain ⟨Sb, hSb⟩ : ∃ Q : World → Prop, Below W0.heap.size W0 = Q := ⟨_, rfl⟩
    rw [hSb] at s2 hB2
    have FCK : Hid (∀ W, Sb W → Calls Tryd.prog 13 #[.agg #[.string x, .string y, .slice o fs.length c]] W fun e W' => e = .returned (.int .i64 0) ∧ Sb W') := hide (by rw [← hSb]; exact HCK)
    have FGA : Hid (∀ W, Sb W → Calls Tryd.prog 15 #[.agg #[.string x, .string y, .slice o fs.length c], .string name] W fun e W' => ∃ v, e = .returned v ∧ W'.ownsRow W.heap.size 9 1 v gs.length (cellsS gs) ∧ Below W.heap.size W W' ∧ Sb W') := hide (by rw [← hSb]; exact HGA)
    have FGB : Hid (∀ W, Sb W → Calls Tryd.prog 16 #[.agg #[.string x, .string y, .slice o fs.length c], .string name] W fun e W' => ∃ v, e = .returned v ∧ W'.ownsRow W.heap.size 9 1 v gs.length (cellsS gs) ∧ Below W.heap.size W W' ∧ Sb W') := hide (by rw [← hSb]; exact HGB)
    have FEQ : Hid (∀ W B C v v', Sb W → W.ownsRow B 9 1 v gs.length (cellsS gs) → W.ownsRow C 9 1 v' gs.length (cellsS gs) → Calls Tryd.prog 14 #[v, v'] W fun e W' => e = .returned (.bool true) ∧ Sb W') := hide (by rw [← hSb]; exact HEQ)
    have FS : Hid (∀ W, Sb W → (W.cell? ⟨w.heap.size, 0, none⟩ = some (.string x) ∧ W.cell? ⟨w.heap.size, 1, none⟩ = some (.string y) ∧ W.cell? ⟨w.heap.size, 2, none⟩ = some (.slice o fs.length c) ∧ Sb W)) := hide (by rw [← hSb]; exact HSS)
    have FC : Hid (∀ W, (W.cell? ⟨w.heap.size, 0, none⟩ = some (.string x) ∧ W.cell? ⟨w.heap.size, 1, none⟩ = some (.string y) ∧ W.cell? ⟨w.heap.size, 2, none⟩ = some (.slice o fs.length c) ∧ Sb W) → (W.drew.cell? ⟨w.heap.size, 0, none⟩ = some (.string x) ∧ W.drew.cell? ⟨w.heap.size, 1, none⟩ = some (.string y) ∧ W.drew.cell? ⟨w.heap.size, 2, none⟩ = some (.slice o fs.length c) ∧ Sb W.drew)) := hide (fun W h => unhide FS _ (by have := h.2.2.2; rw [← hSb] at this ⊢; exact this.drew))
    have FX : Hid (∀ W, (W.cell? ⟨w.heap.size, 0, none⟩ = some (.string x) ∧ W.cell? ⟨w.heap.size, 1, none⟩ = some (.string y) ∧ W.cell? ⟨w.heap.size, 2, none⟩ = some (.slice o fs.length c) ∧ Sb W) → Sb W) := hide (fun W h => h.2.2.2)
    have HOUT : Hid (∀ W, Sb W → Below w.heap.size w W) := hide (by rw [← hSb]; exact HB)
    clear HSD HB HCK HGA HGB HEQ HSS hSb hB2 HS HW HG1 HG2 HPC B0 B2
    go_wp2_with fail
    go_region_held3 (fun W => W.cell? ⟨w.heap.size, 0, none⟩ = some (.string x) ∧ W.cell? ⟨w.heap.size, 1, none⟩ = some (.string y) ∧ W.cell? ⟨w.heap.size, 2, none⟩ = some (.slice o fs.length c) ∧ Sb W) (first | assumption | exact unhide FC _ (by assumption) | exact unhide FS _ (by assumption))
      (first
        | (go_at_call 14; refine (unhide FEQ _ _ _ _ _ (unhide FX _ (by assumption)) (own_below own1 bel2) own2).mono ?_; rintro e w' ⟨rfl, hw'⟩)
        | (go_at_call 13; refine (unhide FCK _ (unhide FX _ (by assumption))).mono ?_; rintro e w' ⟨rfl, hw'⟩)
        | (go_at_call 15; refine (unhide FGA _ (unhide FX _ (by assumption))).mono ?_; rintro e w' ⟨v1, rfl, own1, bel1, hw'⟩)
        | (go_at_call 16; refine (unhide FGB _ (unhide FX _ (by assumption))).mono ?_; rintro e w' ⟨v2, rfl, own2, bel2, hw'⟩))
    clear FS FC FEQ FCK FGA FGB
    go_wp2_with fail
    go_ret
    exact ⟨rfl, unhide HOUT _ (unhide FX _ (by assumption))⟩
theorem walk (m t : List UInt8) (u : Value) (fs : List Fl) (name : ByteArray) (hb : name.size ≤ 1048576) (w : World) (hu : Flds w u fs) (hz : m.length + t.length ≤ 1048576 ∧ fs.length ≤ 1048576 ∧ ∀ f ∈ fs, f.1.length + f.2.length ≤ 1048576) (hL : laidMetH Tryd.prog Rows.headSaysUptoRow.laid w) :
    Calls Tryd.prog 4 #[headV m t u, .string name] w fun e w' => e = .returned (.bool true) ∧ Below w.heap.size w w' := walk_m m t u fs name hb w hu hz
theorem own : ownKnob Tryd.prog.godebug = none := by kernel_rfl

theorem small_of {H : Type} {a0 : DataW H} {a1 : ByteArray} (hk : Rows.uptoSmall H ([a0, .lit (.string a1.data.toList)] ++ []) = true) : Rows.uptoBulk a0 + a1.size ≤ 1048576 := by
  have h := of_decide_eq_true hk
  simp only [Rows.uptoBulkAll, Rows.uptoBulk, List.append_nil, Array.length_toList, ByteArray.size_data] at h
  omega

set_option maxRecDepth 100000 in
theorem contract (H : Type) (enc : TypeId × Value → H) (W : World) (base : Nat) (args : Array Value) (ds gs : List (DataW H)) (before : List MemPlace) (hsh : W.ShapedOpen Tryd.prog)
    (hval0 : ∀ (j : Nat) t v, Tryd.f4.params[j]? = some t → args[j]? = some v → Value.okWide Tryd.prog W .any base t v)
    (hW : DataW.Whole enc Tryd.prog Tryd.f4.params.toList Rows.headSaysSpec.vars false W args.toList ds gs before) (hk : Rows.uptoSmall H (ds ++ gs) = true) (hL : laidMetH Tryd.prog Rows.headSaysUptoRow.laid W) :
    Calls Tryd.prog 4 args W fun e W' => ∃ v, e = .returned v ∧ Rows.headSaysSpec.post enc Tryd.prog Tryd.f4 false true false false W args v W' := by
  have hval : ∀ (j : Nat) t v, Tryd.f4.params[j]? = some t → args[j]? = some v → Value.okWide Tryd.prog W .any base t v := hval0
  have hW' := hW
  obtain ⟨p, q, hA0, hV, rfl, hfz, hnd⟩ := hW
  have hA : DataW.TrodAll enc Tryd.prog W 0 (fun _ => true) true Tryd.f4.params.toList args.toList ds p := hA0
  rw [Tryd.params4] at hA hval
  obtain ⟨v0, vs0, d0, ds0, p0, q0, hargs, rfl, rfl, h0, r0⟩ := trodAll_cons hA
  obtain ⟨v1, vs1, d1, ds1, p1, q1, rfl, rfl, rfl, h1, r1⟩ := trodAll_cons r0
  obtain ⟨rfl, rfl, rfl⟩ := trodAll_nil r1
  obtain rfl : args = #[v0, v1] := by cases args; simp_all
  obtain ⟨rfl, rfl⟩ := trodVars_none hV
  obtain ⟨a1, rfl, rfl, rfl, w1⟩ := open_string Tryd.underlying9 (hval 1 9 v1 rfl rfl) h1
  have hsm := small_of hk
  obtain ⟨m0, t0, u0, f0, rfl, hI0, hz0, hlt0⟩ := open_head_in (hval 0 31 v0 rfl rfl) h0 (by omega)
  clear hA0 hval0
  refine (walk m0 t0 u0 f0 a1 (by omega) W hI0 hz0 hL).mono fun e W' ⟨he, hb⟩ => ?_
  subst he
  exact ⟨_, rfl, _, _, _, [], (p0 ++ []), [], hW', (trodAll_cons_mk (shut_bool Tryd.underlying4 _) trodAll_mk0), (trodAll_cons_mk (Below.trod laidOutAll (by kernel_rfl) (of_decide_eq_true (by kernel_rfl)) h0 hb hlt0) (trodAll_cons_mk (shut_string Tryd.underlying9 w1) trodAll_mk0)), rfl, hb.frame _, fun h => by cases h⟩

theorem reads (os : Os) {H : Type} (enc : TypeId × Value → H) : ∃ places, DataW.whole enc Tryd.prog ((laidIn (World.holding Tryd.prog os ⟨#[], #[], []⟩)).forCall (fun _ _ => 0) ⟨#[], #[.agg #[.string ByteArray.empty, .string ByteArray.empty, .slice none 0 0], .string ByteArray.empty], []⟩).memory Tryd.f4.params.toList Rows.headSaysSpec.vars false (#[.agg #[.string ByteArray.empty, .string ByteArray.empty, .slice none 0 0], .string ByteArray.empty] : Array Value).toList 8 = some ([.agg [.lit (.string []), .lit (.string []), .nil], .lit (.string [])], [], places) :=
  ⟨[], by kernel_rfl⟩
theorem laid_met (os : Os) : laidMet Tryd.prog Rows.headSaysUptoRow.laid ((laidIn (World.holding Tryd.prog os ⟨#[], #[], []⟩)).forCall (fun _ _ => 0) ⟨#[], #[.agg #[.string ByteArray.empty, .string ByteArray.empty, .slice none 0 0], .string ByteArray.empty], []⟩).memory :=
  laidMet_of_run' 8 (by kernel_rfl) (by kernel_rfl)

set_option maxRecDepth 100000 in
theorem lifted (os : Os) (started : os.Started) (H : Type) (enc : TypeId × Value → H) (F : Stop.Interp) :
    ReturnsInHanded {} Tryd.checked os 4 .any ((Rows.OpenSpec.upto Rows.headSaysSpec).preRow enc Tryd.prog Tryd.f4 Rows.headSaysUptoRow.domain false Rows.headSaysUptoRow.laid) (((Rows.OpenSpec.upto Rows.headSaysSpec).at F).post enc Tryd.prog Tryd.f4 false true false false) := by
  obtain ⟨places, hx⟩ := reads os enc
  refine returnsInHanded_of_row (C := Tryd.checked) (s := Rows.OpenSpec.upto Rows.headSaysSpec) own started (by kernel_rfl) Tryd.func4
    (witness_row_at (enc := enc) (C := Tryd.checked) false (laidIn (World.holding Tryd.prog os ⟨#[], #[], []⟩)) #[.agg #[.string ByteArray.empty, .string ByteArray.empty, .slice none 0 0], .string ByteArray.empty] rfl (by kernel_rfl) (by kernel_rfl) (by kernel_rfl)
      (OpenSpec.preRow_of_cond 8 hx (by kernel_rfl) (fun k hk => by cases hk; kernel_rfl) (by kernel_rfl) (laid_met os))) ?_
  intro W base args ds gs before hval hW _ hcond _ hL hsh _
  exact contract H enc W base args ds gs before hsh hval hW (hcond _ rfl) hL

theorem row : Rows.HeadSaysUptoSaid :=
  OpenClaim.holds_of_cond 4 Tryd.f4 rfl rfl rfl rfl rfl rfl rfl ⟨rfl, rfl, rfl, rfl, rfl⟩ rfl rfl rfl rfl rfl (by kernel_rfl) Tryd.func4 (by kernel_rfl)
    (of_decide_eq_true (by kernel_rfl)) (by unfold Func.isWrapper; first | (rw [if_pos (by decide +kernel)]; kernel_rfl) | (rw [if_neg (by decide +kernel)]; exact ⟨rfl, rfl⟩))
    (fun os started H enc _ F => by rw [OpenClaim.pre_eq_preRow]; exact lifted os started H enc F)

theorem plain (f : FuncId) (fn : Func) (hf : Tryd.pinned.checked.prog.funcNamed "gatewicket/wicklaw.HeadSays" = some f) (hfn : Tryd.pinned.checked.prog.funcs[f]? = some fn) :
    false = Tryd.pinned.checked.prog.looks [] ∧ ∀ (j : Nat) t, fn.params[j]? = some t → Tryd.pinned.checked.prog.wantsStandIn t = false := by
  obtain rfl : f = 4 := Option.some.inj ((show Tryd.prog.funcNamed "gatewicket/wicklaw.HeadSays" = some 4 by kernel_rfl).symm.trans hf) |>.symm
  obtain rfl : fn = Tryd.f4 := (Option.some.inj (Tryd.func4.symm.trans hfn)).symm
  refine ⟨by kernel_rfl, fun j t ht => ?_⟩
  rw [Tryd.params4] at ht
  have hm : t = 31 ∨ t = 9 := by simpa using Array.mem_of_getElem? ht
  rcases hm with rfl | rfl
  · exact (show Tryd.prog.wantsStandIn 31 = false by kernel_rfl)
  · exact (show Tryd.prog.wantsStandIn 9 = false by kernel_rfl)

theorem over : Rows.HeadSaysUptoCardSaid :=
  Claim7.holds_tied_plain_at .later [] _ _ _ _ row (fun _ h => by cases h) (by kernel_rfl) (fun _ h => by cases h) headSaysUpto_row_tie rfl ⟨rfl, rfl⟩ (by kernel_rfl) rfl plain (by kernel_rfl)
end Go.Proofs.YtloidooaebhliaaDoor.headSays
namespace Go.Proofs.YtloidooaebhliaaDoor
theorem headSays_holds : Rows.HeadSaysUptoCardSaid := headSays.over
#print axioms headSays_holds
end Go.Proofs.YtloidooaebhliaaDoor
