/- What is handed on stays the same, handed on again, and no field for one connection is left: whatever is handed in.
   Conditions: what is handed in is of bulk at most 1048576; the library's tables are as the program's text lays them, and its own variable MaxLen holds whatever number. -/
import Derived.Test.YtmgealcolofomaaGreatDoorRows
import Derived.Test.YtmgealcolofomaaGreatDoorTie
import Derived.Test.YtmgealcolofomaaGreatDoorCards
import Derived.WalkKit
import Derived.ProofKit
import Derived.OpenShut
import Derived.ShutString
import Derived.JoinedCond
import Derived.Deep.RegionHeld3
import Derived.Test.YtmgealcolofomaaGreatDoorDY
import Derived.Stop.LaidErr
namespace Go.Proofs.YtmgealcolofomaaGreatDoor.serialAgain
open Go.ChangeShapes Go.WideShapes Go.ChangeAt Go.RowKit
open Go.ChangeMaps (open_string shut_string)
open Kb
open Mh (Fl)
set_option linter.unusedVariables false
set_option maxRecDepth 20000
set_option maxRecDepth 20000

set_option maxHeartbeats 8000000 in
theorem walk_m (m t : List UInt8) (u : Value) (fs : List Fl) (b : List UInt8) (k : Int) (w : World) (hu : Flds w u fs) (hz : m.length + t.length ≤ 1048576 ∧ fs.length ≤ 1048576 ∧ b.length ≤ 1048576 ∧ ∀ f ∈ fs, f.1.length + f.2.length ≤ 1048576) (hm : MH k w)
    (hT : Lib.TabIs Tryz.prog w "internal/strconv.uint64pow10" .u64 Lib.pow10Tab) :
    Calls Tryz.prog 4 #[reqV m t u b] w fun e w' => e = .returned (.bool true) ∧ Below w.heap.size w w' := by
  obtain ⟨hz1, hz2, hz3, hz4⟩ := hz
  obtain ⟨d, hd⟩ := ex_list b
  have hds : d.size ≤ 1048576 := by have := len_data d; rw [hd] at this; omega
  obtain ⟨⟨o1, z⟩, ho⟩ : ∃ o, Se.fwd m t fs d.data.toList = o := ⟨_, rfl⟩
  obtain ⟨p, hp⟩ := ex_list o1
  rw [← hp] at ho
  have hbd : mk b = d := by rw [← hd, mk_data]
  have hpp : mk p.data.toList = p := mk_data p
  obtain ⟨p0, hp0⟩ : ∃ q : ByteArray, (⟨#[]⟩ : ByteArray) = q := ⟨_, rfl⟩
  have HL : Hid (∀ W v, Below w.heap.size w W → Flds W v lit3 → Calls Tryz.prog 9 #[.agg #[.string ⟨#[]⟩, .string ⟨#[]⟩, v]] W fun e W' => ∃ v', e = .returned (.agg #[.string p0, .string p0, v']) ∧ Flds W' v' [([122], [50])] ∧ Below W.heap.size W W') := hide (fun W v h h2 => (strip_any [] [] v lit3 k W h2 (by decide) (by decide) (by decide) (hm.below h)).mono fun e W' ⟨v', k1, k2, k3⟩ => ⟨v', k1.trans (by rw [← hp0]; rfl), by rw [lit3_strip] at k2; exact Flds.own k2 (by decide), k3⟩)
  have HS := hide (fun W (h : Below w.heap.size w W) => strip_any m t u fs k W (hu.below h) hz2 hz1 hz4 (hm.below h))
  have hsl : (Se.strip fs).length ≤ 1048576 := Nat.le_trans (Se.less_len _ _) hz2
  have hsm : ∀ f ∈ Se.strip fs, f.1.length + f.2.length ≤ 1048576 := fun f hf => hz4 f (Se.less_mem hf).1
  have HS2 := hide (fun W v (h : Below w.heap.size w W) (h2 : Flds W v (Se.strip fs)) => strip_any m t v (Se.strip fs) k W h2 hsl hz1 hsm (hm.below h))
  have HSM := hide (fun W v v' (h1 : Flds W v (Se.strip fs)) (h2 : Flds W v' (Se.strip fs)) => same_any m t v v' (Se.strip fs) W h1 h2)
  have HG := hide (fun W v (name : ByteArray) (hn : name.size ≤ 100) (hin : lower name.data.toList ∈ Se.base) (h2 : Flds W v (Se.strip fs)) => hget_any m t v (Se.strip fs) name W h2 (by omega) (fun f hf => by have := hsm f hf; omega) [] (Se.gets_strip hin fs))
  have HF := hide (fun W (h : Below w.heap.size w W) => sfwd_any m t u fs d k W (hu.below h) hz2 hz1 hds hz4 (hm.below h) (stab_below hT h) _ ho)
  obtain ⟨OUT, hOUT⟩ : ∃ l, Se.out (Cu.sizeOf fs).1 fs d.size = l := ⟨_, rfl⟩
  have hfr := fun h0 hs => fwd_read ho h0 hs ⟨#[]⟩
  have e0 : p ++ (⟨#[]⟩ : ByteArray) = p := by apply eq_of_lists; rw [cat_data]; exact List.append_nil _
  rw [hOUT, e0] at hfr
  have HON := hide (fun (h0 : z = 0) (hs : ¬ (p.size : Int) - (d.size : Int) > 4096) W (h : Below w.heap.size w W) => one_any p 4096 4096 40 k W (by have := (hfr h0 hs).2.2.2.1; omega) (hm.below h) _ (hfr h0 hs).1)
  have HF2 := hide (fun (h0 : z = 0) (hs : ¬ (p.size : Int) - (d.size : Int) > 4096) W v (h : Below w.heap.size w W) (h2 : Flds W v OUT) => sfwd_any m t v OUT d k W h2 (by have := (hfr h0 hs).2.2.2.2; omega) hz1 hds (by rw [← hOUT]; exact out_mem (hfr h0 hs).2.2.1 hz4) (hm.below h) (stab_below hT h) _ (hfr h0 hs).2.1)
  have HOL : Hid (z = 0 → ¬ (p.size : Int) - (d.size : Int) > 4096 → OUT.length ≤ 30) := hide (fun h0 hs => (hfr h0 hs).2.2.2.2)
  have HWD := hide (fun W => wide_any W)
  have hpsz : p.size ≤ 1088576 := by
    have h1 := congrArg (fun o => o.1.length) ho
    dsimp only at h1
    rw [len_data] at h1
    by_cases h0 : (Se.fwd m t fs d.data.toList).2 = 0
    · obtain ⟨g1, g2, g3⟩ := Se.fwd_ok h0
      rw [len_data] at g2 g3
      have g4 := congrArg List.length g3
      have g5 := Mh.text_len g2
      rw [List.length_append, len_data] at g4; omega
    · rw [Se.fwd_bad h0] at h1; simp at h1; omega
  unfold reqV
  unfold bndV at HWD HON
  unfold headV at HS HS2 HSM HG
  dsimp only at HON HF HF2
  rw [hbd]
  rw [hpp] at HF HF2
  rw [show mk d.data.toList = d from mk_data d] at HON
  obtain ⟨uo, c, rfl, hc⟩ := hu.form
  obtain ⟨x, hx⟩ : ∃ x, mk m = x := ⟨_, rfl⟩
  obtain ⟨y, hy⟩ : ∃ y, mk t = y := ⟨_, rfl⟩
  rw [hx, hy] at HS HS2 HSM HG HF HON HF2 ⊢
  have HSS := hide (Se.strip_strip fs)
  obtain ⟨sf, hsf⟩ : ∃ l, Se.strip fs = l := ⟨_, rfl⟩
  rw [hsf] at HS HS2 HSM HG hsl HSS
  clear hx hy hsf hd hbd hpp hp ho hu hm hT hz4 hsm hfr e0 hOUT hp0
  have X1 := QX.new (base := w.heap.size) w (Nat.le_refl _) x y uo fs.length c d
  have bb1 := (Below.refl w.heap.size w).alloc (Nat.le_refl _) (.cells #[.string x, .string y, .slice uo fs.length c, .string d] 26)
  obtain ⟨W1, hW1⟩ : ∃ W, w.alloc (.cells #[.string x, .string y, .slice uo fs.length c, .string d] 26) = W := ⟨_, rfl⟩
  rw [hW1] at X1 bb1
  have B1 := hide bb1
  have HBOX := hide (fun W (h : Below W1.heap.size W1 W) => (⟨(X1.below h).cells, (X1.below h).lt.2⟩ : (_ ∧ _ ∧ _ ∧ _) ∧ _))
  have F2 := lit3_own W1
  have bb2 := (Below.refl W1.heap.size W1).alloc (Nat.le_refl _) (.cells #[.string ⟨#[67, 111, 110, 110, 101, 99, 116, 105, 111, 110]⟩, .string ⟨#[120, 44, 32, 121]⟩, .string ⟨#[89]⟩, .string ⟨#[49]⟩, .string ⟨#[122]⟩, .string ⟨#[50]⟩] 39)
  obtain ⟨W2, hW2⟩ : ∃ W, W1.alloc (.cells #[.string ⟨#[67, 111, 110, 110, 101, 99, 116, 105, 111, 110]⟩, .string ⟨#[120, 44, 32, 121]⟩, .string ⟨#[89]⟩, .string ⟨#[49]⟩, .string ⟨#[122]⟩, .string ⟨#[50]⟩] 39) = W := ⟨_, rfl⟩
  rw [hW2] at F2 bb2
  have B2 := hide bb2
  clear X1 bb1 bb2
  go_enter Tryz.func4, Tryz.ntmps4
  go_wp2_with fail
  clear hW1 hW2
  refine ((unhide HL) W2 _ (bel_trans (unhide B1) (unhide B2)) F2).mono ?_; rintro e w3 ⟨v3, rfl, f3, b3⟩
  obtain ⟨o3, c3, rfl, _⟩ := f3.form
  have X4 := HX.new (base := w3.heap.size) w3 (Nat.le_refl _) p0 p0 o3 1 c3
  have bb4 := (Below.refl w3.heap.size w3).alloc (Nat.le_refl _) (.cells #[.string p0, .string p0, .slice o3 1 c3] 24)
  obtain ⟨g4, hg4⟩ : ∃ g, w3.heap.size = g := ⟨_, rfl⟩
  obtain ⟨W4, hW4⟩ : ∃ W, w3.alloc (.cells #[.string p0, .string p0, .slice o3 1 c3] 24) = W := ⟨_, rfl⟩
  rw [hW4] at X4 bb4
  have F4 := f3.below bb4
  have F5 := lit1_own W4
  have bb5 := (Below.refl W4.heap.size W4).alloc (Nat.le_refl _) (.cells #[.string ⟨#[122]⟩, .string ⟨#[50]⟩] 39)
  have hg14 : W1.heap.size ≤ g4 := by rw [← hg4]; exact (bel_trans (unhide B2) b3).size
  rw [hg4] at X4
  obtain ⟨c40, c41, c42⟩ := X4.cells
  have hg4l := X4.lt.2
  obtain ⟨W5, hW5⟩ : ∃ W, W4.alloc (.cells #[.string ⟨#[122]⟩, .string ⟨#[50]⟩] 39) = W := ⟨_, rfl⟩
  rw [hW5] at F5 bb5
  have HEQ := hide (equal_flds W5 _ _ _ (F4.below bb5) F5)
  have X5 := hide (X4.below bb5)
  have B5 := hide (bel_trans (bel_trans (bel_trans (unhide B2) b3) bb4) bb5)
  clear X4 bb4 bb5 b3 f3 F4 F5 F2 B2 HL
  go_wp2_with fail
  clear hW4 hg4 hW5 c40 c41 c42 hg4l
  refine (unhide HEQ).mono ?_; rintro e w6 ⟨rfl, b6⟩
  have X6 := hide ((unhide X5).below b6)
  have B6 := hide (bel_trans (unhide B5) b6)
  obtain ⟨⟨a0, a1, a2, a3⟩, hl6⟩ := (unhide HBOX) w6 (unhide B6)
  clear b6 X5 B5 HEQ
  go_wp2_with fail
  clear a0 a1 a2 a3 hl6
  refine ((unhide HS) w6 (bel_trans (unhide B1) (unhide B6))).mono ?_; rintro e w7 ⟨v7, rfl, own7, b7⟩
  obtain ⟨so, sc, rfl⟩ := own_forms own7
  have X7 := (unhide X6).below b7
  obtain ⟨c40, c41, c42⟩ := X7.cells
  obtain ⟨f40, f41, f42⟩ := X7.frozen
  have hg46 := (unhide X6).lt.2
  have hg4l := X7.lt.2
  obtain ⟨X8, k8⟩ := X7.put x y (.slice so sf.length sc) rfl
  have own8 := World.ownsRow.kept own7 k8 (.inr (fun e => by have := (own7.lt g4 e).1; omega))
  have F8 := Flds.own own8 (by omega)
  have B8 := (bel_trans (unhide B6) b7).grown k8 (bel_trans (unhide B6) b7).size (fun q hq => by have := Option.some.inj hq; omega)
  obtain ⟨W8, hW8⟩ : ∃ W, ((w7.setCell ⟨g4, 0, none⟩ (.string x)).setCell ⟨g4, 1, none⟩ (.string y)).setCell ⟨g4, 2, none⟩ (.slice so sf.length sc) = W := ⟨_, rfl⟩
  have hW8' : putH w7 g4 x y (.slice so sf.length sc) = W8 := hW8
  rw [hW8'] at X8 F8 B8
  have HF8 := hide F8
  have HX8 := hide X8
  have HB8 := hide B8
  clear own7 own8 k8 b7 X7 B6 X6 F8 X8 B8 HS hW8'
  have HGA : ∀ W, Below W8.heap.size W8 W → Calls Tryz.prog 9 #[.agg #[.string x, .string y, .slice so sf.length sc]] W fun e W' => ∃ v, e = .returned (.agg #[.string x, .string y, v]) ∧ Flds W' v sf ∧ Below W8.heap.size W8 W' := fun W h => ((unhide HS2) W _ (bel_trans (unhide B1) (bel_trans (unhide HB8) h)) ((unhide HF8).below h)).mono fun e W' ⟨v, k1, k2, k3⟩ => ⟨v, k1, by rw [unhide HSS] at k2; exact Flds.own k2 (by omega), bel_trans h k3⟩
  have HEQ : ∀ W v, Below W8.heap.size W8 W → Flds W v sf → Calls Tryz.prog 12 #[.agg #[.string x, .string y, v], .agg #[.string x, .string y, .slice so sf.length sc]] W fun e W' => e = .returned (.bool true) ∧ Below W8.heap.size W8 W' := fun W v h h1 => ((unhide HSM) W v _ h1 ((unhide HF8).below h)).mono fun e W' k => ⟨k.1, bel_trans h k.2⟩
  have HGG : ∀ W (name : ByteArray), name.size ≤ 100 → lower name.data.toList ∈ Se.base → Below W8.heap.size W8 W → Calls Tryz.prog 13 #[.agg #[.string x, .string y, .slice so sf.length sc], .string name] W fun e W' => ∃ oo cc, e = .returned (.slice oo 0 cc) ∧ Below W8.heap.size W8 W' := fun W name n1 n2 h => ((unhide HG) W _ name n1 n2 ((unhide HF8).below h)).mono fun e W' ⟨v, k1, k2, k3⟩ => by
    obtain ⟨oo, cc, rfl⟩ := own_forms k2
    exact ⟨oo, cc, k1, bel_trans h k3⟩
  have HSI : ∀ W, Below W8.heap.size W8 W → (W.cell? ⟨g4, 0, none⟩ = some (.string x) ∧ W.cell? ⟨g4, 1, none⟩ = some (.string y) ∧ W.cell? ⟨g4, 2, none⟩ = some (.slice so sf.length sc) ∧ Below W8.heap.size W8 W) := fun W h => by
    obtain ⟨e0, e1, e2⟩ := ((unhide HX8).below h).cells
    exact ⟨e0, e1, e2, h⟩
  have hB2 := Below.refl W8.heap.size W8
  have s2 := HSI W8 hB2
  obtain ⟨Sb, hSb⟩ : ∃ Q : World → Prop, Below W8.heap.size W8 = Q := ⟨_, rfl⟩
  rw [hSb] at s2 hB2
  have FGA : Hid (∀ W, Sb W → Calls Tryz.prog 9 #[.agg #[.string x, .string y, .slice so sf.length sc]] W fun e W' => ∃ v, e = .returned (.agg #[.string x, .string y, v]) ∧ Flds W' v sf ∧ Sb W') := hide (by rw [← hSb]; exact HGA)
  have FEQ : Hid (∀ W v, Sb W → Flds W v sf → Calls Tryz.prog 12 #[.agg #[.string x, .string y, v], .agg #[.string x, .string y, .slice so sf.length sc]] W fun e W' => e = .returned (.bool true) ∧ Sb W') := hide (by rw [← hSb]; exact HEQ)
  have FGG : Hid (∀ W (name : ByteArray), name.size ≤ 100 → lower name.data.toList ∈ Se.base → Sb W → Calls Tryz.prog 13 #[.agg #[.string x, .string y, .slice so sf.length sc], .string name] W fun e W' => ∃ oo cc, e = .returned (.slice oo 0 cc) ∧ Sb W') := hide (by rw [← hSb]; exact HGG)
  have FS : Hid (∀ W, Sb W → (W.cell? ⟨g4, 0, none⟩ = some (.string x) ∧ W.cell? ⟨g4, 1, none⟩ = some (.string y) ∧ W.cell? ⟨g4, 2, none⟩ = some (.slice so sf.length sc) ∧ Sb W)) := hide (by rw [← hSb]; exact HSI)
  have FC : Hid (∀ W, (W.cell? ⟨g4, 0, none⟩ = some (.string x) ∧ W.cell? ⟨g4, 1, none⟩ = some (.string y) ∧ W.cell? ⟨g4, 2, none⟩ = some (.slice so sf.length sc) ∧ Sb W) → (W.drew.cell? ⟨g4, 0, none⟩ = some (.string x) ∧ W.drew.cell? ⟨g4, 1, none⟩ = some (.string y) ∧ W.drew.cell? ⟨g4, 2, none⟩ = some (.slice so sf.length sc) ∧ Sb W.drew)) := hide (fun W h => unhide FS _ (by have := h.2.2.2; rw [← hSb] at this ⊢; exact this.drew))
  have FX : Hid (∀ W, (W.cell? ⟨g4, 0, none⟩ = some (.string x) ∧ W.cell? ⟨g4, 1, none⟩ = some (.string y) ∧ W.cell? ⟨g4, 2, none⟩ = some (.slice so sf.length sc) ∧ Sb W) → Sb W) := hide (fun W h => h.2.2.2)
  have HOUT : Hid (∀ W, Sb W → Below W1.heap.size W1 W) := hide (by rw [← hSb]; exact fun W h => bel_trans (unhide HB8) h)
  clear HGA HGG HEQ HSI hSb hB2 HS2 HSM HG HF8 HX8 HB8
  go_wp2_with fail
  clear hW8 c40 c41 c42 f40 f41 f42
  go_region_held3 (fun W => W.cell? ⟨g4, 0, none⟩ = some (.string x) ∧ W.cell? ⟨g4, 1, none⟩ = some (.string y) ∧ W.cell? ⟨g4, 2, none⟩ = some (.slice so sf.length sc) ∧ Sb W) (first | assumption | exact unhide FC _ (by assumption) | exact unhide FS _ (by assumption))
    (first
      | (go_at_call 12; refine (unhide FEQ _ _ (unhide FX _ (by assumption)) fa).mono ?_; rintro e w' ⟨rfl, hw'⟩)
      | (go_at_call 9; refine (unhide FGA _ (unhide FX _ (by assumption))).mono ?_; rintro e w' ⟨v1, rfl, fa, hw'⟩)
      | (go_at_call 13; refine (unhide FGG _ _ (by decide) (by decide) (unhide FX _ (by assumption))).mono ?_; rintro e w' ⟨oo, cc, rfl, hw'⟩))
  have B9 := hide (unhide HOUT _ (unhide FX _ (by assumption)))
  clear FS FC FEQ FGA FGG FX HOUT
  obtain ⟨⟨a0, a1, a2, a3⟩, hl9⟩ := (unhide HBOX) _ (unhide B9)
  go_wp2_with fail
  clear a0 a1 a2 a3 hl9
  refine ((unhide HF) _ (bel_trans (unhide B1) (unhide B9))).mono ?_; rintro e w10 ⟨rfl, b10⟩
  have B10 := hide (bel_trans (unhide B9) b10)
  obtain ⟨⟨a0, a1, a2, a3⟩, hl10⟩ := (unhide HBOX) w10 (unhide B10)
  clear b10 B9 HF
  by_cases h0 : z = 0
  case neg =>
    have hzb : (z != 0) = true := by simpa using h0
    clear h0 HON HF2 HOL
    go_wp2_with fail
    go_ret
    exact ⟨rfl, bel_trans (unhide B1) (unhide B10)⟩
  by_cases hs : (p.size : Int) - (d.size : Int) > 4096
  case pos =>
    have hs2 : 4096 < (p.size : Int) - (d.size : Int) := hs
    clear HON HF2 HOL
    subst h0
    go_wp2_with fail
    go_ret
    exact ⟨rfl, bel_trans (unhide B1) (unhide B10)⟩
  have hs2 : ¬ 4096 < (p.size : Int) - (d.size : Int) := hs
  have HN1 := hide ((unhide HON) h0 (by omega))
  have HN2 := hide ((unhide HF2) h0 (by omega))
  have hol := (unhide HOL) h0 (by omega)
  clear HON HF2 HOL
  subst h0
  go_wp2_with fail
  clear a0 a1 a2 a3 hl10
  refine ((unhide HWD) w10).mono ?_; rintro e w11 ⟨rfl, b11⟩
  have B11 := hide (bel_trans (unhide B10) b11)
  clear b11 B10 HWD
  go_wp2_with fail
  refine ((unhide HN1) w11 (bel_trans (unhide B1) (unhide B11))).mono ?_; rintro e w12 ⟨v12, rfl, own12, b12⟩
  obtain ⟨o12, c12, rfl⟩ := own_forms own12
  have F12 := Flds.own own12 (by omega)
  have X13 := QX.new (base := w12.heap.size) w12 (Nat.le_refl _) x y o12 OUT.length c12 d
  have bb13 := (Below.refl w12.heap.size w12).alloc (Nat.le_refl _) (.cells #[.string x, .string y, .slice o12 OUT.length c12, .string d] 26)
  obtain ⟨g13, hg13⟩ : ∃ g, w12.heap.size = g := ⟨_, rfl⟩
  obtain ⟨W13, hW13⟩ : ∃ W, w12.alloc (.cells #[.string x, .string y, .slice o12 OUT.length c12, .string d] 26) = W := ⟨_, rfl⟩
  rw [hW13] at X13 bb13
  rw [hg13] at X13
  have F13 := hide (F12.below bb13)
  have B13 := hide (bel_trans (bel_trans (unhide B11) b12) bb13)
  obtain ⟨q0, q1, q2, q3⟩ := X13.cells
  have hgl := X13.lt.2
  clear X13 bb13 F12 own12 b12 B11 HN1
  go_wp2_with fail
  clear hW13 hg13 q0 q1 q2 q3 hgl
  refine ((unhide HN2) W13 _ (bel_trans (unhide B1) (unhide B13)) (unhide F13)).mono ?_; rintro e w14 ⟨rfl, b14⟩
  have B14 := hide (bel_trans (unhide B1) (bel_trans (unhide B13) b14))
  clear b14 B13 F13 HN2
  go_wp2_with fail
  go_ret
  exact ⟨rfl, unhide B14⟩
theorem walk (m t : List UInt8) (u : Value) (fs : List Fl) (b : List UInt8) (hb : 0 ≤ 1048576) (w : World) (hu : Flds w u fs) (hz : m.length + t.length ≤ 1048576 ∧ fs.length ≤ 1048576 ∧ b.length ≤ 1048576 ∧ ∀ f ∈ fs, f.1.length + f.2.length ≤ 1048576) (hsh : w.ShapedOpen Tryz.prog) (hL : laidMetH Tryz.prog Rows.serialAgainUptoRow.laid w) :
    Calls Tryz.prog 4 #[reqV m t u b] w fun e w' => e = .returned (.bool true) ∧ Below w.heap.size w w' := by
  obtain ⟨k, hk⟩ := Tryz.laysM143.s1_3 w hsh
  exact walk_m m t u fs b k w hu hz hk (pow_of (W := w) hL)
theorem own : ownKnob Tryz.prog.godebug = none := by kernel_rfl

theorem small_of {H : Type} {a0 : DataW H} (hk : Rows.uptoSmall H ([a0] ++ []) = true) : Rows.uptoBulk a0 ≤ 1048576 := by
  have h := of_decide_eq_true hk
  simp only [Rows.uptoBulkAll, List.append_nil] at h
  omega

set_option maxRecDepth 100000 in
theorem contract (H : Type) (enc : TypeId × Value → H) (W : World) (base : Nat) (args : Array Value) (ds gs : List (DataW H)) (before : List MemPlace) (hsh : W.ShapedOpen Tryz.prog)
    (hval0 : ∀ (j : Nat) t v, Tryz.f4.params[j]? = some t → args[j]? = some v → Value.okWide Tryz.prog W .any base t v)
    (hW : DataW.Whole enc Tryz.prog Tryz.f4.params.toList Rows.serialAgainSpec.vars false W args.toList ds gs before) (hk : Rows.uptoSmall H (ds ++ gs) = true) (hL : laidMetH Tryz.prog Rows.serialAgainUptoRow.laid W) :
    Calls Tryz.prog 4 args W fun e W' => ∃ v, e = .returned v ∧ Rows.serialAgainSpec.post enc Tryz.prog Tryz.f4 false true false false W args v W' := by
  have hval : ∀ (j : Nat) t v, Tryz.f4.params[j]? = some t → args[j]? = some v → Value.okWide Tryz.prog W .any base t v := hval0
  have hW' := hW
  obtain ⟨p, q, hA0, hV, rfl, hfz, hnd⟩ := hW
  have hA : DataW.TrodAll enc Tryz.prog W 0 (fun _ => true) true Tryz.f4.params.toList args.toList ds p := hA0
  rw [Tryz.params4] at hA hval
  obtain ⟨v0, vs0, d0, ds0, p0, q0, hargs, rfl, rfl, h0, r0⟩ := trodAll_cons hA
  obtain ⟨rfl, rfl, rfl⟩ := trodAll_nil r0
  obtain rfl : args = #[v0] := by cases args; simp_all
  obtain ⟨rfl, rfl⟩ := trodVars_none hV
  have hsm := small_of hk
  obtain ⟨m0, t0, u0, f0, g0, rfl, hI0, hz0, hlt0⟩ := open_req_in (hval 0 26 v0 rfl rfl) h0 (by omega)
  clear hA0 hval0
  refine (walk m0 t0 u0 f0 g0 (by omega) W hI0 hz0 hsh hL).mono fun e W' ⟨he, hb⟩ => ?_
  subst he
  exact ⟨_, rfl, _, _, _, [], (p0 ++ []), [], hW', (trodAll_cons_mk (shut_bool Tryz.underlying4 _) trodAll_mk0), (trodAll_cons_mk (Below.trod laidOutAll (by kernel_rfl) (of_decide_eq_true (by kernel_rfl)) h0 hb hlt0) trodAll_mk0), rfl, hb.frame _, fun h => by cases h⟩

theorem reads (os : Os) {H : Type} (enc : TypeId × Value → H) : ∃ places, DataW.whole enc Tryz.prog ((laidIn (World.holding Tryz.prog os ⟨#[], #[], []⟩)).forCall (fun _ _ => 0) ⟨#[], #[.agg #[.string ByteArray.empty, .string ByteArray.empty, .slice none 0 0, .string ByteArray.empty]], []⟩).memory Tryz.f4.params.toList Rows.serialAgainSpec.vars false (#[.agg #[.string ByteArray.empty, .string ByteArray.empty, .slice none 0 0, .string ByteArray.empty]] : Array Value).toList 8 = some ([.agg [.agg [.lit (.string []), .lit (.string []), .nil], .lit (.string [])]], [], places) :=
  ⟨[], by kernel_rfl⟩
theorem laid_met (os : Os) : laidMet Tryz.prog Rows.serialAgainUptoRow.laid ((laidIn (World.holding Tryz.prog os ⟨#[], #[], []⟩)).forCall (fun _ _ => 0) ⟨#[], #[.agg #[.string ByteArray.empty, .string ByteArray.empty, .slice none 0 0, .string ByteArray.empty]], []⟩).memory :=
  laidMet_of_run' 8 (by kernel_rfl) (by kernel_rfl)

set_option maxRecDepth 100000 in
theorem lifted (os : Os) (started : os.Started) (H : Type) (enc : TypeId × Value → H) (F : Stop.Interp) :
    ReturnsInHanded {} Tryz.checked os 4 .any ((Rows.OpenSpec.upto Rows.serialAgainSpec).preRow enc Tryz.prog Tryz.f4 Rows.serialAgainUptoRow.domain false Rows.serialAgainUptoRow.laid) (((Rows.OpenSpec.upto Rows.serialAgainSpec).at F).post enc Tryz.prog Tryz.f4 false true false false) := by
  obtain ⟨places, hx⟩ := reads os enc
  refine returnsInHanded_of_row (C := Tryz.checked) (s := Rows.OpenSpec.upto Rows.serialAgainSpec) own started (by kernel_rfl) Tryz.func4
    (witness_row_at (enc := enc) (C := Tryz.checked) false (laidIn (World.holding Tryz.prog os ⟨#[], #[], []⟩)) #[.agg #[.string ByteArray.empty, .string ByteArray.empty, .slice none 0 0, .string ByteArray.empty]] rfl (by kernel_rfl) (by kernel_rfl) (by kernel_rfl)
      (OpenSpec.preRow_of_cond 8 hx (by kernel_rfl) (fun k hk => by cases hk; kernel_rfl) (by kernel_rfl) (laid_met os))) ?_
  intro W base args ds gs before hval hW _ hcond _ hL hsh _
  exact contract H enc W base args ds gs before hsh hval hW (hcond _ rfl) hL

theorem row : Rows.SerialAgainUptoSaid :=
  OpenClaim.holds_of_cond 4 Tryz.f4 rfl rfl rfl rfl rfl rfl rfl ⟨rfl, rfl, rfl, rfl, rfl⟩ rfl rfl rfl rfl rfl (by kernel_rfl) Tryz.func4 (by kernel_rfl)
    (of_decide_eq_true (by kernel_rfl)) (by unfold Func.isWrapper; first | (rw [if_pos (by decide +kernel)]; kernel_rfl) | (rw [if_neg (by decide +kernel)]; exact ⟨rfl, rfl⟩))
    (fun os started H enc _ F => by rw [OpenClaim.pre_eq_preRow]; exact lifted os started H enc F)

theorem plain (f : FuncId) (fn : Func) (hf : Tryz.pinned.checked.prog.funcNamed "gatewicket/wickkeep.SerialAgain" = some f) (hfn : Tryz.pinned.checked.prog.funcs[f]? = some fn) :
    false = Tryz.pinned.checked.prog.looks [] ∧ ∀ (j : Nat) t, fn.params[j]? = some t → Tryz.pinned.checked.prog.wantsStandIn t = false := by
  obtain rfl : f = 4 := Option.some.inj ((show Tryz.prog.funcNamed "gatewicket/wickkeep.SerialAgain" = some 4 by kernel_rfl).symm.trans hf) |>.symm
  obtain rfl : fn = Tryz.f4 := (Option.some.inj (Tryz.func4.symm.trans hfn)).symm
  refine ⟨by kernel_rfl, fun j t ht => ?_⟩
  rw [Tryz.params4] at ht
  have hm : t = 26 := by simpa using Array.mem_of_getElem? ht
  subst hm
  exact (show Tryz.prog.wantsStandIn 26 = false by kernel_rfl)

theorem over : Rows.SerialAgainUptoCardSaid :=
  Claim7.holds_tied_plain_at .later [] _ _ _ _ row (fun _ h => by cases h) (by kernel_rfl) (fun _ h => by cases h) serialAgainUpto_row_tie rfl ⟨rfl, rfl⟩ (by kernel_rfl) rfl plain (by kernel_rfl)
end Go.Proofs.YtmgealcolofomaaGreatDoor.serialAgain
namespace Go.Proofs.YtmgealcolofomaaGreatDoor
theorem serialAgain_holds : Rows.SerialAgainUptoCardSaid := serialAgain.over
#print axioms serialAgain_holds
end Go.Proofs.YtmgealcolofomaaGreatDoor
