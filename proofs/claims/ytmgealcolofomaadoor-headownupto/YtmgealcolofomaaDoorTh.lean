/- Walks: how long a body is, the program's Of. -/
import Derived.Test.YtmgealcolofomaaDoorTg
import Derived.Deep.RegionWith
import Derived.BigRegion
namespace Go.Proofs.YtmgealcolofomaaDoor
open Go.RowKit Kb
set_option linter.unusedVariables false
set_option maxRecDepth 20000
open Mh (Fl)

namespace Cu
/-- the names of the two fields -/
def nameL : List UInt8 := [67, 111, 110, 116, 101, 110, 116, 45, 76, 101, 110, 103, 116, 104]
def nameC : List UInt8 := [84, 114, 97, 110, 115, 102, 101, 114, 45, 69, 110, 99, 111, 100, 105, 110, 103]
def valsL (fs : List Fl) : List (List UInt8) := Mh.gets (lower nameL) fs
def valsC (fs : List Fl) : List (List UInt8) := Mh.gets (lower nameC) fs
/-- how long the body behind such fields is -/
def sizeOf (fs : List Fl) : Int × Int × Int := sizeE (valsL fs) (valsC fs)
end Cu
theorem gets_from {n x : List UInt8} {fs : List Fl} (h : x ∈ Mh.gets n fs) : ∃ f ∈ fs, f.2 = x := by
  unfold Mh.gets at h
  obtain ⟨f, hf, rfl⟩ := List.mem_map.1 h
  exact ⟨f, (List.mem_filter.1 hf).1, rfl⟩
theorem two_allocs (w : World) (x y u : Value) : ∃ W0, ((w.alloc (.cells #[x, y, u] 24)).alloc (.cells #[.int .i64 0, .int .i64 0] 52)) = W0 ∧ Below w.heap.size w W0 ∧ BX W0 w.heap.size (w.heap.size + 1) 0 0
    ∧ w.heap.size + 1 < W0.heap.size ∧ W0.cell? ⟨w.heap.size, 0, none⟩ = some x ∧ W0.cell? ⟨w.heap.size, 1, none⟩ = some y ∧ W0.cell? ⟨w.heap.size, 2, none⟩ = some u := by
  obtain ⟨z0, z1, z2⟩ := three_newF w x y u 24
  have b1 := (Below.refl w.heap.size w).alloc (Nat.le_refl _) (.cells #[x, y, u] 24)
  have hlt : w.heap.size < (w.alloc (.cells #[x, y, u] 24)).heap.size := by simp
  have b2 : Below (w.alloc (.cells #[x, y, u] 24)).heap.size _ _ := (Below.refl _ (w.alloc (.cells #[x, y, u] 24))).alloc (Nat.le_refl _) (.cells #[.int .i64 0, .int .i64 0] 52)
  refine ⟨_, rfl, bel_trans b1 b2, ?_, by simp, cell_below z0 hlt b2, cell_below z1 hlt b2, cell_below z2 hlt b2⟩
  have := BX.new (base := w.heap.size) (w.alloc (.cells #[x, y, u] 24)) (by omega) 0 0
  have e : (w.alloc (.cells #[x, y, u] 24)).heap.size = w.heap.size + 1 := by simp
  rw [e] at this
  exact this
set_option maxHeartbeats 4000000 in
theorem of_any (m t : List UInt8) (u : Value) (fs : List Fl) (w : World) (hu : Flds w u fs) (hfs : ∀ f ∈ fs, f.1.length + f.2.length ≤ 68719476736) (hn : fs.length ≤ 1099511627776) (r : Int × Int × Int) (hr : Cu.sizeOf fs = r) :
    Calls Tryd.prog 17 #[headV m t u] w fun e w' => e = .returned (.tuple #[.agg #[.int .i64 r.1, .int .i64 r.2.1], .int .i64 r.2.2]) ∧ Below w.heap.size w w' := by
  have HGET := hide (fun (name : ByteArray) (hz : name.size ≤ 68719476736) W (h : Below w.heap.size w W) => hget_any m t u fs name W (hu.below h) hz hfs _ rfl)
  unfold headV at HGET ⊢
  obtain ⟨o, c, rfl, hc⟩ := hu.form
  obtain ⟨x, hx⟩ : ∃ x, mk m = x := ⟨_, rfl⟩
  obtain ⟨y, hy⟩ : ∃ y, mk t = y := ⟨_, rfl⟩
  rw [hx, hy] at HGET ⊢
  clear hx hy hu
  unfold Cu.sizeOf at hr
  have hbL : ∀ n, (∀ x ∈ Mh.gets n fs, x.length ≤ 1099511627776) ∧ (Mh.gets n fs).length ≤ 1099511627776 := fun n => ⟨fun x hx => by
    obtain ⟨f, hf, rfl⟩ := gets_from hx
    have := hfs f hf; omega, Nat.le_trans (Mh.gets_len _ _) hn⟩
  obtain ⟨W0, hW0, bb, hX, hlt0, z0, z1, z2⟩ := two_allocs w (.string x) (.string y) (.slice o fs.length c)
  have B0 := hide bb
  have X0 := hide hX
  have hsz0 := bb.size
  have HN : ∀ (N : ByteArray) (hz : N.size ≤ 68719476736) (G : List (List UInt8)) (hG : Mh.gets (lower N.data.toList) fs = G), ∀ W, Below W0.heap.size W0 W → Calls Tryd.prog 46 #[.agg #[.string x, .string y, .slice o fs.length c], .string N] W fun e w' => ∃ oo cc, e = .returned (.slice oo G.length cc) ∧ w'.ownsRow W0.heap.size 9 1 (.slice oo G.length cc) G.length (cellsS G) ∧ Below W0.heap.size W0 w' ∧ Below W.heap.size W w'
      ∧ w'.cell? ⟨w.heap.size, 0, none⟩ = some (.string x) ∧ w'.cell? ⟨w.heap.size, 1, none⟩ = some (.string y) ∧ w'.cell? ⟨w.heap.size, 2, none⟩ = some (.slice o fs.length c) := by
    intro N hz G hG W hW
    subst hG
    refine ((unhide HGET) N hz W (bel_trans bb hW)).mono ?_
    rintro e w' ⟨v, rfl, own, b⟩
    obtain ⟨oo, cc, rfl⟩ := own_forms own
    have b2 := bel_trans hW b
    exact ⟨oo, cc, rfl, own_mono2 own hW.size, b2, b, cell_below z0 (by omega) b2, cell_below z1 (by omega) b2, cell_below z2 (by omega) b2⟩
  obtain ⟨A, hA⟩ : ∃ A, Cu.valsL fs = A := ⟨_, rfl⟩
  obtain ⟨B, hB⟩ : ∃ B, Cu.valsC fs = B := ⟨_, rfl⟩
  have HL := hide (HN ⟨#[67, 111, 110, 116, 101, 110, 116, 45, 76, 101, 110, 103, 116, 104]⟩ (by decide) A hA)
  have HC := hide (HN ⟨#[84, 114, 97, 110, 115, 102, 101, 114, 45, 69, 110, 99, 111, 100, 105, 110, 103]⟩ (by decide) B hB)
  have hbA := hbL (lower Cu.nameL)
  have hbB := hbL (lower Cu.nameC)
  rw [show Mh.gets (lower Cu.nameL) fs = A from hA] at hbA
  rw [show Mh.gets (lower Cu.nameC) fs = B from hB] at hbB
  rw [hA, hB] at hr
  have HR := hide hr
  have HDN : Hid (∀ (W : World) (a b : Int), BX W w.heap.size (w.heap.size + 1) a b → Below w.heap.size w W → ∀ x' y' : Int, Below w.heap.size w (putB W (w.heap.size + 1) x' y')) := hide (fun W a b hx hB x' y' => hB.grown (hx.put x' y').2 hB.size (fun q hq => by have := Option.some.inj hq; omega))
  have HOL := hide (fun (hne : A ≠ []) W oo cc (h : W.ownsRow W0.heap.size 9 1 (.slice oo A.length cc) A.length (cellsS A)) => ofLengths_any (.slice oo A.length cc) A W0.heap.size W h hne hbA.1 hbA.2 _ rfl)
  have HOC := hide (fun (hne : B ≠ []) W oo cc (h : W.ownsRow W0.heap.size 9 1 (.slice oo B.length cc) B.length (cellsS B)) => ofCodings_any (.slice oo B.length cc) B W0.heap.size W h hne hbB.1 hbB.2 _ rfl)
  have hR0 := Below.refl W0.heap.size W0
  clear HN HGET hbL hfs hr bb hX hA hB hbA hbB
  have HB0 := hide hR0
  clear hR0
  go_enter Tryd.func17, Tryd.ntmps17
  go_wp2_with fail
  clear hW0
  go_region_with (first
    | (go_at_call_of 46 ({ data := #[67, 111, 110, 116, 101, 110, 116, 45, 76, 101, 110, 103, 116, 104] } : ByteArray); refine ((unhide HL) _ ?_).mono ?_; (first | assumption | exact (unhide HB0).drew | exact unhide HB0); rintro e wA ⟨oA, cA, rfl, ownA, BA, bA, z0, z1, z2⟩)
    | (go_at_call_of 46 ({ data := #[84, 114, 97, 110, 115, 102, 101, 114, 45, 69, 110, 99, 111, 100, 105, 110, 103] } : ByteArray); refine ((unhide HC) _ ?_).mono ?_; (first | assumption | exact (unhide HB0).drew | exact unhide HB0); rintro e wB ⟨oB, cB, rfl, ownB, BB, bB, z0, z1, z2⟩))
  all_goals (
    first
    | (have OA := hide (own_below ownA bB); have OB := hide ownB; have BF := hide BB)
    | (have OA := hide ownA; have OB := hide (own_below ownB bA); have BF := hide BA)
    clear ownA ownB bA bB BA BB HL HC HB0
    have X1 := hide ((unhide X0).below (unhide BF))
    have BW := hide (bel_trans (unhide B0) (unhide BF))
    obtain ⟨y0, y1⟩ := (unhide X1).cells
    obtain ⟨g0, g1⟩ := (unhide X1).frozen
    by_cases ha : A = []
    · subst ha
      by_cases hb : B = []
      · subst hb
        have HP : Hid (r = (1, 0, 0)) := hide (by rw [← unhide HR]; rfl)
        have P1 := hide ((unhide X1).loaded 1 0)
        have P2 := hide ((unhide HDN) _ _ _ (unhide X1) (unhide BW) 1 0)
        go_wp2_with fail
        (try simp only [Exit.inBlock, Exit.then])
        refine bodyPost_ret_by (v := .tuple #[.agg #[.int .i64 1, .int .i64 0], .int .i64 0]) ?_ rfl ⟨by rw [unhide HP], unhide P2⟩
        refine results_cb (p := 2) (u := 3) (ty := 52) ?_ _ _ (w.heap.size + 1) _ ?_ (unhide P1) _ ?_ <;> rfl
      · have hb0 : ¬ ((B.length : Int) = 0) := by have := List.length_pos_iff.2 hb; omega
        have HQ : Hid (Cu.cods B = r) := hide (by rw [← unhide HR]; unfold Cu.sizeE; rw [if_neg (fun h => hb h.2), if_neg hb, if_pos rfl])
        rw [unhide HQ] at HOC
        have H5 := hide ((unhide HOC) hb _ oB cB (unhide OB))
        obtain ⟨r1, r2, r3⟩ := r
        clear HOL HOC
        go_wp2_with fail
        refine (unhide H5).mono ?_; rintro e w5 ⟨rfl, b5⟩
        have X5 := hide ((unhide X1).below b5)
        have P1 := hide ((unhide X5).loaded r1 r2)
        have P2 := hide ((unhide HDN) _ _ _ (unhide X5) (bel_trans (unhide BW) b5) r1 r2)
        clear b5 y0 y1 g0 g1
        obtain ⟨y0, y1⟩ := (unhide X5).cells
        obtain ⟨g0, g1⟩ := (unhide X5).frozen
        go_wp2_with fail
        (try simp only [Exit.inBlock, Exit.then])
        refine bodyPost_ret_by (v := .tuple #[.agg #[.int .i64 r1, .int .i64 r2], .int .i64 r3]) ?_ rfl ⟨rfl, unhide P2⟩
        refine results_cb (p := 2) (u := 3) (ty := 52) ?_ _ _ (w.heap.size + 1) _ ?_ (unhide P1) _ ?_ <;> rfl
    · have ha0 : ¬ ((A.length : Int) = 0) := by have := List.length_pos_iff.2 ha; omega
      by_cases hb : B = []
      · subst hb
        have HQ : Hid (Cu.lens A = r) := hide (by rw [← unhide HR]; unfold Cu.sizeE; rw [if_neg (fun h => ha h.1), if_pos rfl])
        rw [unhide HQ] at HOL
        have H5 := hide ((unhide HOL) ha _ oA cA (unhide OA))
        obtain ⟨r1, r2, r3⟩ := r
        clear HOL HOC
        go_wp2_with fail
        refine (unhide H5).mono ?_; rintro e w5 ⟨rfl, b5⟩
        have X5 := hide ((unhide X1).below b5)
        have P1 := hide ((unhide X5).loaded r1 r2)
        have P2 := hide ((unhide HDN) _ _ _ (unhide X5) (bel_trans (unhide BW) b5) r1 r2)
        clear b5 y0 y1 g0 g1
        obtain ⟨y0, y1⟩ := (unhide X5).cells
        obtain ⟨g0, g1⟩ := (unhide X5).frozen
        go_wp2_with fail
        (try simp only [Exit.inBlock, Exit.then])
        refine bodyPost_ret_by (v := .tuple #[.agg #[.int .i64 r1, .int .i64 r2], .int .i64 r3]) ?_ rfl ⟨rfl, unhide P2⟩
        refine results_cb (p := 2) (u := 3) (ty := 52) ?_ _ _ (w.heap.size + 1) _ ?_ (unhide P1) _ ?_ <;> rfl
      · have hb0 : ¬ ((B.length : Int) = 0) := by have := List.length_pos_iff.2 hb; omega
        have HP : Hid (r = (0, 0, 4)) := hide (by rw [← unhide HR]; unfold Cu.sizeE; rw [if_neg (fun h => ha h.1), if_neg hb, if_neg ha])
        have P1 := hide ((unhide X1).loaded 0 0)
        have P2 := hide ((unhide HDN) _ _ _ (unhide X1) (unhide BW) 0 0)
        go_wp2_with fail
        (try simp only [Exit.inBlock, Exit.then])
        refine bodyPost_ret_by (v := .tuple #[.agg #[.int .i64 0, .int .i64 0], .int .i64 4]) ?_ rfl ⟨by rw [unhide HP], unhide P2⟩
        refine results_cb (p := 2) (u := 3) (ty := 52) ?_ _ _ (w.heap.size + 1) _ ?_ (unhide P1) _ ?_ <;> rfl
  )
end Go.Proofs.YtmgealcolofomaaDoor
