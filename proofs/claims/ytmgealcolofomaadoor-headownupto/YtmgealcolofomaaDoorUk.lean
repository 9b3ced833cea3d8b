/- A request that came in. -/
import Derived.Test.YtmgealcolofomaaDoorUB
import Derived.Deep.Slices
import Derived.Deep.Strs
import Derived.OpenShut
import Derived.Carry
import Derived.WideShapes
namespace Go.Proofs.YtmgealcolofomaaDoor
open Go.RowKit Kb Go.ChangeShapes Go.WideShapes Go.Joins
set_option linter.unusedVariables false
set_option maxRecDepth 20000
open Mh (Fl)
set_option maxRecDepth 100000 in
theorem open_req_in {H : Type} {enc : TypeId × Value → H} {W : World} {base : Nat} {v : Value} {d : DataW H} {p : List MemPlace}
    (hval : Value.okWide Tryd.prog W .any base 26 v) (h : DataW.Trod enc Tryd.prog W 0 (fun _ => true) true 26 v d p) (hk : Rows.uptoBulk d ≤ 1048576) :
    ∃ m t u fs b, v = reqV m t u b ∧ Flds W u fs ∧ (m.length + t.length ≤ 1048576 ∧ fs.length ≤ 1048576 ∧ b.length ≤ 1048576 ∧ ∀ f ∈ fs, f.1.length + f.2.length ≤ 1048576) ∧ ∀ x ∈ p, x.block < W.heap.size := by
  obtain ⟨cs, rfl, hcs⟩ := okWide_struct Tryd.underlying26 hval
  obtain ⟨fuel, hf⟩ := h
  obtain ⟨y0, y1, mm, hx, hl, t0, t1⟩ := trod_struct2 Tryd.underlying26 hf
  have cr : Tryd.prog.cellsOf 26 = 4 := by kernel_rfl
  have ch : Tryd.prog.cellsOf 24 = 3 := by kernel_rfl
  have ks : Tryd.prog.cellsOf 9 = 1 := by kernel_rfl
  have kf : Tryd.prog.cellsOf 22 = 1 := by kernel_rfl
  rw [cr] at hl
  obtain ⟨cs⟩ := cs
  simp only [Value.cells] at hl t0 t1
  match cs, hl with
  | [c0, c1, c2, c3], _ =>
    simp only [ch, ks, List.drop, List.take] at t0 t1
    obtain ⟨s3, e3, rfl, w3⟩ := DataW.trod_string Tryd.underlying9 t1
    simp at e3
    subst e3
    obtain ⟨z0, z1, z2, nn, hz, hl2, r0, r1, r2⟩ := Deep.trod_struct3 Tryd.underlying24 t0
    simp only [ks, kf, List.drop, List.take] at r0 r1 r2
    obtain ⟨s0, e0, rfl, w0⟩ := DataW.trod_string Tryd.underlying9 r0
    obtain ⟨s1, e1, rfl, w1⟩ := DataW.trod_string Tryd.underlying9 r1
    simp at e0 e1
    subst e0 e1 hz
    simp only [Prod.mk.injEq] at hx
    obtain ⟨hx1, hx2⟩ := hx
    subst hx1 hx2
    simp only [Rows.uptoBulk, Rows.uptoBulkAll] at hk
    obtain ⟨fs, hF, hb, hp⟩ := flds_of_cells r2 (by omega)
    refine ⟨s0.data.toList, s1.data.toList, c2, fs, s3.data.toList, by rw [reqV, mk_data, mk_data, mk_data], hF, ⟨?_, hb.1, ?_, hb.2⟩, ?_⟩
    · simp at hk ⊢; omega
    · simp at hk ⊢; omega
    · intro q hq
      simp at hq
      exact hp q hq
end Go.Proofs.YtmgealcolofomaaDoor
