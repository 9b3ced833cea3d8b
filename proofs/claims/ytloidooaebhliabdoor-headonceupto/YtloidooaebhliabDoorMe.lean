/- Walks: the values of fields of one name, the program's and the document's. -/
import Derived.Test.YtloidooaebhliabDoorMb
import Derived.Test.YtloidooaebhliabDoorKd
import Derived.Test.YtloidooaebhliabDoorRc
import Derived.Laws.OwnMore
namespace Go.Proofs.YtloidooaebhliabDoor
open Go.RowKit Kb
set_option linter.unusedVariables false
set_option maxRecDepth 20000
open Mh (Fl)

namespace Mh
/-- the values of the fields that have a name (in small letters) -/
def gets (n : L8) (fs : List Fl) : List L8 := (fs.filter fun f => decide (lower f.1 = n)).map (·.2)
theorem gets_snoc (n : L8) (fs : List Fl) (k : Nat) (f : Fl) (h : fs[k]? = some f) : gets n (fs.take (k + 1)) = gets n (fs.take k) ++ (if lower f.1 = n then [f.2] else []) := by
  unfold gets
  rw [List.take_add_one, h]
  simp only [Option.toList, List.filter_append, List.map_append]
  congr 1
  by_cases e : lower f.1 = n
  · rw [if_pos e, List.filter_cons_of_pos (by simpa using e)]; rfl
  · rw [if_neg e, List.filter_cons_of_neg (by simpa using e)]; rfl
theorem gets_len (n : L8) (fs : List Fl) : (gets n fs).length ≤ fs.length := by
  unfold gets; rw [List.length_map]; exact List.length_filter_le _ _
end Mh
theorem eq_t {a b : ByteArray} (h : a = b) : (a.toList == b.toList) = true := by rw [h]; simp
theorem own_mono2 {w : World} {B B' e size n : Nat} {v : Value} {xs : List Value} (h : w.ownsRow B e size v n xs) (hB : B' ≤ B) : w.ownsRow B' e size v n xs := by
  obtain ⟨h1, h2⟩ := h
  refine ⟨h1, ?_⟩
  rcases h2 with h2 | ⟨b, cap, cur, h3, h4, h5⟩
  · exact .inl h2
  · exact .inr ⟨b, cap, cur, h3, Nat.le_trans hB h4, h5⟩
theorem cell_one_n (w : World) (a : Value) (t : TypeId) : ∀ j u, [a][j]? = some u → (w.alloc (.cells #[a] t)).cell? ((⟨w.heap.size, 0, none⟩ : Addr).add j) = some u := by
  intro j u hj
  rw [Addr.add_lit, Nat.zero_add, World.cell?_alloc_new w _ _ j]
  simpa using hj
theorem cell_one_b (w : World) (a : Value) (t : TypeId) (b : Nat) (hb : w.heap.size = b) : ∀ j u, [a][j]? = some u → (w.alloc (.cells #[a] t)).cell? ((⟨b, 0, none⟩ : Addr).add j) = some u := by
  subst hb; exact cell_one_n w a t
theorem two_newF (w : World) (a b : Value) (t : TypeId) : (w.alloc (.cells #[a, b] t)).cell? ⟨w.heap.size, 0, none⟩ = some a ∧ (w.alloc (.cells #[a, b] t)).cell? ⟨w.heap.size, 1, none⟩ = some b :=
  ⟨by rw [World.cell?_alloc_new]; rfl, by rw [World.cell?_alloc_new]; rfl⟩
theorem three_newF (w : World) (a b c : Value) (t : TypeId) : (w.alloc (.cells #[a, b, c] t)).cell? ⟨w.heap.size, 0, none⟩ = some a ∧ (w.alloc (.cells #[a, b, c] t)).cell? ⟨w.heap.size, 1, none⟩ = some b ∧ (w.alloc (.cells #[a, b, c] t)).cell? ⟨w.heap.size, 2, none⟩ = some c :=
  ⟨by rw [World.cell?_alloc_new]; rfl, by rw [World.cell?_alloc_new]; rfl, by rw [World.cell?_alloc_new]; rfl⟩
end Go.Proofs.YtloidooaebhliabDoor
