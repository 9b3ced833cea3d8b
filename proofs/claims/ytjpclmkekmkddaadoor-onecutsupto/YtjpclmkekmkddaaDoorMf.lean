/- Walks: a head's text, the program's and the document's. -/
import Derived.Test.YtjpclmkekmkddaaDoorMd
import Derived.Test.YtjpclmkekmkddaaDoorMe
import Derived.Test.YtjpclmkekmkddaaDoorShelf
namespace Go.Proofs.YtjpclmkekmkddaaDoor
open Go.RowKit Kb
set_option linter.unusedVariables false
set_option maxRecDepth 20000
open Mh (Fl)

namespace Mh
theorem joinTail_back (c : L8) : ∀ L : List L8, Lib.joinTail c L ++ c = c ++ (L.map fun l => l ++ c).flatten
  | [] => by simp [Lib.joinTail]
  | l :: r => by
    have ih := joinTail_back c r
    unfold Lib.joinTail at ih ⊢
    rw [List.map_cons, List.flatten_cons, List.append_assoc, ih]
    simp [List.append_assoc]
/-- the text as the document makes it, but for its last line -/
def docT (m t : L8) (fs : List Fl) : L8 := line0 m t ++ crlf ++ (fs.map fun f => lineOf f ++ crlf).flatten
theorem text_doc (m t : L8) (fs : List Fl) : docT m t fs ++ crlf = text m t fs := by
  have h := joinTail_back crlf (fs.map lineOf)
  rw [List.map_map] at h
  have h2 : ((fun l => l ++ crlf) ∘ lineOf) = (fun f => lineOf f ++ crlf) := rfl
  rw [h2] at h
  unfold docT text lines
  rw [Lib.join_cons, ← List.append_assoc, List.append_assoc (line0 m t) (Lib.joinTail crlf (fs.map lineOf)) crlf, h]
  simp only [List.append_assoc]
theorem docT_snoc (m t : L8) (fs : List Fl) (k : Nat) (f : Fl) (h : fs[k]? = some f) : docT m t (fs.take (k + 1)) = docT m t (fs.take k) ++ (lineOf f ++ crlf) := by
  unfold docT
  rw [List.take_add_one, h]
  simp [List.append_assoc]
theorem lines_snoc (m t : L8) (fs : List Fl) (k : Nat) (f : Fl) (h : fs[k]? = some f) : lines m t (fs.take (k + 1)) = lines m t (fs.take k) ++ [lineOf f] := by
  unfold lines
  rw [List.take_add_one, h]
  simp
theorem line0_len (m t : L8) : (line0 m t).length = m.length + t.length + 10 := by unfold line0 http; simp; omega
theorem lineOf_len (f : Fl) : (lineOf f).length = f.1.length + f.2.length + 2 := by unfold lineOf; simp; omega
theorem docT_len (m t : L8) : ∀ (fs : List Fl), (∀ f ∈ fs, fieldE f = 0) → (docT m t fs).length ≤ m.length + t.length + 12 + fs.length * 1004 := by
  intro fs
  unfold docT
  rw [List.length_append, List.length_append, line0_len]
  have : ∀ fs : List Fl, (∀ f ∈ fs, fieldE f = 0) → ((fs.map fun f => lineOf f ++ crlf).flatten).length ≤ fs.length * 1004 := by
    intro fs
    induction fs with
    | nil => simp
    | cons f r ih =>
      intro h
      have h1 := (fieldE_ok (h f (by simp))).2.2
      have h2 := ih (fun x hx => h x (List.mem_cons_of_mem _ hx))
      rw [List.map_cons, List.flatten_cons, List.length_append, List.length_append, lineOf_len, List.length_cons]
      have : crlf.length = 2 := rfl
      omega
  intro h
  have := this fs h
  have h2 : crlf.length = 2 := rfl
  omega
theorem text_len {m t : L8} {fs : List Fl} (h : check m t fs = 0) : (text m t fs).length ≤ 40000 := by
  obtain ⟨h1, _, h3, h4, h5⟩ := check_ok h
  rw [← text_doc, List.length_append]
  have h6 := docT_len m t fs h5
  have h7 := (method_mem h1).1
  have h2 : crlf.length = 2 := rfl
  omega
theorem lines_len {m t : L8} {fs : List Fl} (h : check m t fs = 0) : (Lib.join (lines m t fs) crlf).length ≤ 40000 := by
  have := text_len h
  unfold text at this
  rw [List.length_append] at this; omega
end Mh
theorem ret_si {a b : ByteArray} {c d : Int} (h : a = b) (g : c = d) : Ending.returned (.tuple #[.string a, .int .i64 c]) = .returned (.tuple #[.string b, .int .i64 d]) := by rw [h, g]
theorem head_load (W : World) (g : Nat) (x y v : Value) (fr : Nat × Nat) (h : W.heap[g]? = some (.cells #[x, y, v] 54 fr)) : (loadVar 54 ⟨g, 0, none⟩).run Tryd.prog W = .ok (.agg #[x, y, v]) W :=
  run_loadVar_row W g 54 54 #[x, y, v] fr _ h Tryd.underlying54 rfl (by kernel_rfl)
end Go.Proofs.YtjpclmkekmkddaaDoor
