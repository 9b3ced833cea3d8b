/- Small steps that several texts share: no function of the program is read here. -/
import Derived.Test.YtmgealcolofomaaDoorKb
import Derived.Laws.OwnMore
import Derived.Lib.SmallJoins
import Derived.Lib.SlicesS
namespace Go.Proofs.YtmgealcolofomaaDoor
open Go.RowKit Kb
set_option linter.unusedVariables false
set_option maxRecDepth 20000

theorem bel_trans {w a b : World} (h : Below w.heap.size w a) (g : Below a.heap.size a b) : Below w.heap.size w b := h.trans (g.mono h.size)
theorem back_list (q : ByteArray) (l : List UInt8) (h : q.data.toList = l) : (⟨l.toArray⟩ : ByteArray) = q := (Kb.eq_list h).symm
theorem ex_list (l : List UInt8) : ∃ q : ByteArray, q.data.toList = l := ⟨⟨l.toArray⟩, by simp⟩
theorem eq_of_lists {a b : ByteArray} (h : a.data.toList = b.data.toList) : a = b := by rw [Kb.eq_list h]
theorem cat_data (a b : ByteArray) : (a ++ b).data.toList = a.data.toList ++ b.data.toList := by simp
theorem len_data (a : ByteArray) : a.data.toList.length = a.size := by simp
theorem own_below {w w' : World} {B e size n : Nat} {v : Value} {xs : List Value} (h : w.ownsRow B e size v n xs) (g : Below w.heap.size w w') : w'.ownsRow B e size v n xs := by
  obtain ⟨h1, h2⟩ := h
  refine ⟨h1, ?_⟩
  rcases h2 with h2 | ⟨b, cap, cur, h3, h4, h5, h6⟩
  · exact .inl h2
  · refine .inr ⟨b, cap, cur, h3, h4, ?_, h6⟩
    rw [g.block b (by
      rcases Nat.lt_or_ge b w.heap.size with hl | hl
      · exact hl
      · rw [Array.getElem?_eq_none hl] at h5; cases h5)]
    exact h5
theorem cell_below {w w' : World} {g j : Nat} {v : Value} (h : w.cell? ⟨g, j, none⟩ = some v) (hg : g < w.heap.size) (b : Below w.heap.size w w') : w'.cell? ⟨g, j, none⟩ = some v := by
  rw [b.cell (p := ⟨g, j, none⟩) hg]; exact h
theorem infoI64 : (Tryd.prog.info? 3).map (fun i => (i.zero, i.size, i.bytes)) = some (some (.int .i64 0), 1, 8) := by kernel_rfl
/-- texts as cells -/
def mk (l : List UInt8) : ByteArray := ⟨l.toArray⟩
def cellsS (l : List (List UInt8)) : List Value := l.map fun p => Value.string (mk p)
theorem cellsS_append (a b : List (List UInt8)) : cellsS (a ++ b) = cellsS a ++ cellsS b := by simp [cellsS]
theorem cellsS_length (l : List (List UInt8)) : (cellsS l).length = l.length := by simp [cellsS]
theorem mk_inj {a b : List UInt8} (h : mk a = mk b) : a = b := by
  have := congrArg (fun x : ByteArray => x.data.toList) h; simpa [mk] using this
theorem mk_data (q : ByteArray) : mk q.data.toList = q := (Kb.eq_list rfl).symm
theorem infoS : (Tryd.prog.info? 9).map (fun i => (i.zero, i.size, i.bytes)) = some (some (.string ByteArray.empty), 1, 16) := by kernel_rfl
theorem own_forms {w : World} {base size n : Nat} {e : TypeId} {v : Value} {xs : List Value} (h : w.ownsRow base e size v n xs) : ∃ o c, v = .slice o n c := by
  rcases h.2 with ⟨h1, h2⟩ | ⟨g, cap, cur, h1, _⟩
  · exact ⟨none, 0, by rw [h1, h2]⟩
  · exact ⟨_, _, h1⟩
theorem own_form {w : World} {base size n : Nat} {e : TypeId} {v : Value} {xs : List Value} (h : w.ownsRow base e size v n xs) (hn : 0 < n) : ∃ g c, v = .slice (some ⟨g, 0, none⟩) n c ∧ n ≤ c := by
  rcases h.2 with ⟨h1, h2⟩ | ⟨g, cap, cur, h1, _, _, h2, _⟩
  · omega
  · exact ⟨_, _, h1, h2⟩
theorem str_f {x y : ByteArray} (h : x ≠ y) : (x.toList == y.toList) = false := (Lib.bytes_beq_false_iff x y).2 h
theorem str_fl {x : ByteArray} {l : List UInt8} (h : x ≠ ⟨l.toArray⟩) : (x.toList == l) = false := by
  have := str_f h; rwa [Lib.toList_data ⟨l.toArray⟩] at this
def strSize : Value → Nat
  | .string x => x.size
  | _ => 0
theorem cat_mk (a b : List UInt8) : mk a ++ mk b = mk (a ++ b) := Kb.cat_list a b
end Go.Proofs.YtmgealcolofomaaDoor
