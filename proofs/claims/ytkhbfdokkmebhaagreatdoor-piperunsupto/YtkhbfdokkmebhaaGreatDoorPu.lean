/- One behind the other: the program's transformed and Run. -/
import Derived.Test.YtkhbfdokkmebhaaGreatDoorPi
import Derived.Test.YtkhbfdokkmebhaaGreatDoorWk
import Derived.Test.YtkhbfdokkmebhaaGreatDoorXb
import Derived.Test.YtkhbfdokkmebhaaGreatDoorWt
import Derived.Lib.ItoaLen
import Derived.Lib.AppendIntMem
import Derived.Lib.LaidTab
namespace Go.Proofs.YtkhbfdokkmebhaaGreatDoor
open Go.RowKit Kb
set_option linter.unusedVariables false
set_option maxRecDepth 20000
namespace Pt

/-- the transformation of the number n + 1 -/
def tr : Nat → List UInt8 → List UInt8
  | 0, s => lower s
  | 1, s => Cd.urlDec s
  | 2, s => (Cd.hexDec s).getD s
  | 3, s => (C6.dec64 s).getD s
  | 4, s => Ch.htmlDec s
  | 5, s => Cp.path s
  | 6, s => Cq.sqz false s
  | 7, s => Cq.wo [0] s
  | 8, s => trim s
  | 9, s => Lib.itoa s.length
  | _, s => Cq.cmd s
def trans (k : Int) (s : List UInt8) : List UInt8 := tr (k - 1).toNat s
def piped (l : List Int) (s : List UInt8) : List UInt8 := l.foldl (fun s k => trans k s) s
def runV (l : List Int) (s : List UInt8) : List UInt8 := if Pw.check l = 0 ∧ s.length ≤ 8192 then piped l s else []
def runE (l : List Int) (s : List UInt8) : Int := if Pw.check l = 0 then (if 8192 < s.length then 2 else 0) else Pw.check l
theorem trans_nat (n : Nat) (s : List UInt8) : trans ((n : Int) + 1) s = tr n s := by unfold trans; rw [show ((n : Int) + 1 - 1).toNat = n by omega]

theorem tr_len (n : Nat) (s : List UInt8) (hs : s.length ≤ 4294960000) : (tr n s).length ≤ s.length + 21 := by
  match n with
  | 0 => show (lower s).length ≤ _; unfold lower; rw [List.length_map]; omega
  | 1 => show (Cd.urlDec s).length ≤ _; have := Cd.scan_len Cd.us _ s (Nat.le_refl _); unfold Cd.urlDec; omega
  | 2 =>
    show ((Cd.hexDec s).getD s).length ≤ _
    cases h : Cd.hexDec s with
    | none => show s.length ≤ _; omega
    | some m => have := Cd.hexDec_len _ s m (Nat.le_refl _) h; show m.length ≤ _; omega
  | 3 =>
    show ((C6.dec64 s).getD s).length ≤ _
    cases h : C6.dec64 s with
    | none => show s.length ≤ _; omega
    | some m => have := dec_len h; show m.length ≤ _; omega
  | 4 => show (Ch.htmlDec s).length ≤ _; have := Cd.scan_len Ch.hs _ s (Nat.le_refl _); unfold Ch.htmlDec; omega
  | 5 => have := Cp.path_len s; show (Cp.path s).length ≤ _; omega
  | 6 => have := Cq.sqz_len s false; show (Cq.sqz false s).length ≤ _; omega
  | 7 => have := Cq.wo_len [0] s; show (Cq.wo [0] s).length ≤ _; omega
  | 8 => have := trim_len s; show (trim s).length ≤ _; omega
  | 9 => have := Lib.itoa_length_le (s.length : Int) (by omega) (by omega); show (Lib.itoa (s.length : Int)).length ≤ _; omega
  | n + 10 => have := Cq.cmd_len s; show (Cq.cmd s).length ≤ _; omega
theorem piped_snoc (l : List Int) (k : Nat) (z : Int) (s : List UInt8) (h : l[k]? = some z) : piped (l.take (k + 1)) s = trans z (piped (l.take k) s) := by
  unfold piped; rw [List.take_add_one, h, List.foldl_append]; rfl
theorem piped_len (s : List UInt8) (hs : s.length ≤ 1048576) : ∀ (l : List Int), l.length ≤ 8 → (piped l s).length ≤ s.length + 21 * l.length := by
  intro l h8
  have key : ∀ k, k ≤ l.length → (piped (l.take k) s).length ≤ s.length + 21 * k := by
    intro k
    induction k with
    | zero => intro _; show s.length ≤ _; omega
    | succ k ih =>
      intro hk
      have h1 := ih (by omega)
      rw [piped_snoc l k l[k] s (List.getElem?_eq_getElem (by omega))]
      have := tr_len (l[k] - 1).toNat (piped (l.take k) s) (by omega)
      unfold trans; omega
  have := key l.length (Nat.le_refl _)
  rwa [List.take_length] at this
theorem piped_append (a b : List Int) (s : List UInt8) : piped (a ++ b) s = piped b (piped a s) := by unfold piped; rw [List.foldl_append]
end Pt

theorem tab_below {w w' : World} {name : String} {k : IntKind} {zs : List Int} (h : Lib.TabIs Tryz.prog w name k zs) (b : Below w.heap.size w w') : Lib.TabIs Tryz.prog w' name k zs := by
  unfold Lib.TabIs at *
  unfold World.var? at *
  cases hg : Tryz.prog.globalNamed name with
  | none => rw [hg] at h; cases h
  | some g =>
    rw [hg, Option.bind_some] at h
    rw [Option.bind_some]
    have hlt : g < w.heap.size := by
      rcases Nat.lt_or_ge g w.heap.size with hl | hl
      · exact hl
      · rw [Array.getElem?_eq_none hl] at h; cases h
    rw [b.block g hlt]; exact h
theorem itoa_at (k : Int) (w : World) (h0 : 0 ≤ k) (h1 : k < 1000000000000) (ht : Lib.TabIs Tryz.prog w "internal/strconv.uint64pow10" .u64 Lib.pow10Tab) :
    Calls Tryz.prog 19 #[.int .i64 k] w fun e w' => e = .returned (.string ⟨(Lib.itoa k).toArray⟩) ∧ Below w.heap.size w w' := by
  refine (Tryz.strconv_Itoa k (by omega) (by omega) w ht).mono ?_
  rintro e w' ⟨rfl, j, os, rfl⟩
  exact ⟨rfl, Lib.below_grow _ w (Nat.le_refl _) j os⟩

set_option maxHeartbeats 2000000 in
theorem same_hex (s q : ByteArray) (hq : q.data.toList = (Cd.hexDec s.data.toList).getD s.data.toList) (hs : s.size ≤ 68719476736) (w : World) :
    Calls Tryz.prog 24 #[.func (.func 25) #[] #[], .string s] w fun e w' => e = .returned (.string q) ∧ Below w.heap.size w w' := by
  cases hd : Cd.hexDec s.data.toList with
  | none =>
    have H1 := hide (hd_bad s hd hs w)
    obtain rfl : q = s := by rw [hd] at hq; exact eq_of_lists hq
    clear hd hq
    go_enter Tryz.func24, Tryz.ntmps24
    go_wp2_with fail
    refine (unhide H1).mono ?_; rintro e w1 ⟨rfl, b1⟩
    have B1 := hide b1; clear b1
    go_wp2
    go_ret
    exact ⟨rfl, unhide B1⟩
  | some m =>
    have H1 := hide (hd_at s q (by rw [hd] at hq ⊢; rw [hq]; rfl) hs w)
    clear hd hq
    go_enter Tryz.func24, Tryz.ntmps24
    go_wp2_with fail
    refine (unhide H1).mono ?_; rintro e w1 ⟨rfl, b1⟩
    have B1 := hide b1; clear b1
    go_wp2
    go_ret
    exact ⟨rfl, unhide B1⟩
set_option maxHeartbeats 2000000 in
theorem same_b64 (s q : ByteArray) (hq : q.data.toList = (C6.dec64 s.data.toList).getD s.data.toList) (hs : s.size ≤ 68719476736) (w : World) :
    Calls Tryz.prog 24 #[.func (.func 26) #[] #[], .string s] w fun e w' => e = .returned (.string q) ∧ Below w.heap.size w w' := by
  cases hd : C6.dec64 s.data.toList with
  | none =>
    have H1 := hide (bd_bad s hd hs w)
    obtain rfl : q = s := by rw [hd] at hq; exact eq_of_lists hq
    clear hd hq
    go_enter Tryz.func24, Tryz.ntmps24
    go_wp2_with fail
    refine (unhide H1).mono ?_; rintro e w1 ⟨rfl, b1⟩
    have B1 := hide b1; clear b1
    go_wp2
    go_ret
    exact ⟨rfl, unhide B1⟩
  | some m =>
    have H1 := hide (bd_at s q (by rw [hd] at hq ⊢; rw [hq]; rfl) hs w)
    clear hd hq
    go_enter Tryz.func24, Tryz.ntmps24
    go_wp2_with fail
    refine (unhide H1).mono ?_; rintro e w1 ⟨rfl, b1⟩
    have B1 := hide b1; clear b1
    go_wp2
    go_ret
    exact ⟨rfl, unhide B1⟩

theorem trim_at (s q : ByteArray) (hq : q.data.toList = trim s.data.toList) (hs : s.size ≤ 68719476736) (w : World) :
    Calls Tryz.prog 31 #[.string s] w fun e w' => e = .returned (.string q) ∧ Below w.heap.size w w' := by
  have := trim_any s w hs; rwa [back_list q _ hq] at this
theorem len_at (s q : ByteArray) (hq : q.data.toList = Lib.itoa (s.data.toList.length : Int)) (hs : s.size ≤ 68719476736) (w : World) (ht : Lib.TabIs Tryz.prog w "internal/strconv.uint64pow10" .u64 Lib.pow10Tab) :
    Calls Tryz.prog 19 #[.int .i64 (s.size : Int)] w fun e w' => e = .returned (.string q) ∧ Below w.heap.size w w' := by
  have := itoa_at (s.size : Int) w (by omega) (by omega) ht
  rw [len_data] at hq
  rwa [back_list q _ hq] at this

set_option maxHeartbeats 4000000 in
theorem trans_goal (n : Nat) (hn : n < 11) (s q : ByteArray) (hq : q.data.toList = Pt.tr n s.data.toList) (hs : s.size ≤ 1100000) (m : Int) (w : World)
    (hm : w.cell? ⟨1, 0, none⟩ = some (.int .i64 m)) (ht : Lib.TabIs Tryz.prog w "internal/strconv.uint64pow10" .u64 Lib.pow10Tab) :
    Calls Tryz.prog 9 #[.int .i64 ((n : Int) + 1), .string s] w fun e w' => e = .returned (.string q) ∧ Below w.heap.size w w' := by
  match n, hn with
  | 0, _ =>
    have H1 := hide (low_at s q hq (by omega) w)
    clear hq hm ht
    go_enter Tryz.func9, Tryz.ntmps9
    go_wp2_with fail
    refine (unhide H1).mono ?_; rintro e w1 ⟨rfl, b1⟩
    have B1 := hide b1; clear b1
    go_wp2
    go_ret
    exact ⟨rfl, unhide B1⟩
  | 1, _ =>
    have H1 := hide (ud_at s q hq (by omega) w)
    clear hq hm ht
    go_enter Tryz.func9, Tryz.ntmps9
    go_wp2_with fail
    refine (unhide H1).mono ?_; rintro e w1 ⟨rfl, b1⟩
    have B1 := hide b1; clear b1
    go_wp2
    go_ret
    exact ⟨rfl, unhide B1⟩
  | 2, _ =>
    have H1 := hide (same_hex s q hq (by omega) w)
    clear hq hm ht
    go_enter Tryz.func9, Tryz.ntmps9
    go_wp2_with fail
    refine (unhide H1).mono ?_; rintro e w1 ⟨rfl, b1⟩
    have B1 := hide b1; clear b1
    go_wp2
    go_ret
    exact ⟨rfl, unhide B1⟩
  | 3, _ =>
    have H1 := hide (same_b64 s q hq (by omega) w)
    clear hq hm ht
    go_enter Tryz.func9, Tryz.ntmps9
    go_wp2_with fail
    refine (unhide H1).mono ?_; rintro e w1 ⟨rfl, b1⟩
    have B1 := hide b1; clear b1
    go_wp2
    go_ret
    exact ⟨rfl, unhide B1⟩
  | 4, _ =>
    have H1 := hide (ht_at s q hq (by omega) w)
    clear hq hm ht
    go_enter Tryz.func9, Tryz.ntmps9
    go_wp2_with fail
    refine (unhide H1).mono ?_; rintro e w1 ⟨rfl, b1⟩
    have B1 := hide b1; clear b1
    go_wp2
    go_ret
    exact ⟨rfl, unhide B1⟩
  | 5, _ =>
    have H1 := hide (path_at s q hq (by omega) m w hm)
    clear hq hm ht
    go_enter Tryz.func9, Tryz.ntmps9
    go_wp2_with fail
    refine (unhide H1).mono ?_; rintro e w1 ⟨rfl, b1⟩
    have B1 := hide b1; clear b1
    go_wp2
    go_ret
    exact ⟨rfl, unhide B1⟩
  | 6, _ =>
    have H1 := hide (sq_at s q hq (by omega) w)
    clear hq hm ht
    go_enter Tryz.func9, Tryz.ntmps9
    go_wp2_with fail
    refine (unhide H1).mono ?_; rintro e w1 ⟨rfl, b1⟩
    have B1 := hide b1; clear b1
    go_wp2
    go_ret
    exact ⟨rfl, unhide B1⟩
  | 7, _ =>
    have H1 := hide (nn_at s q hq (by omega) w)
    clear hq hm ht
    go_enter Tryz.func9, Tryz.ntmps9
    go_wp2_with fail
    refine (unhide H1).mono ?_; rintro e w1 ⟨rfl, b1⟩
    have B1 := hide b1; clear b1
    go_wp2
    go_ret
    exact ⟨rfl, unhide B1⟩
  | 8, _ =>
    have H1 := hide (trim_at s q hq (by omega) w)
    clear hq hm ht
    go_enter Tryz.func9, Tryz.ntmps9
    go_wp2_with fail
    refine (unhide H1).mono ?_; rintro e w1 ⟨rfl, b1⟩
    have B1 := hide b1; clear b1
    go_wp2
    go_ret
    exact ⟨rfl, unhide B1⟩
  | 9, _ =>
    have H1 := hide (len_at s q hq (by omega) w ht)
    clear hq hm ht
    go_enter Tryz.func9, Tryz.ntmps9
    go_wp2_with fail
    refine (unhide H1).mono ?_; rintro e w1 ⟨rfl, b1⟩
    have B1 := hide b1; clear b1
    go_wp2
    go_ret
    exact ⟨rfl, unhide B1⟩
  | 10, _ =>
    have H1 := hide (cmd_at s q hq (by omega) m w hm)
    clear hq hm ht
    go_enter Tryz.func9, Tryz.ntmps9
    go_wp2_with fail
    refine (unhide H1).mono ?_; rintro e w1 ⟨rfl, b1⟩
    have B1 := hide b1; clear b1
    go_wp2
    go_ret
    exact ⟨rfl, unhide B1⟩
end Go.Proofs.YtkhbfdokkmebhaaGreatDoor
