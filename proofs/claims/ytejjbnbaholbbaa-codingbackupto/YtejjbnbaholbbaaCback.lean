/- For every text s of bulk at most 1048576, the call of CodingBack returns true and leaves its argument as it was; the condition is the bulk. -/
import Derived.Test.YtejjbnbaholbbaaRows
import Derived.WalkKit
import Derived.ProofKit
import Derived.OpenShut
import Derived.ShutString
import Derived.JoinedCond
import Derived.Test.YtejjbnbaholbbaaWk
import Derived.Test.YtejjbnbaholbbaaWrap
namespace Go.Proofs.Ytejjbnbaholbbaa.codingBack
open Go.ChangeShapes Go.WideShapes Go.ChangeAt Go.RowKit
open Go.ChangeMaps (open_string shut_string)
open Kb
set_option linter.unusedVariables false

set_option maxHeartbeats 8000000 in
theorem walk (s : ByteArray) (hs : s.size ≤ 1048576) (w : World) :
    Calls Try.prog 5 #[.string s] w fun e w' => e = .returned (.bool true) ∧ Below w.heap.size w w' := by
  obtain ⟨x1, hx1⟩ := ex_list (Cd.urlEnc s.data.toList)
  obtain ⟨x2, hx2⟩ := ex_list (Cd.hexEnc s.data.toList)
  obtain ⟨x3, hx3⟩ := ex_list (C6.enc64 s.data.toList)
  have s1 : x1.size ≤ 3 * s.size := by rw [← len_data, hx1, ← len_data s]; exact Cd.urlEnc_len _
  have s2 : x2.size = 2 * s.size := by rw [← len_data, hx2, Cd.hexEnc_len, len_data]
  have s3 : x3.size = (s.size + 2) / 3 * 4 := by rw [← len_data, hx3, C6.enc_len, len_data]
  have P1 := hide (plain_at x1 (by rw [hx1]; exact Cd.url_plain _))
  have P2 := hide (plain_at x2 (by rw [hx2]; exact Cd.hex_plain _))
  have P3 := hide (plain_at x3 (by rw [hx3]; exact C6.enc_plain _))
  have A1 := hide (he_at s x2 hx2 (by omega))
  have A2 := hide (hd_at x2 s (by rw [hx2]; exact Cd.hex_back _) (by omega))
  have B1 := hide (be_at s x3 hx3 (by omega))
  have B2 := hide (bd_at x3 s (by rw [hx3]; exact C6.dec_enc _) (by omega))
  have C1 := hide (ue_at s x1 hx1 (by omega))
  have C2 := hide (ud_at x1 s (by rw [hx1]; exact (Cd.url_back _).symm) (by omega))
  have k1 : x1.size ≤ 3145728 ∧ x2.size ≤ 2097152 ∧ x3.size ≤ 2097152 := by omega
  have k2 : (x2.size : Int) = 2 * (s.size : Int) := by omega
  have k3 : Int.tmod (x3.size : Int) 4 = 0 := by rw [Int.tmod_eq_emod_of_nonneg (by omega)]; omega
  have k4 : (x3.size : Int) % 4 = 0 := by omega
  obtain ⟨k5, k6, k7⟩ := k1
  clear hx1 hx2 hx3 s1 s2 s3
  go_enter Try.func5, Try.ntmps5
  go_wp2_with fail
  refine ((unhide A1) _).mono ?_; rintro e w1 ⟨rfl, b1⟩
  go_wp2_with fail
  refine ((unhide A2) _).mono ?_; rintro e w2 ⟨rfl, b2⟩
  go_wp2_with fail
  refine ((unhide B1) _).mono ?_; rintro e w3 ⟨rfl, b3⟩
  go_wp2_with fail
  refine ((unhide B2) _).mono ?_; rintro e w4 ⟨rfl, b4⟩
  go_wp2_with fail
  refine ((unhide C1) _).mono ?_; rintro e w5 ⟨rfl, b5⟩
  go_wp2_with fail
  refine ((unhide C2) _).mono ?_; rintro e w6 ⟨rfl, b6⟩
  go_wp2_with fail
  refine ((unhide C1) _).mono ?_; rintro e w7 ⟨rfl, b7⟩
  go_wp2_with fail
  refine ((unhide A1) _).mono ?_; rintro e w8 ⟨rfl, b8⟩
  go_wp2_with fail
  refine ((unhide B1) _).mono ?_; rintro e w9 ⟨rfl, b9⟩
  have HB := hide (bel_trans (bel_trans (bel_trans (bel_trans (bel_trans (bel_trans (bel_trans (bel_trans b1 b2) b3) b4) b5) b6) b7) b8) b9)
  clear b1 b2 b3 b4 b5 b6 b7 b8 b9
  go_wp2_with fail
  go_loopw [53] (fun i wr => ∃ k : Nat, k ≤ 3 ∧ i = .int .i64 k ∧ wr.cell? ⟨w9.heap.size, 0, none⟩ = some (.string x1) ∧ wr.cell? ⟨w9.heap.size, 1, none⟩ = some (.string x2) ∧ wr.cell? ⟨w9.heap.size, 2, none⟩ = some (.string x3) ∧ Below w.heap.size w wr) (fun i _ => 3 - (intOf i).toNat)
  case atStart => exact ⟨0, by omega, rfl, by rw [World.cell?_alloc_new]; rfl, by rw [World.cell?_alloc_new]; rfl, by rw [World.cell?_alloc_new]; rfl, (unhide HB).alloc (unhide HB).size _⟩
  case round =>
    obtain ⟨k, hk, rfl, c1, c2, c3, hbel⟩ := hrel
    have HB2 := hide hbel
    clear hbel HB
    match k, hk with
    | 0, _ =>
      go_wp2
      go_loopw [59] (fun i wq => ∃ j : Nat, j ≤ x1.size ∧ i = .int .i64 j ∧ wq = wr) (fun i _ => x1.size - (intOf i).toNat)
      case atStart => exact ⟨0, by omega, rfl, rfl⟩
      case round =>
        obtain ⟨j, hj, rfl, rfl⟩ := hrel
        by_cases hlt : j < x1.size
        · have hp := (unhide P1) j hlt
          obtain ⟨p1, p2⟩ := hp
          go_wp2
          refine ⟨⟨_, _, _, _, _, _, _, _, _, _, _, _, _, _, _, _, ⟨j + 1, by omega, ?_, by first | trivial | rfl⟩, rfl⟩, by simp [intOf]; omega⟩
          go_num
        · go_wp2
          exact ⟨⟨1, by omega, by go_num, c1, c2, c3, unhide HB2⟩, by simp [intOf]⟩
    | 1, _ =>
      go_wp2
      go_loopw [59] (fun i wq => ∃ j : Nat, j ≤ x2.size ∧ i = .int .i64 j ∧ wq = wr) (fun i _ => x2.size - (intOf i).toNat)
      case atStart => exact ⟨0, by omega, rfl, rfl⟩
      case round =>
        obtain ⟨j, hj, rfl, rfl⟩ := hrel
        by_cases hlt : j < x2.size
        · have hp := (unhide P2) j hlt
          obtain ⟨p1, p2⟩ := hp
          go_wp2
          refine ⟨⟨_, _, _, _, _, _, _, _, _, _, _, _, _, _, _, _, ⟨j + 1, by omega, ?_, by first | trivial | rfl⟩, rfl⟩, by simp [intOf]; omega⟩
          go_num
        · go_wp2
          exact ⟨⟨2, by omega, by go_num, c1, c2, c3, unhide HB2⟩, by simp [intOf]⟩
    | 2, _ =>
      go_wp2
      go_loopw [59] (fun i wq => ∃ j : Nat, j ≤ x3.size ∧ i = .int .i64 j ∧ wq = wr) (fun i _ => x3.size - (intOf i).toNat)
      case atStart => exact ⟨0, by omega, rfl, rfl⟩
      case round =>
        obtain ⟨j, hj, rfl, rfl⟩ := hrel
        by_cases hlt : j < x3.size
        · have hp := (unhide P3) j hlt
          obtain ⟨p1, p2⟩ := hp
          go_wp2
          refine ⟨⟨_, _, _, _, _, _, _, _, _, _, _, _, _, _, _, _, ⟨j + 1, by omega, ?_, by first | trivial | rfl⟩, rfl⟩, by simp [intOf]; omega⟩
          go_num
        · go_wp2
          exact ⟨⟨3, by omega, by go_num, c1, c2, c3, unhide HB2⟩, by simp [intOf]⟩
    | 3, _ =>
      go_wp2_with fail
      refine ((unhide A1) _).mono ?_; rintro e w10 ⟨rfl, b10⟩
      go_wp2_with fail
      refine ((unhide B1) _).mono ?_; rintro e w11 ⟨rfl, b11⟩
      go_wp2_with fail
      go_ret
      exact ⟨rfl, bel_trans (bel_trans (unhide HB2) b10) b11⟩
theorem own : ownKnob Try.prog.godebug = none := by kernel_rfl

theorem small_of {H : Type} {a0 : ByteArray} (hk : Rows.uptoSmall H ([.lit (.string a0.data.toList)] ++ []) = true) : a0.size ≤ 1048576 := by
  have h := of_decide_eq_true hk
  simp only [Rows.uptoBulkAll, Rows.uptoBulk, List.append_nil, Array.length_toList, ByteArray.size_data] at h
  omega

theorem contract (H : Type) (enc : TypeId × Value → H) (W : World) (base : Nat) (args : Array Value) (ds gs : List (DataW H)) (before : List MemPlace) (hsh : W.ShapedOpen Try.prog)
    (hval0 : ∀ (j : Nat) t v, Try.f5.params[j]? = some t → args[j]? = some v → Value.okWide Try.prog W .any base t v)
    (hW : DataW.Whole enc Try.prog Try.f5.params.toList Rows.codingBackSpec.vars false W args.toList ds gs before) (hk : Rows.uptoSmall H (ds ++ gs) = true) :
    Calls Try.prog 5 args W fun e W' => ∃ v, e = .returned v ∧ Rows.codingBackSpec.post enc Try.prog Try.f5 false true false false W args v W' := by
  have hval : ∀ (j : Nat) t v, Try.f5.params[j]? = some t → args[j]? = some v → Value.okWide Try.prog W .any base t v := hval0
  have hW' := hW
  obtain ⟨p, q, hA0, hV, rfl, hfz, hnd⟩ := hW
  have hA : DataW.TrodAll enc Try.prog W 0 (fun _ => true) true Try.f5.params.toList args.toList ds p := hA0
  rw [Try.params5] at hA hval
  obtain ⟨v0, vs0, d0, ds0, p0, q0, hargs, rfl, rfl, h0, r0⟩ := trodAll_cons hA
  obtain ⟨rfl, rfl, rfl⟩ := trodAll_nil r0
  obtain rfl : args = #[v0] := by cases args; simp_all
  obtain ⟨rfl, rfl⟩ := trodVars_none hV
  obtain ⟨a0, rfl, rfl, rfl, w0⟩ := open_string Try.underlying9 (hval 0 9 v0 rfl rfl) h0
  clear hA0 hval0
  simp only [List.append_nil] at hW'
  refine (walk a0 (small_of hk) W).mono fun e W' ⟨he, hb⟩ => ?_
  subst he
  exact ⟨_, rfl, _, _, _, [], [], [], hW', (trodAll_cons_mk (shut_bool Try.underlying4 _) trodAll_mk0), (trodAll_cons_mk (shut_string Try.underlying9 w0) trodAll_mk0), rfl, hb.frame _, fun h => by cases h⟩

set_option maxRecDepth 100000 in
theorem lifted (os : Os) (started : os.Started) (H : Type) (enc : TypeId × Value → H) (F : Stop.Interp) :
    ReturnsInHanded {} Try.checked os 5 .any ((Rows.OpenSpec.upto Rows.codingBackSpec).pre6 enc Try.prog Try.f5 Rows.codingBackUptoRow.domain false) (((Rows.OpenSpec.upto Rows.codingBackSpec).at F).post enc Try.prog Try.f5 false true false false) := by
  refine cond_shaped (C := Try.checked) (s := Rows.OpenSpec.upto Rows.codingBackSpec) (k := Rows.uptoSmall) rfl own started (by kernel_rfl) Try.func5
    (OpenSpec.witness (enc := enc) (C := Try.checked) (s := Rows.OpenSpec.upto Rows.codingBackSpec) (k := Rows.uptoSmall) rfl false ⟨#[], #[.string ByteArray.empty], []⟩ 8 (by kernel_rfl) (by kernel_rfl) (by kernel_rfl)
      (x := ([.lit (.string [])], [], [])) (by kernel_rfl) rfl (by kernel_rfl)) ?_
  intro W base args ds gs before hsh hval hW hk
  exact contract H enc W base args ds gs before hsh hval hW hk

theorem over : Rows.CodingBackUptoSaid :=
  OpenClaim.holds_of_cond 5 Try.f5 rfl rfl rfl rfl rfl rfl rfl ⟨rfl, rfl, rfl, rfl, rfl⟩ rfl rfl rfl rfl rfl (by kernel_rfl) Try.func5 (by kernel_rfl)
    (of_decide_eq_true (by kernel_rfl)) (by unfold Func.isWrapper; first | (rw [if_pos (by decide +kernel)]; kernel_rfl) | (rw [if_neg (by decide +kernel)]; exact ⟨rfl, rfl⟩))
    (fun os started H enc _ F => lifted os started H enc F)
end Go.Proofs.Ytejjbnbaholbbaa.codingBack
namespace Go.Proofs.Ytejjbnbaholbbaa
theorem codingBack_holds : Rows.CodingBackUptoSaid := codingBack.over
#print axioms codingBack_holds
end Go.Proofs.Ytejjbnbaholbbaa
