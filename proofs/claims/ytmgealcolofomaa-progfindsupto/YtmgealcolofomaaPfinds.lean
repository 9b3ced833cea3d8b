/- Check, Find and Some of instructions answer what the document says, whatever is handed in.
   Conditions: what is handed in is of bulk at most 1048576. -/
import Derived.Test.YtmgealcolofomaaRows
import Derived.WalkKit
import Derived.ProofKit
import Derived.OpenShut
import Derived.ShutString
import Derived.JoinedCond
import Derived.Laws.StructEq
import Derived.Test.YtmgealcolofomaaEl
import Derived.Test.YtmgealcolofomaaEm
import Derived.Test.YtmgealcolofomaaEr
import Derived.Test.YtmgealcolofomaaEv
import Derived.Test.YtmgealcolofomaaWrap
namespace Go.Proofs.Ytmgealcolofomaa.progFinds
open Go.RowKit Kb Go.ChangeShapes Go.WideShapes Go.ChangeAt
open Go.ChangeMaps (open_string shut_string)
set_option linter.unusedVariables false
set_option maxRecDepth 20000
theorem span_ok {p : List In} {s : ByteArray} : Sp.Ok s.size (Pm.spanB p s.data.toList) := fun i j h => by
  obtain ⟨k, hc, _⟩ := (Pm.spanB_iff _ _ _ _).1 h
  have := hc.le
  rw [len_data] at this
  exact this
set_option maxRecDepth 200000 in
set_option maxHeartbeats 16000000 in
theorem walk (v0 : Value) (p : List In) (s : ByteArray) (hb : s.size ≤ 1048576) (w : World) (hI : Insts w v0 p) (hn1 : p.length ≤ 1048576) :
    Calls Try.prog 3 #[v0, .string s] w fun e w' => e = .returned (.bool true) ∧ Below w.heap.size w w' := by
  have hn : p.length ≤ 1099511627776 := by omega
  have HR := hide (rprog_any v0 p w hI hn)
  have HI := hide (fun (W : World) (k : Below w.heap.size w W) => hI.below k)
  have HF := hide (fun (W : World) (k : Below w.heap.size w W) => find_all v0 p s W (hI.below k) hn)
  have HS := hide (fun (W : World) (k : Below w.heap.size w W) => some_all v0 p s W (hI.below k) hn)
  have HC := hide (fun (W : World) (k : Below w.heap.size w W) => pcheck_any v0 p W (hI.below k) hn)
  obtain ⟨o0, c0, rfl, _⟩ := hI.form
  obtain ⟨ck, hck⟩ : ∃ ck, Pm.chk p = ck := ⟨_, rfl⟩
  have HCK := hide hck
  rw [hck] at HR HC
  clear hI hn hn1 hck
  go_enter Try.func3, Try.ntmps3
  go_wp2_with fail
  refine (unhide HR).mono ?_
  rintro e w1 ⟨rfl, b1⟩
  have B1 := hide b1
  have HF1 := hide ((unhide HF) w1 b1)
  clear HR b1 HF
  go_wp2_with fail
  refine (unhide HF1).mono ?_
  rintro e w2 ⟨fa, fb, is, f, rfl, hfd, b2⟩
  have HFD := hide hfd
  have B2 := hide (bel_trans (unhide B1) b2)
  have pp := (unhide B2).alloc (unhide B2).size (.cells #[.int .i64 fa, .int .i64 fb] 26)
  have hp0 : (w2.alloc (.cells #[.int .i64 fa, .int .i64 fb] 26)).cell? ⟨w2.heap.size, 0, none⟩ = some (.int .i64 fa) := by rw [World.cell?_alloc_new]; rfl
  have hp1 : (w2.alloc (.cells #[.int .i64 fa, .int .i64 fb] 26)).cell? ⟨w2.heap.size, 1, none⟩ = some (.int .i64 fb) := by rw [World.cell?_alloc_new]; rfl
  obtain ⟨w3, hw3⟩ : ∃ w3, w2.alloc (.cells #[.int .i64 fa, .int .i64 fb] 26) = w3 := ⟨_, rfl⟩
  rw [hw3] at pp hp0 hp1
  have hl3 := World.block_lt_of_cell? _ _ hp0
  obtain ⟨gx, hgx⟩ : ∃ g, w2.heap.size = g := ⟨_, rfl⟩
  rw [hgx] at hp0 hp1 hl3
  have HP : Hid (∀ W, Below w3.heap.size w3 W → W.cell? ⟨gx, 0, none⟩ = some (.int .i64 fa) ∧ W.cell? ⟨gx, 1, none⟩ = some (.int .i64 fb) ∧ gx < W.heap.size) := hide (fun W k => ⟨(k.cell (p := ⟨gx, 0, none⟩) hl3).trans hp0, (k.cell (p := ⟨gx, 1, none⟩) hl3).trans hp1, Nat.lt_of_lt_of_le hl3 k.size⟩)
  have B3 := hide pp
  have HS3 := hide ((unhide HS) w3 pp)
  clear pp hp0 hp1 hl3 B1 B2 b2 hfd HF1 HS
  go_wp2_with fail
  clear hw3 hgx
  refine (unhide HS3).mono ?_
  rintro e w4 ⟨sm, g, rfl, hsd, b4⟩
  have HSD := hide hsd
  have D4 := hide b4
  have B4 := hide (bel_trans (unhide B3) b4)
  have HC4 := hide ((unhide HC) w4 (unhide B4))
  clear b4 hsd HS3 HC B3
  go_wp2_with fail
  refine (unhide HC4).mono ?_
  rintro e w5 ⟨rfl, hw5⟩
  rw [hw5]
  clear hw5 w5
  obtain ⟨p0, p1, hlp⟩ := (unhide HP) w4 (unhide D4)
  clear HC4
  have hfd := unhide HFD
  have hsd := unhide HSD
  unfold FdP at hfd
  unfold SdP at hsd
  rw [unhide HCK] at hfd hsd
  by_cases hz : ck = 0
  case neg =>
    obtain ⟨_, hf0, hf, _, rfl, rfl, rfl⟩ := hfd.resolve_left (fun h => hz h.1)
    obtain ⟨_, hg0, hg, _, rfl⟩ := hsd.resolve_left (fun h => hz h.1)
    obtain rfl := hf hz
    obtain rfl := hg hz
    have hne : (g != 0) = true := bne_iff_ne.2 hz
    have heq : (g == 0) = false := beq_eq_false_iff_ne.2 hz
    clear hfd hsd hf hg hf0 hg0 hz
    go_wp2_with fail
    go_ret
    exact ⟨by first | rfl | exact ret_bool (by simp), unhide B4⟩
  subst hz
  by_cases h8 : 8192 < s.size
  case pos =>
    obtain ⟨_, hf0, _, hf, rfl, rfl, rfl⟩ := hfd.resolve_left (fun h => by have := h.2.1; omega)
    obtain ⟨_, hg0, _, hg, rfl⟩ := hsd.resolve_left (fun h => by have := h.2.1; omega)
    obtain rfl := hf rfl
    obtain rfl := hg rfl
    have hI : (s.size : Int) > 8192 := by omega
    clear hfd hsd hf hg hf0 hg0 h8
    go_wp2_with fail
    go_ret
    exact ⟨by first | rfl | exact ret_bool (by simp), unhide B4⟩
  obtain ⟨_, _, rfl, o, rfl, rfl, rfl, ho⟩ := hfd.resolve_right (fun h => by omega)
  obtain ⟨_, _, rfl, hsm⟩ := hsd.resolve_right (fun h => by omega)
  have hso : sm = o.isSome := by
    rw [Bool.eq_iff_iff, hsm, ho.some_iff]
    simp only [Pm.spanB_iff]
  subst hso
  have hI : ¬ (s.size : Int) > 8192 := by omega
  have HO := hide ho
  obtain ⟨is, his⟩ : ∃ b, o.isSome = b := ⟨_, rfl⟩
  rw [his]
  clear hfd hsd hsm ho h8
  by_cases h40 : 40 < s.size
  · have hI2 : (s.size : Int) > 40 := by omega
    clear his
    cases is
    · go_wp2_with fail
      go_ret
      exact ⟨by first | rfl | exact ret_bool (by simp), unhide B4⟩
    · go_wp2_with fail
      go_ret
      exact ⟨by first | rfl | exact ret_bool (by simp), unhide B4⟩
  · have hI2 : ¬ (s.size : Int) > 40 := by omega
    have HRU := hide (runs_any (.slice o0 p.length c0) p s w4 ((unhide HI) w4 (unhide B4)) (unhide HCK) (by omega))
    have HIS := hide his
    clear p0 p1 hlp his
    go_wp2_with fail
    refine (unhide HRU).mono ?_
    rintro e w5 ⟨g5, h5, rfl, t5, b5⟩
    have B5 := hide (bel_trans (unhide B4) b5)
    have D5 := hide (bel_trans (unhide D4) b5)
    have HFI := hide (dfirst_any g5 h5 s.size (Pm.spanB p s.data.toList) (by omega) span_ok w5 t5)
    clear t5 b5 HRU B4 D4
    go_wp2_with fail
    refine (unhide HFI).mono ?_
    rintro e w6 ⟨o', rfl, ho', b6⟩
    obtain rfl := (unhide HO).uniq ho'
    have B6 := hide (bel_trans (unhide B5) b6)
    have D6 := hide (bel_trans (unhide D5) b6)
    clear ho' b6 HFI B5 D5 HO
    have hfv : firstV o = .tuple #[.agg #[.int .i64 (fF o), .int .i64 (fT o)], .bool is] := by
      rw [← unhide HIS]
      cases o <;> rfl
    rw [hfv]
    clear HIS hfv HFD HSD
    obtain ⟨fa, hfa⟩ : ∃ z, fF o = z := ⟨_, rfl⟩
    obtain ⟨fb, hfb⟩ : ∃ z, fT o = z := ⟨_, rfl⟩
    rw [hfa, hfb] at HP ⊢
    clear hfa hfb
    have pp := (unhide D6).alloc (unhide D6).size (.cells #[.int .i64 fa, .int .i64 fb] 26)
    have C7 := hide ((unhide B6).alloc (unhide B6).size (.cells #[.int .i64 fa, .int .i64 fb] 26))
    have q0 : (w6.alloc (.cells #[.int .i64 fa, .int .i64 fb] 26)).cell? ⟨w6.heap.size, 0, none⟩ = some (.int .i64 fa) := by rw [World.cell?_alloc_new]; rfl
    have q1 : (w6.alloc (.cells #[.int .i64 fa, .int .i64 fb] 26)).cell? ⟨w6.heap.size, 1, none⟩ = some (.int .i64 fb) := by rw [World.cell?_alloc_new]; rfl
    obtain ⟨w7, hw7⟩ : ∃ w7, w6.alloc (.cells #[.int .i64 fa, .int .i64 fb] 26) = w7 := ⟨_, rfl⟩
    rw [hw7] at pp q0 q1 C7
    have hlq := World.block_lt_of_cell? _ _ q0
    obtain ⟨p0, p1, hlp⟩ := (unhide HP) w7 pp
    obtain ⟨gy, hgy⟩ : ∃ g, w6.heap.size = g := ⟨_, rfl⟩
    rw [hgy] at q0 q1 hlq
    clear pp
    cases is
    · go_wp2_with fail
      go_ret
      exact ⟨by first | rfl | exact ret_bool (by simp), unhide C7⟩
    · go_wp2_with fail
      go_ret
      exact ⟨by first | rfl | exact ret_bool (by simp), unhide C7⟩
theorem own : ownKnob Try.prog.godebug = none := by kernel_rfl

theorem small_of {H : Type} {a0 : DataW H} {a1 : ByteArray} (hk : Rows.uptoSmall H ([a0, .lit (.string a1.data.toList)] ++ []) = true) : Rows.uptoBulk a0 + a1.size ≤ 1048576 := by
  have h := of_decide_eq_true hk
  simp only [Rows.uptoBulkAll, Rows.uptoBulk, List.append_nil, Array.length_toList, ByteArray.size_data] at h
  omega

set_option maxRecDepth 100000 in
theorem contract (H : Type) (enc : TypeId × Value → H) (W : World) (base : Nat) (args : Array Value) (ds gs : List (DataW H)) (before : List MemPlace) (hsh : W.ShapedOpen Try.prog)
    (hval0 : ∀ (j : Nat) t v, Try.f3.params[j]? = some t → args[j]? = some v → Value.okWide Try.prog W .any base t v)
    (hW : DataW.Whole enc Try.prog Try.f3.params.toList Rows.progFindsSpec.vars false W args.toList ds gs before) (hk : Rows.uptoSmall H (ds ++ gs) = true) :
    Calls Try.prog 3 args W fun e W' => ∃ v, e = .returned v ∧ Rows.progFindsSpec.post enc Try.prog Try.f3 false true false false W args v W' := by
  have hval : ∀ (j : Nat) t v, Try.f3.params[j]? = some t → args[j]? = some v → Value.okWide Try.prog W .any base t v := hval0
  have hW' := hW
  obtain ⟨p, q, hA0, hV, rfl, hfz, hnd⟩ := hW
  have hA : DataW.TrodAll enc Try.prog W 0 (fun _ => true) true Try.f3.params.toList args.toList ds p := hA0
  rw [Try.params3] at hA hval
  obtain ⟨v0, vs0, d0, ds0, p0, q0, hargs, rfl, rfl, h0, r0⟩ := trodAll_cons hA
  obtain ⟨v1, vs1, d1, ds1, p1, q1, rfl, rfl, rfl, h1, r1⟩ := trodAll_cons r0
  obtain ⟨rfl, rfl, rfl⟩ := trodAll_nil r1
  obtain rfl : args = #[v0, v1] := by cases args; simp_all
  obtain ⟨rfl, rfl⟩ := trodVars_none hV
  obtain ⟨a1, rfl, rfl, rfl, w1⟩ := open_string Try.underlying9 (hval 1 9 v1 rfl rfl) h1
  have hsm := small_of hk
  obtain ⟨z0, hI0, hz0, hlt0⟩ := open_insts_in (hval 0 22 v0 rfl rfl) h0 (by omega)
  clear hA0 hval0
  refine (walk v0 z0 a1 (by omega) W hI0 hz0).mono fun e W' ⟨he, hb⟩ => ?_
  subst he
  exact ⟨_, rfl, _, _, _, [], (p0 ++ ([] ++ [])), [], hW', (trodAll_cons_mk (shut_bool Try.underlying4 _) trodAll_mk0), (trodAll_cons_mk (Below.trod laidOutAll (by kernel_rfl) (of_decide_eq_true (by kernel_rfl)) h0 hb hlt0) (trodAll_cons_mk (shut_string Try.underlying9 w1) trodAll_mk0)), rfl, hb.frame _, fun h => by cases h⟩

set_option maxRecDepth 100000 in
theorem lifted (os : Os) (started : os.Started) (H : Type) (enc : TypeId × Value → H) (F : Stop.Interp) :
    ReturnsInHanded {} Try.checked os 3 .any ((Rows.OpenSpec.upto Rows.progFindsSpec).pre6 enc Try.prog Try.f3 Rows.progFindsUptoRow.domain false) (((Rows.OpenSpec.upto Rows.progFindsSpec).at F).post enc Try.prog Try.f3 false true false false) := by
  refine cond_shaped (C := Try.checked) (s := Rows.OpenSpec.upto Rows.progFindsSpec) (k := Rows.uptoSmall) rfl own started (by kernel_rfl) Try.func3
    (OpenSpec.witness (enc := enc) (C := Try.checked) (s := Rows.OpenSpec.upto Rows.progFindsSpec) (k := Rows.uptoSmall) rfl false ⟨#[], #[.slice none 0 0, .string ByteArray.empty], []⟩ 8 (by kernel_rfl) (by kernel_rfl) (by kernel_rfl)
      (x := ([.nil, .lit (.string [])], [], [])) (by kernel_rfl) rfl (by kernel_rfl)) ?_
  intro W base args ds gs before hsh hval hW hk
  exact contract H enc W base args ds gs before hsh hval hW hk

theorem over : Rows.ProgFindsUptoSaid :=
  OpenClaim.holds_of_cond 3 Try.f3 rfl rfl rfl rfl rfl rfl rfl ⟨rfl, rfl, rfl, rfl, rfl⟩ rfl rfl rfl rfl rfl (by kernel_rfl) Try.func3 (by kernel_rfl)
    (of_decide_eq_true (by kernel_rfl)) (by unfold Func.isWrapper; first | (rw [if_pos (by decide +kernel)]; kernel_rfl) | (rw [if_neg (by decide +kernel)]; exact ⟨rfl, rfl⟩))
    (fun os started H enc _ F => lifted os started H enc F)
end Go.Proofs.Ytmgealcolofomaa.progFinds
namespace Go.Proofs.Ytmgealcolofomaa
theorem progFinds_holds : Rows.ProgFindsUptoSaid := progFinds.over
#print axioms progFinds_holds
end Go.Proofs.Ytmgealcolofomaa
