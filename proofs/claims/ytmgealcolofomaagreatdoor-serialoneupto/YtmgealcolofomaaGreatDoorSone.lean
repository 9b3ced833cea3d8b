/- What is handed on is one request, whole, with nothing left: whatever is handed in.
   Conditions: what is handed in is of bulk at most 1048576; the library's tables are as the program's text lays them, and its own variable MaxLen holds whatever number. -/
import Derived.Test.YtmgealcolofomaaGreatDoorRows
import Derived.Test.YtmgealcolofomaaGreatDoorTie
import Derived.Test.YtmgealcolofomaaGreatDoorCards
import Derived.WalkKit
import Derived.ProofKit
import Derived.OpenShut
import Derived.ShutString
import Derived.JoinedCond
import Derived.Deep.RegionLaw
import Derived.BigRegion
import Derived.Test.YtmgealcolofomaaGreatDoorDY
import Derived.Stop.LaidErr
namespace Go.Proofs.YtmgealcolofomaaGreatDoor.serialOne
open Go.ChangeShapes Go.WideShapes Go.ChangeAt Go.RowKit
open Go.ChangeMaps (open_string shut_string)
open Kb
open Mh (Fl)
set_option linter.unusedVariables false
set_option maxRecDepth 20000
set_option maxRecDepth 20000

theorem init_flds {w : World} {g off c n : Nat} {sf : List Fl} {f : Fl} (h : Flds w (.slice (some ⟨g, off, none⟩) n c) (sf ++ [f])) : Flds w (.slice (some ⟨g, off, none⟩) sf.length c) sf := by
  obtain ⟨o, c', hv, hc⟩ := h.form
  obtain ⟨g', off', c2, hv2, hlt, hcl⟩ := h.at_ (by simp)
  have hr := h.room
  rw [List.length_append, List.length_singleton] at hr hc
  injection hv with e1 e2 e3
  injection hv2 with e4 e5 e6
  injection e4 with e4
  injection e4 with e7 e8
  subst e3 e7 e8
  refine ⟨⟨_, c, rfl, by omega⟩, by omega, .inr ⟨_, _, rfl⟩, fun hne => ⟨g, off, c, rfl, hlt, fun j x hj => hcl j x ?_⟩⟩
  rw [List.getElem?_append_left (List.getElem?_eq_some_iff.1 hj).1]; exact hj
set_option maxHeartbeats 8000000 in
theorem walk_m (m t : List UInt8) (u : Value) (fs : List Fl) (b : List UInt8) (more : ByteArray) (k : Int) (hb : more.size ≤ 1048576) (w : World) (hu : Flds w u fs) (hz : m.length + t.length ≤ 1048576 ∧ fs.length ≤ 1048576 ∧ b.length ≤ 1048576 ∧ ∀ f ∈ fs, f.1.length + f.2.length ≤ 1048576) (hm : MH k w)
    (hT : Lib.TabIs Tryz.prog w "internal/strconv.uint64pow10" .u64 Lib.pow10Tab) :
    Calls Tryz.prog 3 #[reqV m t u b, .string more] w fun e w' => e = .returned (.bool true) ∧ Below w.heap.size w w' := by
  obtain ⟨hz1, hz2, hz3, hz4⟩ := hz
  obtain ⟨d, hd⟩ := ex_list b
  have hds : d.size ≤ 1048576 := by have := len_data d; rw [hd] at this; omega
  obtain ⟨⟨o1, z⟩, ho⟩ : ∃ o, Se.fwd m t fs d.data.toList = o := ⟨_, rfl⟩
  obtain ⟨p, hp⟩ := ex_list o1
  rw [← hp] at ho
  have hbd : mk b = d := by rw [← hd, mk_data]
  have hpp : mk p.data.toList = p := mk_data p
  obtain ⟨ph, hph⟩ : ∃ q : ByteArray, (⟨#[71, 69, 84, 32, 47, 97, 63, 98, 61, 99, 32, 72, 84, 84, 80, 47, 49, 46, 49, 13, 10, 13, 10]⟩ : ByteArray) = q := ⟨_, rfl⟩
  have hph2 : (ph.toList == [71, 69, 84, 32, 47, 97, 63, 98, 61, 99, 32, 72, 84, 84, 80, 47, 49, 46, 49, 13, 10, 13, 10]) = true := by rw [Lib.toList_data, ← hph]; rfl
  have HH : Hid (∀ W, Below w.heap.size w W → Calls Tryz.prog 5 #[.agg #[.string ⟨#[71, 69, 84]⟩, .string ⟨#[47, 97, 63, 98, 61, 99]⟩, .slice none 0 0, .string ⟨#[]⟩]] W fun e W' => e = .returned (.tuple #[.string ph, .int .i64 0]) ∧ Below W.heap.size W W') := hide (fun W h => (sfwd_any [71, 69, 84] [47, 97, 63, 98, 61, 99] (.slice none 0 0) [] ⟨#[]⟩ k W (Flds.nil W) (by decide) (by decide) (by decide) (by simp) (hm.below h) (stab_below hT h) _ hello_fwd).mono fun e W' ⟨k1, k2⟩ => ⟨k1.trans (by rw [← hph]; rfl), k2⟩)
  have HS := hide (fun W (h : Below w.heap.size w W) => strip_any m t u fs k W (hu.below h) hz2 hz1 hz4 (hm.below h))
  have hsl : (Se.strip fs).length ≤ 1048576 := Nat.le_trans (Se.less_len _ _) hz2
  have HF := hide (fun W (h : Below w.heap.size w W) => sfwd_any m t u fs d k W (hu.below h) hz2 hz1 hds hz4 (hm.below h) (stab_below hT h) _ ho)
  obtain ⟨OUT, hOUT⟩ : ∃ l, Se.out (Cu.sizeOf fs).1 fs d.size = l := ⟨_, rfl⟩
  have HOU : Hid (OUT = Se.strip fs ∨ OUT = Se.strip fs ++ [Se.size d.size]) := hide (by
    rw [← hOUT]; unfold Se.out; split
    · exact .inl rfl
    · exact .inr rfl)
  have hfr := fun h0 hs => fwd_read ho h0 hs more
  rw [hOUT] at hfr
  have hpl : (p ++ more).size = p.size + more.size := ByteArray.size_append
  have HON := hide (fun (h0 : z = 0) (hs : ¬ (p.size : Int) - (d.size : Int) > 4096) W (h : Below w.heap.size w W) => one_any (p ++ more) 4096 4096 40 k W (by have := (hfr h0 hs).2.2.2.1; omega) (hm.below h) _ (hfr h0 hs).1)
  have HOL : Hid (z = 0 → ¬ (p.size : Int) - (d.size : Int) > 4096 → OUT.length ≤ 30) := hide (fun h0 hs => (hfr h0 hs).2.2.2.2)
  have HBAD : Hid (z ≠ 0 → p.toList.isEmpty = true ∧ (p.toList == []) = true) := hide (fun h0 => by
    have h1 := Se.fwd_bad (m := m) (t := t) (fs := fs) (b := d.data.toList) (by rw [ho]; exact h0)
    rw [ho] at h1
    have h2 : p.data.toList = [] := h1
    rw [Lib.toList_data, h2]; exact ⟨rfl, rfl⟩)
  have HWD := hide (fun W => wide_any W)
  have hpsz : p.size ≤ 1088576 := by
    have h1 := congrArg (fun o => o.1.length) ho
    dsimp only at h1
    rw [len_data] at h1
    by_cases h0 : (Se.fwd m t fs d.data.toList).2 = 0
    · obtain ⟨g1, g2, g3⟩ := Se.fwd_ok h0
      rw [len_data] at g2 g3
      have g4 := congrArg List.length g3
      have g5 := Mh.text_len g2
      rw [List.length_append, len_data] at g4; omega
    · rw [Se.fwd_bad h0] at h1; simp at h1; omega
  have HEQ := hide (fun W v v' (h1 : Flds W v (Se.strip fs)) (h2 : Flds W v' (Se.strip fs)) => equal_flds W v v' (Se.strip fs) h1 h2)
  unfold reqV
  unfold bndV at HWD HON
  unfold headV at HS
  dsimp only at HON HF
  rw [hbd]
  rw [hpp] at HF
  rw [show mk d.data.toList = d from mk_data d] at HON
  obtain ⟨uo, c, rfl, hc⟩ := hu.form
  obtain ⟨x, hx⟩ : ∃ x, mk m = x := ⟨_, rfl⟩
  obtain ⟨y, hy⟩ : ∃ y, mk t = y := ⟨_, rfl⟩
  rw [hx, hy] at HS HF HON ⊢
  obtain ⟨sf, hsf⟩ : ∃ l, Se.strip fs = l := ⟨_, rfl⟩
  rw [hsf] at HS hsl HOU HEQ
  clear hx hy hsf hd hbd hpp hp ho hu hm hT hz4 hfr hOUT hph
  have X1 := QX.new (base := w.heap.size) w (Nat.le_refl _) x y uo fs.length c d
  have bb1 := (Below.refl w.heap.size w).alloc (Nat.le_refl _) (.cells #[.string x, .string y, .slice uo fs.length c, .string d] 26)
  obtain ⟨W1, hW1⟩ : ∃ W, w.alloc (.cells #[.string x, .string y, .slice uo fs.length c, .string d] 26) = W := ⟨_, rfl⟩
  rw [hW1] at X1 bb1
  have B1 := hide bb1
  have HBOX := hide (fun W (h : Below W1.heap.size W1 W) => (⟨(X1.below h).cells, (X1.below h).lt.2⟩ : (_ ∧ _ ∧ _ ∧ _) ∧ _))
  clear X1 bb1
  have hfd : ∀ (o : Option Addr) (n c : Nat) (W : World), (Instr.field 24 (.agg #[.string x, .string y, .slice o n c]) 2).run Tryz.prog W = .ok (.slice o n c) W := fun _ _ _ _ => by kernel_rfl
  go_enter Tryz.func3, Tryz.ntmps3
  go_wp2_with fail
  clear hW1
  refine (hello_any W1).mono ?_; rintro e w2 ⟨rfl, b2⟩
  have B2 := hide b2
  clear b2
  go_wp2_with fail
  refine ((unhide HH) w2 (bel_trans (unhide B1) (unhide B2))).mono ?_; rintro e w3 ⟨rfl, b3⟩
  have B3 := hide (bel_trans (unhide B2) b3)
  obtain ⟨⟨a0, a1, a2, a3⟩, hl3⟩ := (unhide HBOX) w3 (unhide B3)
  clear b3 B2 HH
  go_wp2_with fail
  clear a0 a1 a2 a3 hl3 hph2
  refine ((unhide HF) w3 (bel_trans (unhide B1) (unhide B3))).mono ?_; rintro e w10 ⟨rfl, b10⟩
  have B10 := hide (bel_trans (unhide B3) b10)
  obtain ⟨⟨a0, a1, a2, a3⟩, hl10⟩ := (unhide HBOX) w10 (unhide B10)
  clear b10 B3 HF
  by_cases h0 : z = 0
  case neg =>
    have hzb : (z != 0) = true := by simpa using h0
    obtain ⟨he1, he2⟩ := (unhide HBAD) h0
    clear h0 HON HOL HBAD
    go_wp2_with fail
    go_ret
    exact ⟨rfl, bel_trans (unhide B1) (unhide B10)⟩
  by_cases hs : (p.size : Int) - (d.size : Int) > 4096
  case pos =>
    have hs2 : 4096 < (p.size : Int) - (d.size : Int) := hs
    clear HON HOL HBAD
    subst h0
    go_wp2_with fail
    go_ret
    exact ⟨rfl, bel_trans (unhide B1) (unhide B10)⟩
  have hs2 : ¬ 4096 < (p.size : Int) - (d.size : Int) := hs
  have HN1 := hide ((unhide HON) h0 (by omega))
  have hol := (unhide HOL) h0 (by omega)
  clear HON HOL HBAD
  subst h0
  go_wp2_with fail
  clear a0 a1 a2 a3 hl10
  refine ((unhide HWD) w10).mono ?_; rintro e w11 ⟨rfl, b11⟩
  have B11 := hide (bel_trans (unhide B10) b11)
  clear b11 B10 HWD
  go_wp2_with fail
  refine ((unhide HN1) w11 (bel_trans (unhide B1) (unhide B11))).mono ?_; rintro e w12 ⟨v12, rfl, own12, b12⟩
  obtain ⟨o12, c12, rfl⟩ := own_forms own12
  have F12 := Flds.own own12 (by omega)
  have HV12 : Hid (0 < OUT.length → ∃ g, o12 = some ⟨g, 0, none⟩ ∧ OUT.length ≤ c12) := hide (fun h => by
    obtain ⟨g, c', he, hcc⟩ := own_form own12 h
    injection he with e1 e2 e3; subst e3; exact ⟨g, e1, hcc⟩)
  have X13 := QX.new (base := w12.heap.size) w12 (Nat.le_refl _) x y o12 OUT.length c12 d
  have bb13 := (Below.refl w12.heap.size w12).alloc (Nat.le_refl _) (.cells #[.string x, .string y, .slice o12 OUT.length c12, .string d] 26)
  obtain ⟨g13, hg13⟩ : ∃ g, w12.heap.size = g := ⟨_, rfl⟩
  obtain ⟨W13, hW13⟩ : ∃ W, w12.alloc (.cells #[.string x, .string y, .slice o12 OUT.length c12, .string d] 26) = W := ⟨_, rfl⟩
  rw [hW13] at X13 bb13
  rw [hg13] at X13
  have F13 := hide (F12.below bb13)
  have B13 := hide (bel_trans (bel_trans (unhide B11) b12) bb13)
  obtain ⟨q0, q1, q2, q3⟩ := X13.cells
  have hgl := X13.lt.2
  obtain ⟨⟨a0, a1, a2, a3⟩, hl13⟩ := (unhide HBOX) W13 (unhide B13)
  have HST := hide (fun W (h : Below W13.heap.size W13 W) => (unhide HS) W (bel_trans (unhide B1) (bel_trans (unhide B13) h)))
  have HFD := hide (fun W (h : Below W13.heap.size W13 W) => (⟨((unhide HBOX) W (bel_trans (unhide B13) h)), (X13.below h).cells, (X13.below h).lt.2⟩ : (_ ∧ _) ∧ (_ ∧ _ ∧ _ ∧ _) ∧ _))
  clear bb13 F12 own12 b12 B11 HN1 HS X13
  go_upto_region 12 with fail
  clear hW13 hg13
  have HBC : Hid (Below W13.heap.size W13 W13.drew) := hide (Below.refl _ _).drew
  go_region_law (go_simp; go_at_call 9; refine ((unhide HST) _ (unhide HBC)).mono ?_; rintro e w14 ⟨v1, rfl, own1, b14⟩; have hbc := bel_trans (unhide HBC) b14; obtain ⟨⟨⟨a0, a1, a2, a3⟩, hl13⟩, ⟨q0, q1, q2, q3⟩, hgl⟩ := (unhide HFD) w14 hbc; have HBC := hide hbc; have FA := hide (Flds.own own1 (by omega)); obtain ⟨o1, c1, rfl⟩ := own_forms own1; clear hbc b14 own1)
  all_goals (
    have hFB := (unhide F13).below (unhide HBC)
    have BE := hide (bel_trans (unhide B1) (bel_trans (unhide B13) (unhide HBC)))
    clear a0 a1 a2 a3 q0 q1 q2 q3 hl13 hgl HST HFD
    rcases unhide HOU with hO | hO
    · have hno : ((sf.length : Int) == (sf.length : Int) + 1) = false := by
        rw [beq_eq_false_iff_ne]; omega
      have hno2 : ¬ ((sf.length : Int) = (sf.length : Int) + 1) := by omega
      subst hO
      have HE := hide ((unhide HEQ) w14 _ _ hFB (unhide FA))
      clear hFB FA F13 HEQ HV12 HOU
      go_wp2_with fail
      refine (unhide HE).mono ?_; rintro e w15 ⟨rfl, b15⟩
      have B15 := hide (bel_trans (unhide BE) b15)
      clear b15 BE HE
      go_wp2_with fail
      go_ret
      exact ⟨rfl, unhide B15⟩
    · have hOL : OUT.length = sf.length + 1 := by rw [hO, List.length_append]; rfl
      obtain ⟨g, rfl, hcap⟩ := (unhide HV12) (by omega)
      rw [hOL] at hcap
      have hcap2 : sf.length ≤ c12 := by omega
      rw [hOL] at hFB hol ⊢
      rw [hO] at hFB
      obtain ⟨g', off, c', hv, hg, hcell⟩ := hFB.at_ (by simp)
      injection hv with ev1 ev2 ev3
      injection ev1 with ev1
      injection ev1 with ev4 ev5
      subst ev4 ev5
      clear ev2 ev3
      obtain ⟨l0, _⟩ := hcell sf.length (Se.size d.size) (by rw [List.getElem?_append_right (Nat.le_refl _), Nat.sub_self]; rfl)
      have hFI := hide (init_flds hFB)
      obtain ⟨nl, hnl⟩ : ∃ x, mk (Se.size d.size).1 = x := ⟨_, rfl⟩
      rw [hnl] at l0
      have hnd : nl.data.toList = Cu.nameL := by rw [← hnl]; simp [mk, Se.size]
      have hns : nl.size = 14 := by rw [← len_data, hnd]; rfl
      obtain ⟨ql, hql⟩ := ex_list (lower nl.data.toList)
      have HLW := hide (fun W => lower_any nl W (by omega))
      rw [back_list ql _ hql] at HLW
      have hqt : (ql.toList == [99, 111, 110, 116, 101, 110, 116, 45, 108, 101, 110, 103, 116, 104]) = true := by
        rw [Lib.toList_data, hql, hnd]; decide
      rw [Nat.zero_add] at l0
      clear hnl hnd hql hcell hO hFB F13 HV12 HOU hOL
      go_wp2_with fail
      refine ((unhide HLW) w14).mono ?_; rintro e w15 ⟨rfl, b15⟩
      have B15 := hide (bel_trans (unhide BE) b15)
      have HE := hide ((unhide HEQ) w15 _ _ ((unhide hFI).below b15) ((unhide FA).below b15))
      clear b15 BE hFI FA HEQ HLW
      go_wp2_with fail
      refine (unhide HE).mono ?_; rintro e w16 ⟨rfl, b16⟩
      have B16 := hide (bel_trans (unhide B15) b16)
      clear b16 B15 HE
      go_wp2_with fail
      go_ret
      exact ⟨rfl, unhide B16⟩)
theorem walk (m t : List UInt8) (u : Value) (fs : List Fl) (b : List UInt8) (more : ByteArray) (hb : more.size ≤ 1048576) (w : World) (hu : Flds w u fs) (hz : m.length + t.length ≤ 1048576 ∧ fs.length ≤ 1048576 ∧ b.length ≤ 1048576 ∧ ∀ f ∈ fs, f.1.length + f.2.length ≤ 1048576) (hsh : w.ShapedOpen Tryz.prog) (hL : laidMetH Tryz.prog Rows.serialOneUptoRow.laid w) :
    Calls Tryz.prog 3 #[reqV m t u b, .string more] w fun e w' => e = .returned (.bool true) ∧ Below w.heap.size w w' := by
  obtain ⟨k, hk⟩ := Tryz.laysM143.s1_3 w hsh
  exact walk_m m t u fs b more k hb w hu hz hk (pow_of (W := w) hL)
theorem own : ownKnob Tryz.prog.godebug = none := by kernel_rfl

theorem small_of {H : Type} {a0 : DataW H} {a1 : ByteArray} (hk : Rows.uptoSmall H ([a0, .lit (.string a1.data.toList)] ++ []) = true) : Rows.uptoBulk a0 + a1.size ≤ 1048576 := by
  have h := of_decide_eq_true hk
  simp only [Rows.uptoBulkAll, Rows.uptoBulk, List.append_nil, Array.length_toList, ByteArray.size_data] at h
  omega

set_option maxRecDepth 100000 in
theorem contract (H : Type) (enc : TypeId × Value → H) (W : World) (base : Nat) (args : Array Value) (ds gs : List (DataW H)) (before : List MemPlace) (hsh : W.ShapedOpen Tryz.prog)
    (hval0 : ∀ (j : Nat) t v, Tryz.f3.params[j]? = some t → args[j]? = some v → Value.okWide Tryz.prog W .any base t v)
    (hW : DataW.Whole enc Tryz.prog Tryz.f3.params.toList Rows.serialOneSpec.vars false W args.toList ds gs before) (hk : Rows.uptoSmall H (ds ++ gs) = true) (hL : laidMetH Tryz.prog Rows.serialOneUptoRow.laid W) :
    Calls Tryz.prog 3 args W fun e W' => ∃ v, e = .returned v ∧ Rows.serialOneSpec.post enc Tryz.prog Tryz.f3 false true false false W args v W' := by
  have hval : ∀ (j : Nat) t v, Tryz.f3.params[j]? = some t → args[j]? = some v → Value.okWide Tryz.prog W .any base t v := hval0
  have hW' := hW
  obtain ⟨p, q, hA0, hV, rfl, hfz, hnd⟩ := hW
  have hA : DataW.TrodAll enc Tryz.prog W 0 (fun _ => true) true Tryz.f3.params.toList args.toList ds p := hA0
  rw [Tryz.params3] at hA hval
  obtain ⟨v0, vs0, d0, ds0, p0, q0, hargs, rfl, rfl, h0, r0⟩ := trodAll_cons hA
  obtain ⟨v1, vs1, d1, ds1, p1, q1, rfl, rfl, rfl, h1, r1⟩ := trodAll_cons r0
  obtain ⟨rfl, rfl, rfl⟩ := trodAll_nil r1
  obtain rfl : args = #[v0, v1] := by cases args; simp_all
  obtain ⟨rfl, rfl⟩ := trodVars_none hV
  obtain ⟨a1, rfl, rfl, rfl, w1⟩ := open_string Tryz.underlying9 (hval 1 9 v1 rfl rfl) h1
  have hsm := small_of hk
  obtain ⟨m0, t0, u0, f0, g0, rfl, hI0, hz0, hlt0⟩ := open_req_in (hval 0 26 v0 rfl rfl) h0 (by omega)
  clear hA0 hval0
  refine (walk m0 t0 u0 f0 g0 a1 (by omega) W hI0 hz0 hsh hL).mono fun e W' ⟨he, hb⟩ => ?_
  subst he
  exact ⟨_, rfl, _, _, _, [], (p0 ++ ([] ++ [])), [], hW', (trodAll_cons_mk (shut_bool Tryz.underlying4 _) trodAll_mk0), (trodAll_cons_mk (Below.trod laidOutAll (by kernel_rfl) (of_decide_eq_true (by kernel_rfl)) h0 hb hlt0) (trodAll_cons_mk (shut_string Tryz.underlying9 w1) trodAll_mk0)), rfl, hb.frame _, fun h => by cases h⟩

theorem reads (os : Os) {H : Type} (enc : TypeId × Value → H) : ∃ places, DataW.whole enc Tryz.prog ((laidIn (World.holding Tryz.prog os ⟨#[], #[], []⟩)).forCall (fun _ _ => 0) ⟨#[], #[.agg #[.string ByteArray.empty, .string ByteArray.empty, .slice none 0 0, .string ByteArray.empty], .string ByteArray.empty], []⟩).memory Tryz.f3.params.toList Rows.serialOneSpec.vars false (#[.agg #[.string ByteArray.empty, .string ByteArray.empty, .slice none 0 0, .string ByteArray.empty], .string ByteArray.empty] : Array Value).toList 8 = some ([.agg [.agg [.lit (.string []), .lit (.string []), .nil], .lit (.string [])], .lit (.string [])], [], places) :=
  ⟨[], by kernel_rfl⟩
theorem laid_met (os : Os) : laidMet Tryz.prog Rows.serialOneUptoRow.laid ((laidIn (World.holding Tryz.prog os ⟨#[], #[], []⟩)).forCall (fun _ _ => 0) ⟨#[], #[.agg #[.string ByteArray.empty, .string ByteArray.empty, .slice none 0 0, .string ByteArray.empty], .string ByteArray.empty], []⟩).memory :=
  laidMet_of_run' 8 (by kernel_rfl) (by kernel_rfl)

set_option maxRecDepth 100000 in
theorem lifted (os : Os) (started : os.Started) (H : Type) (enc : TypeId × Value → H) (F : Stop.Interp) :
    ReturnsInHanded {} Tryz.checked os 3 .any ((Rows.OpenSpec.upto Rows.serialOneSpec).preRow enc Tryz.prog Tryz.f3 Rows.serialOneUptoRow.domain false Rows.serialOneUptoRow.laid) (((Rows.OpenSpec.upto Rows.serialOneSpec).at F).post enc Tryz.prog Tryz.f3 false true false false) := by
  obtain ⟨places, hx⟩ := reads os enc
  refine returnsInHanded_of_row (C := Tryz.checked) (s := Rows.OpenSpec.upto Rows.serialOneSpec) own started (by kernel_rfl) Tryz.func3
    (witness_row_at (enc := enc) (C := Tryz.checked) false (laidIn (World.holding Tryz.prog os ⟨#[], #[], []⟩)) #[.agg #[.string ByteArray.empty, .string ByteArray.empty, .slice none 0 0, .string ByteArray.empty], .string ByteArray.empty] rfl (by kernel_rfl) (by kernel_rfl) (by kernel_rfl)
      (OpenSpec.preRow_of_cond 8 hx (by kernel_rfl) (fun k hk => by cases hk; kernel_rfl) (by kernel_rfl) (laid_met os))) ?_
  intro W base args ds gs before hval hW _ hcond _ hL hsh _
  exact contract H enc W base args ds gs before hsh hval hW (hcond _ rfl) hL

theorem row : Rows.SerialOneUptoSaid :=
  OpenClaim.holds_of_cond 3 Tryz.f3 rfl rfl rfl rfl rfl rfl rfl ⟨rfl, rfl, rfl, rfl, rfl⟩ rfl rfl rfl rfl rfl (by kernel_rfl) Tryz.func3 (by kernel_rfl)
    (of_decide_eq_true (by kernel_rfl)) (by unfold Func.isWrapper; first | (rw [if_pos (by decide +kernel)]; kernel_rfl) | (rw [if_neg (by decide +kernel)]; exact ⟨rfl, rfl⟩))
    (fun os started H enc _ F => by rw [OpenClaim.pre_eq_preRow]; exact lifted os started H enc F)

theorem plain (f : FuncId) (fn : Func) (hf : Tryz.pinned.checked.prog.funcNamed "gatewicket/wickkeep.SerialOne" = some f) (hfn : Tryz.pinned.checked.prog.funcs[f]? = some fn) :
    false = Tryz.pinned.checked.prog.looks [] ∧ ∀ (j : Nat) t, fn.params[j]? = some t → Tryz.pinned.checked.prog.wantsStandIn t = false := by
  obtain rfl : f = 3 := Option.some.inj ((show Tryz.prog.funcNamed "gatewicket/wickkeep.SerialOne" = some 3 by kernel_rfl).symm.trans hf) |>.symm
  obtain rfl : fn = Tryz.f3 := (Option.some.inj (Tryz.func3.symm.trans hfn)).symm
  refine ⟨by kernel_rfl, fun j t ht => ?_⟩
  rw [Tryz.params3] at ht
  have hm : t = 26 ∨ t = 9 := by simpa using Array.mem_of_getElem? ht
  rcases hm with rfl | rfl
  · exact (show Tryz.prog.wantsStandIn 26 = false by kernel_rfl)
  · exact (show Tryz.prog.wantsStandIn 9 = false by kernel_rfl)

theorem over : Rows.SerialOneUptoCardSaid :=
  Claim7.holds_tied_plain_at .later [] _ _ _ _ row (fun _ h => by cases h) (by kernel_rfl) (fun _ h => by cases h) serialOneUpto_row_tie rfl ⟨rfl, rfl⟩ (by kernel_rfl) rfl plain (by kernel_rfl)
end Go.Proofs.YtmgealcolofomaaGreatDoor.serialOne
namespace Go.Proofs.YtmgealcolofomaaGreatDoor
theorem serialOne_holds : Rows.SerialOneUptoCardSaid := serialOne.over
#print axioms serialOne_holds
end Go.Proofs.YtmgealcolofomaaGreatDoor
