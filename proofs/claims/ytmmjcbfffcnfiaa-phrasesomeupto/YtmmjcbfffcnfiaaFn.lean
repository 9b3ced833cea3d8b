/- Words that came in; the steps that they take at a depth. -/
import Derived.Test.YtmmjcbfffcnfiaaFm
namespace Go.Proofs.Ytmmjcbfffcnfiaa
open Go.Shelf Go.RowKit Go.Lib Kb Ph
set_option linter.unusedVariables false
set_option maxRecDepth 20000

/-- a slice that holds these texts -/
structure Strs (w : World) (v : Value) (ws : List ByteArray) : Prop where
  form : ∃ o c, v = .slice o ws.length c ∧ ws.length ≤ c
  room : ws.length ≤ 140737488355328
  sort_ : v = .slice none 0 0 ∨ ∃ a c, v = .slice (some a) ws.length c
  at_ : ws ≠ [] → ∃ g off c, v = .slice (some ⟨g, off, none⟩) ws.length c ∧ g < w.heap.size ∧ ∀ j z, ws[j]? = some z → w.cell? ⟨g, off + j, none⟩ = some (.string z)
theorem Strs.below {w w' : World} {v : Value} {ws : List ByteArray} (h : Strs w v ws) (b : Below w.heap.size w w') : Strs w' v ws := by
  refine ⟨h.form, h.room, h.sort_, fun hne => ?_⟩
  obtain ⟨g, off, c, h1, h2, h3⟩ := h.at_ hne
  exact ⟨g, off, c, h1, Nat.lt_of_lt_of_le h2 b.size, fun j z hj => cell_below (h3 j z hj) h2 b⟩

/-- the steps that words take at depth d, from the nodes 'at', by the first k of them -/
def raw (ws : List ByteArray) (at_ : List Nat) (d : Nat) : Nat → List St
  | 0 => []
  | k + 1 => raw ws at_ d k ++ (if d < (ws.getD k ByteArray.empty).size then [(((at_.getD k 0 : Nat) : Int), (((ws.getD k ByteArray.empty).data.toList.getD d 0).toNat : Int))] else [])
theorem raw_len (ws : List ByteArray) (at_ : List Nat) (d k : Nat) : (raw ws at_ d k).length ≤ k := by
  induction k with
  | zero => simp [raw]
  | succ k ih => rw [raw, List.length_append]; split <;> simp <;> omega

set_option maxHeartbeats 2000000 in
theorem ins_none (w : World) (f : Value) : Calls Try.prog 71 #[.slice none 0 0, .int .i64 0, .int .i64 0, f] w fun e w' => e = .returned (.tuple #[]) ∧ w' = w := by
  go_enter Try.func71, Try.ntmps71
  go_wp2_with fail
  go_loop [8] (fun x => x = .int .i64 1) (fun _ => 0)
  case atStart => rfl
  case round =>
    subst hrel
    go_wp2_with fail
    go_end0
    exact ⟨rfl, rfl⟩
set_option maxHeartbeats 2000000 in
theorem pdq_none (w : World) (l : Int) (f : Value) : Calls Try.prog 55 #[.slice none 0 0, .int .i64 0, .int .i64 0, .int .i64 l, f] w fun e w' => e = .returned (.tuple #[]) ∧ w' = w := by
  have H := hide (ins_none w f)
  go_enter Try.func55, Try.ntmps55
  go_wp2_with fail
  go_loop [1, 2] (fun x y => x = .int .i64 0 ∧ y = .int .i64 0) (fun _ _ => 0)
  case atStart => exact ⟨rfl, rfl⟩
  case round =>
    obtain ⟨rfl, rfl⟩ := hrel
    go_wp2_with fail
    refine (unhide H).mono ?_; rintro e w1 ⟨rfl, hw⟩; rw [hw]; clear hw
    go_wp2_with fail
    exact bodyPost_ret (results_none (by rfl) _ _ _) rfl ⟨rfl, rfl⟩
set_option maxHeartbeats 2000000 in
theorem sort_none (w : World) (f : Value) : Calls Try.prog 44 #[.slice none 0 0, f] w fun e w' => e = .returned (.tuple #[]) ∧ w' = w := by
  have H := hide (fun l => pdq_none w l f)
  have HB := hide (Try.bits_Len 0 w (by omega) (by omega))
  go_enter Try.func44, Try.ntmps44
  go_wp2_with fail
  refine (unhide HB).mono ?_; rintro e w1 ⟨rfl, hw⟩; rw [hw]; clear hw
  go_wp2_with fail
  refine ((unhide H) _).mono ?_; rintro e w1 ⟨rfl, hw⟩; rw [hw]; clear hw
  go_wp2_with fail
  go_end0
  exact ⟨rfl, rfl⟩

theorem infoT : (Try.prog.info? 74).map (fun i => (i.zero, i.size, i.bytes)) = some (some (.agg #[.int .i64 0, .int .u8 0]), 2, 16) := by kernel_rfl
theorem compact_none (w : World) : Calls Try.prog 46 #[.slice none 0 0] w fun e w' => e = .returned (.slice none 0 0) ∧ w' = w := by
  go_enter Try.func46, Try.ntmps46
  go_wp2_with fail
  go_ret
  exact ⟨rfl, rfl⟩
/-- the steps, each once, in order -/
def StepsOf (ws : List ByteArray) (at_ : List Nat) (d : Nat) (S : List St) : Prop := S.Pairwise slt ∧ ∀ x, x ∈ S ↔ x ∈ raw ws at_ d ws.length

def natZ (l : List Nat) : List Int := l.map fun (n : Nat) => (n : Int)
theorem natZ_at {l : List Nat} {j : Nat} (h : j < l.length) : (natZ l)[j]? = some ((l.getD j 0 : Nat) : Int) := by
  simp [natZ, List.getD, List.getElem?_eq_getElem h]
set_option maxHeartbeats 8000000 in
theorem stepsAt_any (w : World) (v u : Value) (ws : List ByteArray) (at_ : List Nat) (d : Nat) (hv : Strs w v ws) (hu : Ints w u (natZ at_)) (hlen : at_.length = ws.length) (hws : ws.length ≤ 30) (hsz : ∀ x ∈ ws, x.size ≤ 40) (hd : d ≤ 40) :
    Calls Try.prog 38 #[v, u, .int .i64 d] w fun e w' =>
      ∃ x S, e = .returned x ∧ StepsOf ws at_ d S ∧ S.length ≤ 30 ∧ Below w.heap.size w w' ∧ w'.ownsRow w.heap.size 74 2 x S.length (cellsT S) := by
  obtain ⟨o, c, rfl, hc⟩ := hv.form
  obtain ⟨o2, c2, rfl, hc2⟩ := hu.form
  have hnz : (natZ at_).length = at_.length := by simp [natZ]
  rw [hnz, hlen] at hc2
  have HV := hide hv
  have HU := hide hu
  have HSZ := hide hsz
  rw [hnz, hlen] at HU ⊢
  clear hv hu hsz hnz
  obtain ⟨i0, hi, hz0, hz1, hz2⟩ := info_parts infoT
  have HCM := hide (fun g cap L w' (h : World.ownsRow w' w.heap.size 74 2 (.slice (some ⟨g, 0, none⟩) L.length cap) L.length (cellsT L)) (hn : L.length ≤ 1000) => compact_any w' w.heap.size g cap L h hn)
  have HSO := hide (fun g cap L w' (h : World.ownsRow w' w.heap.size 74 2 (.slice (some ⟨g, 0, none⟩) L.length cap) L.length (cellsT L)) (hn : L.length ≤ 1000) => sort_steps w' w.heap.size g cap L h hn)
  go_enter Try.func38, Try.ntmps38
  go_wp2_with fail
  go_loopw [12, 7] (fun x y wr => ∃ k : Nat, x = .int .i64 k ∧ k ≤ ws.length ∧ Below w.heap.size w wr ∧ wr.ownsRow w.heap.size 74 2 y (raw ws at_ d k).length (cellsT (raw ws at_ d k))) (fun x _ _ => ws.length - (intOf x).toNat)
  case atStart => exact ⟨0, rfl, Nat.zero_le _, Below.refl _ _, World.ownsRow_nil _ _ _ _⟩
  case round =>
    obtain ⟨k, rfl, hk, hbel, hown⟩ := hrel
    have BEL := hide hbel
    have OWN := hide hown
    have hB : w.heap.size ≤ wr.heap.size := hbel.size
    clear hbel hown
    by_cases hlt : k < ws.length
    · obtain ⟨x, hx⟩ : ∃ x, ws[k]? = some x := ⟨ws[k], List.getElem?_eq_getElem hlt⟩
      obtain ⟨g, off, c', he, hg, hcell⟩ := ((unhide HV).below (unhide BEL)).at_ (by intro e; rw [e] at hlt; cases hlt)
      have hload := hcell k x hx
      have hxs : x.size ≤ 40 := (unhide HSZ) x (List.mem_of_getElem? hx)
      have hxd : ws.getD k ByteArray.empty = x := by rw [List.getD, hx]; rfl
      cases he
      clear hcell
      by_cases hdx : d < x.size
      · obtain ⟨g2, off2, c3, he2, hg2, hcell2⟩ := ((unhide HU).below (unhide BEL)).at_ (by intro e; have := congrArg List.length e; rw [show (natZ at_).length = at_.length by simp [natZ]] at this; simp at this; rw [this] at hlen; simp at hlen; omega)
        have hload2 := hcell2 k _ (natZ_at (by omega))
        rw [show (natZ at_).length = ws.length by simp [natZ, hlen]] at he2
        cases he2
        clear hcell2
        have hbyte : x.data.toList.getD d 0 = x[d] := by
          have := at_list x _ rfl d hdx
          rw [List.getD, ← this]; rfl
        have HR : Hid (raw ws at_ d (k + 1) = raw ws at_ d k ++ [(((at_.getD k 0 : Nat) : Int), (x[d].toNat : Int))]) := hide (by rw [raw, hxd, if_pos hdx, hbyte])
        obtain ⟨a, ha⟩ : ∃ a, at_.getD k 0 = a := ⟨_, rfl⟩
        rw [ha] at hload2 HR
        obtain ⟨pl, hpl⟩ : ∃ pl, (raw ws at_ d k).length = pl := ⟨_, rfl⟩
        have hrl := raw_len ws at_ d k
        rw [hpl] at OWN hrl
        have HPL := hide hpl
        have hkI : (k : Int) < ws.length := by omega
        have hdI : (d : Int) < x.size := by omega
        clear hpl ha hbyte hx hxd
        go_wp2_with fail
        go_region_law (refine Kb.step_append_owned rfl (.tmp 21) (.tmp 30) 71 rfl w.heap.size 74 i0 (.agg #[.int .i64 0, .int .u8 0]) 2 16 Try.underlying71 hi hz0 hz1 hz2 rfl (by decide) _ pl (cellsT (raw ws at_ d k)) rfl ((unhide OWN).drew.alloc _) _ 1 1 _ rfl rfl (cell_two_new _ _ _ _) (by simp [Value.oneCell']) (by unfold maxLen; omega) (by omega) (by simp; omega) ?_; intro v1 w1 own1 grow1)
        all_goals (
          go_wp2_with fail
          refine ⟨⟨k + 1, by go_num, by omega, ((unhide BEL).drew.alloc hB _).grown grow1 (by simp; omega) (own_lt (unhide OWN)), ?_⟩, by simp [intOf]; omega⟩
          rw [unhide HR, List.length_append, unhide HPL, cellsT_append]; exact own1)
      · have HR : Hid (raw ws at_ d (k + 1) = raw ws at_ d k) := hide (by rw [raw, hxd, if_neg hdx, List.append_nil])
        clear hx hxd
        go_wp2_with fail
        exact ⟨⟨k + 1, by go_num, by omega, unhide BEL, by rw [unhide HR]; exact unhide OWN⟩, by simp [intOf]; omega⟩
    · obtain rfl : k = ws.length := by omega
      have hrl := raw_len ws at_ d ws.length
      obtain ⟨R, hR⟩ : ∃ R, raw ws at_ d ws.length = R := ⟨_, rfl⟩
      have HRR := hide hR
      rw [hR] at OWN hrl
      clear hR
      rcases (unhide OWN).2 with ⟨hnil, h0⟩ | ⟨g, cap, cur, hsl, _⟩
      · have HST : Hid (StepsOf ws at_ d []) := hide ⟨List.Pairwise.nil, fun x => by rw [unhide HRR, List.length_eq_zero_iff.1 h0]⟩
        subst hnil
        have H1 := hide (sort_none wr (.func (.func 45) #[] #[]))
        have H2 := hide (compact_none wr)
        go_wp2_with fail
        refine (unhide H1).mono ?_; rintro e w1 ⟨rfl, hw⟩; rw [hw]; clear hw
        go_wp2_with fail
        refine (unhide H2).mono ?_; rintro e w1 ⟨rfl, hw⟩; rw [hw]; clear hw
        go_wp2_with fail
        go_ret
        exact ⟨_, [], rfl, unhide HST, by simp, unhide BEL, World.ownsRow_nil _ _ _ _⟩
      · subst hsl
        have hgl := (unhide OWN).lt g rfl
        go_wp2_with fail
        refine ((unhide HSO) g cap R wr (unhide OWN) (by omega)).mono ?_
        rintro e w1 ⟨rfl, L', hperm, hsort, hgr, hown1⟩
        have B1 := hide ((unhide BEL).grown hgr hB (fun j hj => by cases hj; exact hgl.1))
        have OWN1 := hide hown1
        have hl1 : L'.length = R.length := hperm.length_eq
        have HP := hide hperm
        have HS := hide hsort
        clear hgr hown1 hperm hsort
        have OWN1' : Hid (World.ownsRow w1 w.heap.size 74 2 (.slice (some ⟨g, 0, none⟩) R.length cap) L'.length (cellsT L')) := hide (by have := unhide OWN1; rw [hl1] at this ⊢; exact this)
        have HC := hide ((unhide HCM) g cap L' w1 (unhide OWN1) (by omega))
        rw [hl1] at HC
        go_wp2_with fail
        refine (unhide HC).mono ?_
        rintro e w2 ⟨y, rfl, b2, own2⟩
        have B2 := hide ((unhide B1).trans b2)
        have OWN2 := hide own2
        clear b2 own2
        go_wp2_with fail
        go_ret
        refine ⟨_, ddt L' L'.length, rfl, ⟨ddt_sorted (unhide HS) _ (Nat.le_refl _), fun x => ?_⟩, ?_, unhide B2, by rw [hl1]; exact unhide OWN2⟩
        · rw [ddt_mem L' _ (Nat.le_refl _), List.take_length, unhide HRR]; exact (unhide HP).mem_iff
        · have := ddt_len L' L'.length; omega
end Go.Proofs.Ytmmjcbfffcnfiaa
