/- The walk of the document's reader of heads. -/
import Derived.Test.YtjpclmkekmkddaaGreatDoorMn
import Derived.Deep.RegionLaw
import Derived.BigRegion
namespace Go.Proofs.YtjpclmkekmkddaaGreatDoor
open Go.RowKit Kb
set_option linter.unusedVariables false
set_option maxRecDepth 20000
open Mh (Fl)

namespace Mh
def good (l : L8) : Bool := !l.isEmpty && !broken l
theorem readL_good {L : List L8} (hL : L ≠ []) (h : L.all good = false) : readL L = none := by
  cases hr : readL L with
  | none => rfl
  | some x =>
    exfalso
    obtain ⟨p, r, rfl⟩ := List.exists_cons_of_ne_nil hL
    unfold readL at hr
    split at hr
    · cases hr
    · rename_i hb
      rw [List.head?_cons, Option.getD_some, List.tail_cons] at hr
      cases h1 : firstOf p with
      | none => rw [h1] at hr; cases hr
      | some q =>
        rw [h1] at hr
        dsimp only at hr
        cases h2 : fieldsOf [] r with
        | none => rw [h2] at hr; cases hr
        | some fs =>
          have ha : (p :: r).all good = true := List.all_eq_true.2 fun x hx => by
            have hbx : broken x = false := by
              have := List.any_eq_false.1 (by simpa using hb) x hx
              simpa using this
            have hne : x ≠ [] := by
              rcases List.mem_cons.1 hx with e | e
              · rw [e]; exact firstOf_full (by rw [h1]; simp)
              · exact fieldsOf_full r [] (by rw [h2]; simp) x e
            unfold good
            rw [hbx]
            cases x with
            | nil => exact absurd rfl hne
            | cons _ _ => rfl
          rw [ha] at h; cases h
theorem broken_two (l : L8) : broken l = (decide ((13 : UInt8) ∈ l) || decide ((10 : UInt8) ∈ l)) := by
  unfold broken
  rw [Bool.eq_iff_iff, List.any_eq_true, Bool.or_eq_true, decide_eq_true_eq, decide_eq_true_eq]
  constructor
  · rintro ⟨c, hc, h⟩
    rw [Bool.or_eq_true, beq_iff_eq, beq_iff_eq] at h
    rcases h with h | h
    · left; rw [← h]; exact hc
    · right; rw [← h]; exact hc
  · rintro (h | h)
    · exact ⟨13, h, rfl⟩
    · exact ⟨10, h, rfl⟩
end Mh
set_option maxHeartbeats 8000000 in
theorem rread_any (s : ByteArray) (w : World) (hs : s.size ≤ 1048576) (a b : List UInt8) (fs : List Fl) (z : Int) (hp : Mh.parse s.data.toList = (a, b, fs, z)) :
    Calls Tryz.prog 21 #[.string s] w fun e w' => ∃ v, e = .returned (.tuple #[.agg #[.string (mk a), .string (mk b), v], .int .i64 z]) ∧ w'.ownsRow w.heap.size 73 2 v fs.length (cellsF fs) ∧ Below w.heap.size w w' := by
  obtain ⟨i0, hi, hz0, hz1, hz2⟩ := info_parts infoF
  unfold Mh.parse at hp
  rw [len_data] at hp
  have X0 := hide (HX.new (base := w.heap.size) w (Nat.le_refl _) ⟨#[]⟩ ⟨#[]⟩ none 0 0)
  have b0 := (Below.refl w.heap.size w).alloc (Nat.le_refl _) (.cells #[.string ⟨#[]⟩, .string ⟨#[]⟩, .slice none 0 0] 28)
  have B0 := hide b0
  have hwW : w.heap.size < (w.alloc (.cells #[.string ⟨#[]⟩, .string ⟨#[]⟩, .slice none 0 0] 28)).heap.size := by simp
  obtain ⟨W0, hW0⟩ : ∃ W0, w.alloc (.cells #[.string ⟨#[]⟩, .string ⟨#[]⟩, .slice none 0 0] 28) = W0 := ⟨_, rfl⟩
  rw [hW0] at X0 B0 hwW
  have HZ : Hid (∀ (W : World) (a b : ByteArray) (v : Value), HX W w.heap.size w.heap.size a b v → Below w.heap.size w W → (loadVar 28 ⟨w.heap.size, 0, none⟩).run Tryz.prog (putH W w.heap.size ⟨#[]⟩ ⟨#[]⟩ (.slice none 0 0)) = .ok (.agg #[.string ⟨#[]⟩, .string ⟨#[]⟩, .slice none 0 0]) (putH W w.heap.size ⟨#[]⟩ ⟨#[]⟩ (.slice none 0 0)) ∧ (putH W w.heap.size ⟨#[]⟩ ⟨#[]⟩ (.slice none 0 0)).ownsRow w.heap.size 73 2 (.slice none 0 0) 0 [] ∧ Below w.heap.size w (putH W w.heap.size ⟨#[]⟩ ⟨#[]⟩ (.slice none 0 0))) :=
    hide (fun W a b v hX hB => ⟨hX.loaded _ _ none 0 0, World.ownsRow_nil _ _ _ _, hB.grown (hX.put _ _ _ rfl).2 hB.size (fun q hq => by have := Option.some.inj hq; omega)⟩)
  have HZE : Hid (∀ y : Int, (([] : List UInt8), ([] : List UInt8), ([] : List Fl), y) = (a, b, fs, z) → mk a = ⟨#[]⟩ ∧ mk b = ⟨#[]⟩ ∧ fs.length = 0 ∧ cellsF fs = [] ∧ z = y) := hide (fun y e => by
    injection e with e1 e2; injection e2 with e2 e3; injection e3 with e3 e4
    subst e1 e2 e3 e4; exact ⟨rfl, rfl, rfl, rfl, rfl⟩)
  have HP := hide hp
  clear b0 hp
  by_cases hbig : 4096 < s.size
  · have HEE := hide ((unhide HZE) 5 (by have := unhide HP; rw [if_pos hbig] at this; exact this))
    have hbig' : (4096 : Int) < s.size := by omega
    obtain ⟨y0, y1, y2⟩ := (unhide X0).cells
    obtain ⟨f0, f1, f2⟩ := (unhide X0).frozen
    have P1 := hide ((unhide HZ) W0 _ _ _ (unhide X0) (unhide B0))
    clear HP HZ HZE
    go_enter Tryz.func21, Tryz.ntmps21
    go_wp2_with fail
    (try simp only [Exit.inBlock, Exit.then])
    refine bodyPost_ret_by (v := .tuple #[.agg #[.string ⟨#[]⟩, .string ⟨#[]⟩, .slice none 0 0], .int .i64 5]) ?_ rfl ⟨.slice none 0 0, by rw [(unhide HEE).1, (unhide HEE).2.1, (unhide HEE).2.2.2.2], by rw [(unhide HEE).2.2.1, (unhide HEE).2.2.2.1]; exact (unhide P1).2.1, (unhide P1).2.2⟩
    refine results_ct (p := 2) (u := 3) (ty := 28) ?_ _ _ w.heap.size _ ?_ (unhide P1).1 _ ?_ <;> rfl
  have hbig' : ¬ (4096 : Int) < s.size := by omega
  have HP2 : Hid ((match Mh.readH s.data.toList with | none => ([], [], [], 4) | some h => if Mh.check h.1 h.2.1 h.2.2 = 0 then (h.1, h.2.1, h.2.2, 0) else ([], [], [], Mh.check h.1 h.2.1 h.2.2)) = (a, b, fs, z)) := hide (by have := unhide HP; rw [if_neg hbig] at this; exact this)
  have hsuf := Lib.hasSuffix_raw s ⟨#[13, 10, 13, 10]⟩
  rw [show (⟨#[13, 10, 13, 10]⟩ : ByteArray).data.toList = Mh.crlf ++ Mh.crlf from rfl, show (⟨#[13, 10, 13, 10]⟩ : ByteArray).size = 4 from rfl] at hsuf
  have HRD := hide (fun h => Mh.read_bounds (s := s.data.toList) (m := (h : List UInt8 × List UInt8 × List Fl).1) (t := h.2.1) (fs := h.2.2))
  have HBD : Hid (∀ h, Mh.readH s.data.toList = some h → h.1.length + h.2.1.length ≤ 68719476736 ∧ h.2.2.length ≤ 4398046511104 ∧ ∀ f ∈ h.2.2, f.1.length + f.2.length ≤ 68719476736) := hide (fun h e => by
    obtain ⟨h1, h2, h3⟩ := h
    obtain ⟨g1, g2, g3, g4⟩ := Mh.read_bounds e
    rw [len_data] at g1 g2 g3 g4
    exact ⟨by dsimp only; omega, by dsimp only; omega, fun f hf => by have := g4 f hf; omega⟩)
  obtain ⟨o, ho⟩ : ∃ o, Mh.readH s.data.toList = o := ⟨_, rfl⟩
  rw [ho] at HP2 HBD
  have HNONE : Hid (o = none → mk a = ⟨#[]⟩ ∧ mk b = ⟨#[]⟩ ∧ fs.length = 0 ∧ cellsF fs = [] ∧ z = 4) := hide (fun e => (unhide HZE) 4 (by have := unhide HP2; rw [e] at this; exact this))
  unfold Mh.readH at ho
  clear HP HRD hbig
  by_cases h4 : s.size < 4
  · have hh : Lib.hasSuffix s.data.toList (Mh.crlf ++ Mh.crlf) = false := by rw [← hsuf, decide_eq_false (by omega)]; rfl
    have HEE := hide ((unhide HNONE) (by rw [hh, if_neg (by simp)] at ho; exact ho.symm))
    have h4' : (s.size : Int) < 4 := by omega
    obtain ⟨y0, y1, y2⟩ := (unhide X0).cells
    obtain ⟨f0, f1, f2⟩ := (unhide X0).frozen
    have P1 := hide ((unhide HZ) W0 _ _ _ (unhide X0) (unhide B0))
    clear HP2 HZ HZE ho hsuf HBD HNONE hh
    go_enter Tryz.func21, Tryz.ntmps21
    go_wp2_with fail
    (try simp only [Exit.inBlock, Exit.then])
    refine bodyPost_ret_by (v := .tuple #[.agg #[.string ⟨#[]⟩, .string ⟨#[]⟩, .slice none 0 0], .int .i64 4]) ?_ rfl ⟨.slice none 0 0, by rw [(unhide HEE).1, (unhide HEE).2.1, (unhide HEE).2.2.2.2], by rw [(unhide HEE).2.2.1, (unhide HEE).2.2.2.1]; exact (unhide P1).2.1, (unhide P1).2.2⟩
    refine results_ct (p := 2) (u := 3) (ty := 28) ?_ _ _ w.heap.size _ ?_ (unhide P1).1 _ ?_ <;> rfl
  have h4' : ¬ (s.size : Int) < 4 := by omega
  rw [decide_eq_true (by omega), Bool.true_and, Lib.toList_data ⟨#[13, 10, 13, 10]⟩] at hsuf
  have hsz4 : ((s.size : Int) - 4).toNat = s.size - 4 := by omega
  obtain ⟨e4, he4⟩ : ∃ x, s.extract (s.size - 4) s.size = x := ⟨_, rfl⟩
  rw [he4, show (⟨#[13, 10, 13, 10]⟩ : ByteArray).data.toList = [13, 10, 13, 10] from rfl] at hsuf
  obtain ⟨q, hq⟩ : ∃ q, Lib.hasSuffix s.data.toList (Mh.crlf ++ Mh.crlf) = q := ⟨_, rfl⟩
  rw [hq] at hsuf ho
  clear hq
  cases q
  · have HEE := hide ((unhide HNONE) (by rw [if_neg (by simp)] at ho; exact ho.symm))
    obtain ⟨y0, y1, y2⟩ := (unhide X0).cells
    obtain ⟨f0, f1, f2⟩ := (unhide X0).frozen
    have P1 := hide ((unhide HZ) W0 _ _ _ (unhide X0) (unhide B0))
    clear HP2 HZ HZE ho HBD HNONE
    go_enter Tryz.func21, Tryz.ntmps21
    go_wp2_with fail
    (try simp only [Exit.inBlock, Exit.then])
    refine bodyPost_ret_by (v := .tuple #[.agg #[.string ⟨#[]⟩, .string ⟨#[]⟩, .slice none 0 0], .int .i64 4]) ?_ rfl ⟨.slice none 0 0, by rw [(unhide HEE).1, (unhide HEE).2.1, (unhide HEE).2.2.2.2], by rw [(unhide HEE).2.2.1, (unhide HEE).2.2.2.1]; exact (unhide P1).2.1, (unhide P1).2.2⟩
    refine results_ct (p := 2) (u := 3) (ty := 28) ?_ _ _ w.heap.size _ ?_ (unhide P1).1 _ ?_ <;> rfl
  obtain ⟨y, hy⟩ : ∃ x, s.extract 0 (s.size - 4) = x := ⟨_, rfl⟩
  have hyd : s.data.toList.take (s.data.toList.length - 4) = y.data.toList := by rw [← hy, Lib.extract_from_zero, len_data]
  have hys : y.size ≤ s.size := by rw [← len_data y, ← hyd, List.length_take, len_data]; omega
  rw [if_pos rfl, hyd] at ho
  have HPI := hide (fun W => rpieces_s ⟨#[13, 10]⟩ y W (by omega) ⟨by decide, by decide⟩)
  rw [show (⟨#[13, 10]⟩ : ByteArray).data.toList = Mh.crlf from rfl] at HPI
  have hml : ∀ p ∈ Mh.pc Mh.crlf y.data.toList, p.length ≤ y.size := fun p hp => by
    have := Mh.pc_mem_len Mh.crlf_ne y.data.toList p hp
    rwa [len_data] at this
  have hcl := Mh.pc_len Mh.crlf_ne y.data.toList
  rw [len_data] at hcl
  have hne := Mh.pc_ne Mh.crlf y.data.toList Mh.crlf_ne
  obtain ⟨cs, hcs⟩ : ∃ cs, Mh.pc Mh.crlf y.data.toList = cs := ⟨_, rfl⟩
  rw [hcs] at HPI hml hcl hne ho
  clear hcs hyd
  have hpos : 0 < cs.length := List.length_pos_iff.2 hne
  have HML := hide hml
  have HO := hide ho
  have HGOOD := hide (fun h => Mh.readL_good hne h)
  clear hml ho
  go_enter Tryz.func21, Tryz.ntmps21
  go_wp2_with fail
  clear hW0
  refine ((unhide HPI) W0).mono ?_; rintro e w1 ⟨v, rfl, own1, b1⟩
  obtain ⟨G, c1, rfl, hc1⟩ := own_form own1 hpos
  have L1 : Hid (LinesAt w1 G cs) := hide ⟨(own1.lt G rfl).2, fun j p hp => by
    have hj := (List.getElem?_eq_some_iff.1 hp).1
    rw [own1.cellAt j (by omega), cellsS, List.getElem?_map, hp]; rfl⟩
  have hGX : w.heap.size < G := by have := (own1.lt G rfl).1; omega
  have B1 := hide (bel_trans (unhide B0) b1)
  have X1 := hide ((unhide X0).below b1)
  clear b1 own1 HPI B0 X0
  go_wp2_with fail
  go_loopw [5] (fun i wr => ∃ k : Nat, i = .int .i64 k ∧ k ≤ cs.length ∧ (cs.take k).all Mh.good = true ∧ wr = w1) (fun i _ => cs.length - (intOf i).toNat)
  case atStart => exact ⟨0, rfl, Nat.zero_le _, rfl, rfl⟩
  case round =>
    obtain ⟨k, rfl, hk, hgd, rfl⟩ := hrel
    have HGD := hide hgd
    clear hgd
    by_cases hlt : k < cs.length
    · obtain ⟨p, hp⟩ : ∃ p, cs[k]? = some p := ⟨cs[k], List.getElem?_eq_getElem hlt⟩
      have hl := (unhide L1).2 k p hp
      have hT : (cs.take (k + 1)).all Mh.good = Mh.good p := by rw [List.take_add_one, hp, List.all_append, unhide HGD]; simp
      have hF : Mh.good p = false → cs.all Mh.good = false := fun h => by
        rw [List.all_eq_false]; exact ⟨p, List.mem_of_getElem? hp, by rw [h]; simp⟩
      have hpl := (unhide HML) p (List.mem_of_getElem? hp)
      have H13 := hide (fun W => rhas_c 13 (mk p) W (by rw [mk_size]; omega))
      have H10 := hide (fun W => rhas_c 10 (mk p) W (by rw [mk_size]; omega))
      rw [mk_toList] at H13 H10
      have hgp : Mh.good p = (!p.isEmpty && !(decide ((13 : UInt8) ∈ p) || decide ((10 : UInt8) ∈ p))) := by unfold Mh.good; rw [Mh.broken_two]
      have hem : (mk p).toList.isEmpty = p.isEmpty := by rw [Lib.toList_data, mk_toList]
      obtain ⟨x, hx⟩ : ∃ x, mk p = x := ⟨_, rfl⟩
      obtain ⟨e0, he0⟩ : ∃ b, p.isEmpty = b := ⟨_, rfl⟩
      obtain ⟨e1, he1⟩ : ∃ b, decide ((13 : UInt8) ∈ p) = b := ⟨_, rfl⟩
      obtain ⟨e2, he2⟩ : ∃ b, decide ((10 : UInt8) ∈ p) = b := ⟨_, rfl⟩
      rw [he1] at H13 hgp
      rw [he2] at H10 hgp
      rw [he0] at hgp hem
      rw [hx] at hl H13 H10 hem
      have HT := hide hT
      have HF := hide hF
      have HGP := hide hgp
      clear hp hT hF hgp he0 he1 he2 hx
      obtain ⟨y0, y1, y2⟩ := (unhide X1).cells
      obtain ⟨f0, f1, f2⟩ := (unhide X1).frozen
      have P1 := hide ((unhide HZ) wr _ _ _ (unhide X1) (unhide B1))
      have HBADL : Hid (Mh.good p = false → mk a = ⟨#[]⟩ ∧ mk b = ⟨#[]⟩ ∧ fs.length = 0 ∧ cellsF fs = [] ∧ z = 4) := hide (fun h => (unhide HNONE) (by rw [← unhide HO]; exact (unhide HGOOD) ((unhide HF) h)))
      cases e0
      · cases e1
        · cases e2
          · have HX : Hid ((cs.take (k + 1)).all Mh.good = true) := hide (by rw [unhide HT, unhide HGP]; rfl)
            clear HBADL P1 HT HF HGP
            go_wp2_with fail
            refine ((unhide H13) _).mono ?_; rintro e wx ⟨rfl, hwx⟩; rw [hwx]; clear hwx wx
            go_wp2_with fail
            refine ((unhide H10) _).mono ?_; rintro e wx ⟨rfl, hwx⟩; rw [hwx]; clear hwx wx
            go_wp2_with fail
            exact ⟨⟨k + 1, by go_num, by omega, unhide HX, by first | trivial | rfl⟩, by simp [intOf]; omega⟩
          · have HEE := hide ((unhide HBADL) (by rw [unhide HGP]; rfl))
            clear HBADL HT HF HGP HZ HZE
            go_wp2_with fail
            refine ((unhide H13) _).mono ?_; rintro e wx ⟨rfl, hwx⟩; rw [hwx]; clear hwx wx
            go_wp2_with fail
            refine ((unhide H10) _).mono ?_; rintro e wx ⟨rfl, hwx⟩; rw [hwx]; clear hwx wx
            go_wp2_with fail
            (try simp only [Exit.inBlock, Exit.then])
            refine bodyPost_ret_by (v := .tuple #[.agg #[.string ⟨#[]⟩, .string ⟨#[]⟩, .slice none 0 0], .int .i64 4]) ?_ rfl ⟨.slice none 0 0, by rw [(unhide HEE).1, (unhide HEE).2.1, (unhide HEE).2.2.2.2], by rw [(unhide HEE).2.2.1, (unhide HEE).2.2.2.1]; exact (unhide P1).2.1, (unhide P1).2.2⟩
            refine results_ct (p := 2) (u := 3) (ty := 28) ?_ _ _ w.heap.size _ ?_ (unhide P1).1 _ ?_ <;> rfl
        · have HEE := hide ((unhide HBADL) (by rw [unhide HGP]; rfl))
          clear HBADL HT HF HGP HZ HZE
          go_wp2_with fail
          refine ((unhide H13) _).mono ?_; rintro e wx ⟨rfl, hwx⟩; rw [hwx]; clear hwx wx
          go_wp2_with fail
          (try simp only [Exit.inBlock, Exit.then])
          refine bodyPost_ret_by (v := .tuple #[.agg #[.string ⟨#[]⟩, .string ⟨#[]⟩, .slice none 0 0], .int .i64 4]) ?_ rfl ⟨.slice none 0 0, by rw [(unhide HEE).1, (unhide HEE).2.1, (unhide HEE).2.2.2.2], by rw [(unhide HEE).2.2.1, (unhide HEE).2.2.2.1]; exact (unhide P1).2.1, (unhide P1).2.2⟩
          refine results_ct (p := 2) (u := 3) (ty := 28) ?_ _ _ w.heap.size _ ?_ (unhide P1).1 _ ?_ <;> rfl
      · have HEE := hide ((unhide HBADL) (by rw [unhide HGP]; rfl))
        clear HBADL HT HF HGP HZ HZE
        go_wp2_with fail
        (try simp only [Exit.inBlock, Exit.then])
        refine bodyPost_ret_by (v := .tuple #[.agg #[.string ⟨#[]⟩, .string ⟨#[]⟩, .slice none 0 0], .int .i64 4]) ?_ rfl ⟨.slice none 0 0, by rw [(unhide HEE).1, (unhide HEE).2.1, (unhide HEE).2.2.2.2], by rw [(unhide HEE).2.2.1, (unhide HEE).2.2.2.1]; exact (unhide P1).2.1, (unhide P1).2.2⟩
        refine results_ct (p := 2) (u := 3) (ty := 28) ?_ _ _ w.heap.size _ ?_ (unhide P1).1 _ ?_ <;> rfl
    · obtain rfl : k = cs.length := by omega
      obtain ⟨p0, L, rfl⟩ := List.exists_cons_of_ne_nil hne
      have hbr : (p0 :: L).any Mh.broken = false := by
        rw [List.any_eq_false]
        intro x hx
        have h := unhide HGD
        rw [List.take_length] at h
        have := List.all_eq_true.1 h x hx
        unfold Mh.good at this
        rw [Bool.and_eq_true] at this
        have h2 := this.2
        rw [Bool.not_eq_true'] at h2
        rw [h2]; simp
      have HRL : Hid ((match Mh.firstOf p0 with | none => none | some p => match Mh.fieldsOf [] L with | none => none | some fs => some (p.1, p.2, fs)) = o) := hide (by
        have h := unhide HO
        unfold Mh.readL at h
        rw [hbr, if_neg (by simp)] at h; exact h)
      have hp0 := (unhide HML) p0 (by simp)
      have HPS := hide (fun W => rpieces_s ⟨#[32]⟩ (mk p0) W (by rw [mk_size]; omega) ⟨by decide, by decide⟩)
      rw [show (⟨#[32]⟩ : ByteArray).data.toList = [32] from rfl, mk_toList, pc_one] at HPS
      have hwne := Cs.cut_ne 32 p0
      have hwl : ∀ x ∈ Cs.cut 32 p0, x.length ≤ p0.length := fun x hx => Mh.pc_mem_len (t := [32]) (by simp) p0 x (by rw [pc_one]; exact hx)
      unfold Mh.firstOf at HRL
      have c0 := (unhide L1).2 0 p0 rfl
      obtain ⟨ws, hws⟩ : ∃ ws, Cs.cut 32 p0 = ws := ⟨_, rfl⟩
      obtain ⟨x0, hx0⟩ : ∃ x, mk p0 = x := ⟨_, rfl⟩
      rw [hws] at HPS hwne HRL hwl
      rw [hx0] at HPS c0
      have hwpos : 0 < ws.length := List.length_pos_iff.2 hwne
      rw [List.length_cons] at hcl hc1
      have HWL := hide hwl
      clear hws hx0 hbr HO HGOOD HGD hne hpos hlt hk hwl
      rw [List.length_cons]
      go_wp2_with fail
      refine ((unhide HPS) wr).mono ?_; rintro e w2 ⟨v2, rfl, own2, b2⟩
      obtain ⟨g2, cc2, rfl, hcc2⟩ := own_form own2 hwpos
      have B2 := hide (bel_trans (unhide B1) b2)
      have X2 := hide ((unhide X1).below b2)
      have L2 := hide ((unhide L1).below b2)
      have hg2 := (own2.lt g2 rfl).2
      have HW2 : Hid (∀ j p, ws[j]? = some p → w2.cell? ⟨g2, j, none⟩ = some (.string (mk p))) := hide (fun j p hp => by
        have hj := (List.getElem?_eq_some_iff.1 hp).1
        rw [own2.cellAt j (by omega), cellsS, List.getElem?_map, hp]; rfl)
      clear b2 own2 B1 X1 L1 HPS c0
      obtain ⟨y0, y1, y2⟩ := (unhide X2).cells
      obtain ⟨f0, f1, f2⟩ := (unhide X2).frozen
      by_cases h3 : ws.length = 3
      · match ws, h3 with
        | [p1, p2, p3], _ =>
          have c0 := (unhide HW2) 0 p1 rfl
          have c1 := (unhide HW2) 1 p2 rfl
          have c2 := (unhide HW2) 2 p3 rfl
          have hh : (mk p3 = ⟨#[72, 84, 84, 80, 47, 49, 46, 49]⟩) ↔ p3 = Mh.http := ⟨fun e => by have := congrArg (fun q : ByteArray => q.data.toList) e; rw [mk_toList] at this; exact this, fun e => by rw [e]; rfl⟩
          obtain ⟨x1, hx1⟩ : ∃ x, mk p1 = x := ⟨_, rfl⟩
          obtain ⟨x2, hx2⟩ : ∃ x, mk p2 = x := ⟨_, rfl⟩
          obtain ⟨x3, hx3⟩ : ∃ x, mk p3 = x := ⟨_, rfl⟩
          rw [hx1] at c0
          rw [hx2] at c1
          rw [hx3] at c2 hh
          by_cases hp : p3 = Mh.http
          · have hb : (x3.toList == [72, 84, 84, 80, 47, 49, 46, 49]) = true := by rw [hh.2 hp, Lib.toList_data]; rfl
            have HRR : Hid ((match Mh.fieldsOf [] L with | none => none | some fs => some (p1, p2, fs)) = o) := hide (by
              have := unhide HRL; rw [if_pos ⟨rfl, hp⟩] at this; exact this)
            have HAB : Hid (mk p1 = x1 ∧ mk p2 = x2) := hide ⟨hx1, hx2⟩
            clear HRL hh hp hx1 hx2 hx3 HW2 HWL
            go_wp2_with fail
            go_region
            have Y := (HX.new (base := w2.heap.size) w2 (Nat.le_refl _) x1 x2 none 0 0).below (Below.refl _ _).drew
            have bb := ((Below.refl w2.heap.size w2).alloc (Nat.le_refl _) (.cells #[.string x1, .string x2, .slice none 0 0] 28)).drew
            have B4 := hide (bel_trans (unhide B2) bb)
            have X4 := hide ((unhide X2).below bb)
            have L4 := hide ((unhide L2).below bb)
            have hgX2 : w.heap.size < w2.heap.size := (unhide X2).lt.2
            have hgL : G < w2.heap.size := (unhide L2).1
            obtain ⟨g7, hg7⟩ : ∃ g7, w2.heap.size = g7 := ⟨_, rfl⟩
            obtain ⟨W4, hW4⟩ : ∃ W4, (w2.alloc (.cells #[.string x1, .string x2, .slice none 0 0] 28)).drew = W4 := ⟨_, rfl⟩
            rw [hW4] at Y bb B4 X4 L4 ⊢
            rw [hg7] at Y hgX2 hgL ⊢
            have Y4 := hide Y
            have hg74 : g7 < W4.heap.size := Y.lt.2
            clear bb Y B2 X2 L2 hW4 hg7 y0 y1 y2 f0 f1 f2 c0 c1 c2 hg2
            go_wp2_with fail
            go_loopw [8] (fun i wr => ∃ (k : Nat) (acc : List Fl) (o' : Option Addr) (c' : Nat), i = .int .i64 ((k : Int) + 1) ∧ k ≤ L.length ∧ acc.length = k ∧ Mh.fieldsOf acc (L.drop k) = Mh.fieldsOf [] L ∧ HX wr g7 g7 x1 x2 (.slice o' k c') ∧ wr.ownsRow W4.heap.size 73 2 (.slice o' k c') k (cellsF acc) ∧ W4.grownBy wr (some g7)) (fun i _ => L.length + 1 - (intOf i).toNat)
            case atStart => exact ⟨0, [], none, 0, rfl, Nat.zero_le _, rfl, rfl, unhide Y4, World.ownsRow_nil _ _ _ _, World.grownBy.refl _ _⟩
            case round =>
              obtain ⟨k, acc, o', c', rfl, hk, hal, hres, hY, hown, hgr⟩ := hrel
              have YK := hide hY
              have OWN := hide hown
              have GR := hide hgr
              have HAL := hide hal
              have HRS := hide hres
              have hW4r := hgr.size
              have XR := hide ((unhide X4).kept hgr (by intro e; have := Option.some.inj e; omega))
              have BR := hide ((unhide B4).grown hgr (unhide B4).size (fun q hq => by have := Option.some.inj hq; omega))
              have LR : Hid (LinesAt wr G (p0 :: L)) := hide ⟨Nat.lt_of_lt_of_le (unhide L4).1 hgr.size, fun j p hp => hgr.cell ((unhide L4).2 j p hp) (by intro e; have := Option.some.inj e; have h2 : G = g7 := this; omega)⟩
              clear hY hown hgr hal hres
              by_cases hlt : k < L.length
              · obtain ⟨p, hp⟩ : ∃ p, L[k]? = some p := ⟨L[k], List.getElem?_eq_getElem hlt⟩
                have hl1 := (unhide LR).2 (k + 1) p (by simpa using hp)
                have hGr := (unhide LR).1
                have hdrop : L.drop k = p :: L.drop (k + 1) := by
                  rw [List.drop_eq_getElem_cons hlt]
                  have := List.getElem?_eq_getElem hlt
                  rw [hp] at this
                  rw [← Option.some.inj this]
                have hrs2 : (match Mh.fieldOf p with | none => none | some f => Mh.fieldsOf (acc ++ [f]) (L.drop (k + 1))) = Mh.fieldsOf [] L := by have := unhide HRS; rw [hdrop, Mh.fieldsOf] at this; exact this
                have hpl := (unhide HML) p (List.mem_cons_of_mem _ (List.mem_of_getElem? hp))
                have HCT := hide (rcut_s ⟨#[58]⟩ (mk p) wr (by rw [mk_size]; omega) ⟨by decide, by decide⟩ _ rfl)
                rw [mk_toList, show (⟨#[58]⟩ : ByteArray).data.toList = [58] from rfl] at HCT
                have hcln := cut_len p [58]
                unfold Mh.fieldOf at hrs2
                obtain ⟨⟨fu, fv, fo⟩, hq⟩ : ∃ q, Lib.cut p [58] = q := ⟨_, rfl⟩
                rw [hq] at HCT hrs2 hcln
                dsimp only at HCT hrs2 hcln
                have HTR := hide (fun W => rtrim_any (mk fv) W (by rw [mk_size]; omega))
                rw [mk_toList, show (⟨(trim fv).toArray⟩ : ByteArray) = mk (trim fv) from rfl] at HTR
                obtain ⟨px, hpx⟩ : ∃ x, mk p = x := ⟨_, rfl⟩
                obtain ⟨ux, hux⟩ : ∃ x, mk fu = x := ⟨_, rfl⟩
                obtain ⟨vx, hvx⟩ : ∃ x, mk fv = x := ⟨_, rfl⟩
                obtain ⟨tx, htx⟩ : ∃ x, mk (trim fv) = x := ⟨_, rfl⟩
                rw [hpx] at hl1 HCT
                rw [hux, hvx] at HCT
                rw [hvx, htx] at HTR
                have HRS2 := hide hrs2
                have HAF : Hid (mk fu = ux ∧ mk (trim fv) = tx) := hide ⟨hux, htx⟩
                clear hpx hux hvx htx hdrop hp HRS hpl hcln hq hrs2
                go_wp2_with fail
                refine (unhide HCT).mono ?_; rintro e w6 ⟨rfl, b6⟩
                have YK6 := hide ((unhide YK).below b6)
                have OW6 := hide (own_below (unhide OWN) b6)
                have GR6 := hide (grown_below' (unhide GR) b6)
                have XR6 := hide ((unhide XR).below b6)
                have BR6 := hide (bel_trans (unhide BR) b6)
                clear b6 YK OWN GR XR BR LR hl1 hGr HCT
                cases fo
                · have HEE := hide ((unhide HNONE) (by have h := unhide HRR; rw [← unhide HRS2, if_neg (by simp)] at h; exact h.symm))
                  obtain ⟨y0, y1, y2⟩ := (unhide XR6).cells
                  obtain ⟨f0, f1, f2⟩ := (unhide XR6).frozen
                  have P1 := hide ((unhide HZ) w6 _ _ _ (unhide XR6) (unhide BR6))
                  clear HNONE HRS2 HRR HZ HZE HAF
                  go_wp2_with fail
                  (try simp only [Exit.inBlock, Exit.then])
                  refine bodyPost_ret_by (v := .tuple #[.agg #[.string ⟨#[]⟩, .string ⟨#[]⟩, .slice none 0 0], .int .i64 4]) ?_ rfl ⟨.slice none 0 0, by rw [(unhide HEE).1, (unhide HEE).2.1, (unhide HEE).2.2.2.2], by rw [(unhide HEE).2.2.1, (unhide HEE).2.2.2.1]; exact (unhide P1).2.1, (unhide P1).2.2⟩
                  refine results_ct (p := 2) (u := 3) (ty := 28) ?_ _ _ w.heap.size _ ?_ (unhide P1).1 _ ?_ <;> rfl
                · have HRS3 : Hid (Mh.fieldsOf (acc ++ [(fu, trim fv)]) (L.drop (k + 1)) = Mh.fieldsOf [] L) := hide (by have := unhide HRS2; rw [if_pos rfl] at this; exact this)
                  have b3 : k + 1 ≤ maxLen := by unfold maxLen; omega
                  have b4 : (k + 1) * 32 ≤ 140737488355328 := by omega
                  have hs6 := (unhide GR6).size
                  have OWD := hide ((unhide OW6).drew)
                  have HAP : Hid (∀ w8 v1, (w6.drew.alloc (.cells #[.string ux, .string tx] 73)).grownBy w8 (Value.slice o' k c').ownBlock → w8.ownsRow W4.heap.size 73 2 v1 (k + 1) (cellsF acc ++ [.string ux, .string tx]) → HX w8 g7 g7 x1 x2 (.slice o' k c') ∧ W4.grownBy w8 (some g7)) := hide (fun w8 v1 gr own => by
                    have bd : Below w6.heap.size w6 w6.drew := (Below.refl _ _).drew
                    have bal := bel_trans bd ((Below.refl w6.drew.heap.size w6.drew).alloc (Nat.le_refl _) (.cells #[.string ux, .string tx] 73))
                    have hr : ∀ q, (Value.slice o' k c').ownBlock = some q → W4.heap.size ≤ q := own_lt (unhide OW6)
                    exact ⟨((unhide YK6).below bal).kept gr (fun e => by have := hr g7 e; omega), grown_row (grown_below' (unhide GR6) bal) gr (Nat.le_refl _) hr⟩)
                  obtain ⟨v0, v1, v2⟩ := (unhide YK6).cells
                  obtain ⟨e0, e1, e2⟩ := (unhide YK6).frozen
                  have hg76 := (unhide YK6).lt.2
                  clear HRS2
                  go_wp2_with fail
                  go_region_law (first
                    | (go_simp; go_at_call 39; refine ((unhide HTR) _).mono ?_; rintro e wx ⟨rfl, hwx⟩; rw [hwx]; clear hwx wx)
                    | (refine Kb.step_append_owned rfl (.tmp 101) (.tmp 106) 26 rfl W4.heap.size 73 i0 (.agg #[.string ByteArray.empty, .string ByteArray.empty]) 2 32 Tryz.underlying26 hi hz0 hz1 hz2 rfl (by decide) _ k (cellsF acc) rfl ((unhide OWD).alloc _) _ 1 1 _ rfl rfl (cell_two_new _ _ _ _) (by simp [Value.oneCell']) b3 b4 (by simp; omega) ?_; intro vv w8 own8 grow8; obtain ⟨Y8, G8⟩ := unhide HAP w8 vv grow8 own8; obtain ⟨oo, cc, rfl⟩ := own_forms own8; obtain ⟨q0, q1, q2⟩ := Y8.cells; obtain ⟨r0, r1, r2⟩ := Y8.frozen; have hl8 := Y8.lt.2))
                  all_goals (
                    go_wp2_with fail
                    obtain ⟨Y9, k9⟩ := Y8.set2 (.slice oo (k + 1) cc)
                    have own9 := World.ownsRow.kept own8 k9 (.inr (fun e => by have := (own8.lt g7 e).1; omega))
                    refine ⟨⟨k + 1, acc ++ [(fu, trim fv)], oo, cc, by go_num, by omega, by rw [List.length_append, unhide HAL]; rfl, unhide HRS3, Y9, ?_, G8.trans k9⟩, by simp [intOf]; omega⟩
                    rw [cellsF_append]
                    show World.ownsRow _ _ _ _ _ _ (cellsF acc ++ [Value.string (mk fu), Value.string (mk (trim fv))])
                    rw [(unhide HAF).1, (unhide HAF).2]; exact own9)
              · obtain rfl : k = L.length := by omega
                have hoe : o = some (p1, p2, acc) := by
                  have h := unhide HRR
                  rw [← unhide HRS, List.drop_length, Mh.fieldsOf] at h
                  exact h.symm
                have hbd := (unhide HBD) _ hoe
                dsimp only at hbd
                have HP4 : Hid ((if Mh.check p1 p2 acc = 0 then (p1, p2, acc, (0 : Int)) else ([], [], [], Mh.check p1 p2 acc)) = (a, b, fs, z)) := hide (by have := unhide HP2; rw [hoe] at this; exact this)
                have HC := hide (rhead_any p1 p2 (.slice o' L.length c') acc wr (by
                  have own := unhide OWN
                  rw [← unhide HAL] at own ⊢
                  exact Flds.own own hbd.2.1) hbd.1 hbd.2.2)
                unfold headV at HC
                rw [(unhide HAB).1, (unhide HAB).2] at HC
                obtain ⟨q, hq⟩ : ∃ q, Mh.check p1 p2 acc = q := ⟨_, rfl⟩
                rw [hq] at HC HP4
                obtain ⟨v0, v1, v2⟩ := (unhide YK).cells
                have hg7r := (unhide YK).lt.2
                clear hoe hbd hq HRR HNONE HBD HP2 HRS
                go_wp2_with fail
                refine (unhide HC).mono ?_; rintro e w6 ⟨rfl, b6⟩
                have Y6 := hide ((unhide YK).below b6)
                have O6 := hide (own_below (unhide OWN) b6)
                have X6 := hide ((unhide XR).below b6)
                have B6 := hide (bel_trans (unhide BR) b6)
                clear b6 YK OWN XR BR HC v0 v1 v2 hg7r LR GR
                obtain ⟨v0, v1, v2⟩ := (unhide Y6).cells
                obtain ⟨y0, y1, y2⟩ := (unhide X6).cells
                obtain ⟨f0, f1, f2⟩ := (unhide X6).frozen
                by_cases h0 : q = 0
                · have HEE : Hid (mk a = x1 ∧ mk b = x2 ∧ fs = acc ∧ z = 0) := hide (by
                    have := unhide HP4
                    rw [if_pos h0] at this
                    injection this with e1 e2; injection e2 with e2 e3; injection e3 with e3 e4
                    exact ⟨by rw [← e1]; exact (unhide HAB).1, by rw [← e2]; exact (unhide HAB).2, e3.symm, e4.symm⟩)
                  have hqb : (q != 0) = false := by rw [h0]; rfl
                  have P1 := hide ((unhide X6).loaded x1 x2 o' L.length c')
                  have PK := ((unhide X6).put x1 x2 (.slice o' L.length c') rfl).2
                  have P2 := hide ((unhide B6).grown PK (unhide B6).size (fun q hq => by have := Option.some.inj hq; omega))
                  have P3 := hide (World.ownsRow.kept (unhide O6) PK (.inr (fun e => by have := ((unhide O6).lt w.heap.size e).1; omega)))
                  have hb4 := (unhide B4).size
                  clear HP4 HZ HZE PK h0
                  go_wp2_with fail
                  (try simp only [Exit.inBlock, Exit.then])
                  refine bodyPost_ret_by (v := .tuple #[.agg #[.string x1, .string x2, .slice o' L.length c'], .int .i64 0]) ?_ rfl ⟨.slice o' L.length c', by rw [(unhide HEE).1, (unhide HEE).2.1, (unhide HEE).2.2.2], by rw [(unhide HEE).2.2.1, unhide HAL]; exact own_mono2 (unhide P3) hb4, unhide P2⟩
                  refine results_ct (p := 2) (u := 3) (ty := 28) ?_ _ _ w.heap.size _ ?_ (unhide P1) _ ?_ <;> rfl
                · have HEE := hide ((unhide HZE) q (by have := unhide HP4; rw [if_neg h0] at this; exact this))
                  have hqb : (q != 0) = true := by simpa using h0
                  have P1 := hide ((unhide HZ) w6 _ _ _ (unhide X6) (unhide B6))
                  clear HP4 HZ HZE h0
                  go_wp2_with fail
                  (try simp only [Exit.inBlock, Exit.then])
                  refine bodyPost_ret_by (v := .tuple #[.agg #[.string ⟨#[]⟩, .string ⟨#[]⟩, .slice none 0 0], .int .i64 q]) ?_ rfl ⟨.slice none 0 0, by rw [(unhide HEE).1, (unhide HEE).2.1, (unhide HEE).2.2.2.2], by rw [(unhide HEE).2.2.1, (unhide HEE).2.2.2.1]; exact (unhide P1).2.1, (unhide P1).2.2⟩
                  refine results_ct (p := 2) (u := 3) (ty := 28) ?_ _ _ w.heap.size _ ?_ (unhide P1).1 _ ?_ <;> rfl
          · have hb : (x3.toList == [72, 84, 84, 80, 47, 49, 46, 49]) = false := str_fl (l := [72, 84, 84, 80, 47, 49, 46, 49]) (fun e => hp (hh.1 e))
            have HEE := hide ((unhide HNONE) (by have := unhide HRL; rw [if_neg (fun h => hp h.2)] at this; exact this.symm))
            have P1 := hide ((unhide HZ) w2 _ _ _ (unhide X2) (unhide B2))
            clear HRL hh hp hx1 hx2 hx3 HW2 HWL HZ HZE HNONE
            go_wp2_with fail
            (try simp only [Exit.inBlock, Exit.then])
            refine bodyPost_ret_by (v := .tuple #[.agg #[.string ⟨#[]⟩, .string ⟨#[]⟩, .slice none 0 0], .int .i64 4]) ?_ rfl ⟨.slice none 0 0, by rw [(unhide HEE).1, (unhide HEE).2.1, (unhide HEE).2.2.2.2], by rw [(unhide HEE).2.2.1, (unhide HEE).2.2.2.1]; exact (unhide P1).2.1, (unhide P1).2.2⟩
            refine results_ct (p := 2) (u := 3) (ty := 28) ?_ _ _ w.heap.size _ ?_ (unhide P1).1 _ ?_ <;> rfl
      · have HEE := hide ((unhide HNONE) (by have := unhide HRL; rw [if_neg (fun h => h3 h.1)] at this; exact this.symm))
        have h3' : ((ws.length : Int) != 3) = true := bne_iff_ne.2 (by omega)
        have P1 := hide ((unhide HZ) w2 _ _ _ (unhide X2) (unhide B2))
        clear HRL h3 HW2 HWL HZ HZE HNONE
        go_wp2_with fail
        (try simp only [Exit.inBlock, Exit.then])
        refine bodyPost_ret_by (v := .tuple #[.agg #[.string ⟨#[]⟩, .string ⟨#[]⟩, .slice none 0 0], .int .i64 4]) ?_ rfl ⟨.slice none 0 0, by rw [(unhide HEE).1, (unhide HEE).2.1, (unhide HEE).2.2.2.2], by rw [(unhide HEE).2.2.1, (unhide HEE).2.2.2.1]; exact (unhide P1).2.1, (unhide P1).2.2⟩
        refine results_ct (p := 2) (u := 3) (ty := 28) ?_ _ _ w.heap.size _ ?_ (unhide P1).1 _ ?_ <;> rfl
end Go.Proofs.YtjpclmkekmkddaaGreatDoor
