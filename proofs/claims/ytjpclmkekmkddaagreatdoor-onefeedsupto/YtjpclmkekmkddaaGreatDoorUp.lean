/- Walks: all requests at the front of bytes (the document's). -/
import Derived.Test.YtjpclmkekmkddaaGreatDoorUC
import Derived.Test.YtjpclmkekmkddaaGreatDoorUi
namespace Go.Proofs.YtjpclmkekmkddaaGreatDoor
open Go.RowKit Kb
set_option linter.unusedVariables false
set_option maxRecDepth 20000
open Mh (Fl)
set_option maxHeartbeats 8000000 in
theorem requests_any (s : ByteArray) (hd bd ar : Int) (w : World) (hs : s.size ≤ 1048576) (hb : On.bnd hd bd ar = 0) (o : List UInt8 × Int) (hoo : (if (On.all hd.toNat bd s.data.toList).2.2 = 7 then ((On.all hd.toNat bd s.data.toList).2.1, 0) else ([], (On.all hd.toNat bd s.data.toList).2.2)) = o) :
    Calls Tryz.prog 12 #[.string s, bndV hd bd ar] w fun e w' => ∃ V l, e = .returned (.tuple #[V, .string (mk o.1), .int .i64 o.2]) ∧ l.map Prod.fst = (On.all hd.toNat bd s.data.toList).1 ∧ Reqs w' w.heap.size V l ∧ l.length ≤ s.size ∧ Below w.heap.size w w' := by
  obtain ⟨i0, hi, hz0, hz1, hz2⟩ := info_parts infoQ
  obtain ⟨A, hA⟩ : ∃ A, On.all hd.toNat bd s.data.toList = A := ⟨_, rfl⟩
  rw [hA] at hoo ⊢
  have HOO := hide hoo
  clear hoo
  have h0 := (On.bnd_ok hb).2.1.1
  have HON := hide (fun (t : ByteArray) (ht : t.size ≤ 1048576) W => rone_b t hd bd ar W ht hb _ rfl)
  have HOB := hide (fun (l : List UInt8) => (by unfold On.oneB; rw [if_neg (by simpa using hb)] : On.oneB hd bd ar l = On.one hd.toNat bd l))
  unfold bndV at HON ⊢
  obtain ⟨z0, z1, z2⟩ := three_newF w (.int .i64 hd) (.int .i64 bd) (.int .i64 ar) 23
  have b0 := (Below.refl w.heap.size w).alloc (Nat.le_refl _) (.cells #[.int .i64 hd, .int .i64 bd, .int .i64 ar] 23)
  have hl0 : w.heap.size < (w.alloc (.cells #[.int .i64 hd, .int .i64 bd, .int .i64 ar] 23)).heap.size := by simp
  obtain ⟨W0, hW0⟩ : ∃ W, w.alloc (.cells #[.int .i64 hd, .int .i64 bd, .int .i64 ar] 23) = W := ⟨_, rfl⟩
  rw [hW0] at b0 z0 z1 z2 hl0
  have HBX := hide (fun W (h : Below W0.heap.size W0 W) => (⟨cell_below z0 hl0 h, cell_below z1 hl0 h, cell_below z2 hl0 h⟩ : (W.cell? ⟨w.heap.size, 0, none⟩ = some (.int .i64 hd) ∧ W.cell? ⟨w.heap.size, 1, none⟩ = some (.int .i64 bd) ∧ W.cell? ⟨w.heap.size, 2, none⟩ = some (.int .i64 ar))))
  have B0 := hide b0
  have HL0 := hide hl0
  have H0 := hide h0
  clear b0 z0 z1 z2 hl0 h0 hb
  go_enter Tryz.func12, Tryz.ntmps12
  go_wp2_with fail
  clear hW0
  go_loopw [0, 7] (fun v0 v7 wr => ∃ (t : ByteArray) (l : List RV), v0 = .string t ∧ t.size + l.length ≤ s.size ∧ A = (l.map Prod.fst ++ (On.all hd.toNat bd t.data.toList).1, (On.all hd.toNat bd t.data.toList).2.1, (On.all hd.toNat bd t.data.toList).2.2) ∧ Reqs wr W0.heap.size v7 l ∧ Below W0.heap.size W0 wr) (fun v0 _ _ => strSize v0)
  case atStart => exact ⟨s, [], rfl, by simp, by rw [hA]; rfl, Reqs.nil _ _, Below.refl _ _⟩
  case round =>
    obtain ⟨t, l, rfl, htl, hAt, hR, hbel⟩ := hrel
    obtain ⟨vo, vc, rfl⟩ := own_forms hR.own
    obtain ⟨z0, z1, z2⟩ := (unhide HBX) _ hbel
    have R := hide hR
    have B := hide hbel
    clear hR hbel
    rcases ho : On.one hd.toNat bd t.data.toList with e | ⟨⟨a, b, fs, q⟩, n⟩
    · have HO := (unhide HON) t (by omega) wr
      rw [unhide HOB, ho] at HO
      dsimp only [On.tellQ] at HO
      rw [On.all_no ho] at hAt
      have he0 : (e != 0) = true := by have := On.one_errs ho; have h : e ≠ 0 := (by omega); simpa using h
      have HA := hide hAt
      have HC := hide HO
      clear HO ho hAt
      go_wp2_with fail
      refine (unhide HC).mono ?_; rintro e1 w5 ⟨v5, rfl, own5, b5⟩
      obtain ⟨uo, uc, rfl⟩ := own_forms own5
      have bb := (Below.refl w5.heap.size w5).alloc (Nat.le_refl _) (.cells #[.string (mk []), .string (mk []), .slice uo ([] : List Fl).length uc, .string (mk [])] 30)
      have HF : Hid (Reqs (w5.alloc (.cells #[.string (mk []), .string (mk []), .slice uo ([] : List Fl).length uc, .string (mk [])] 30)) w.heap.size (.slice vo l.length vc) l ∧ Below w.heap.size w (w5.alloc (.cells #[.string (mk []), .string (mk []), .slice uo ([] : List Fl).length uc, .string (mk [])] 30))) :=
        hide ⟨(((unhide R).below b5).below bb).mono (Nat.le_of_lt (unhide HL0)), bel_trans (unhide B0) (bel_trans (unhide B) (bel_trans b5 bb))⟩
      clear bb own5 b5 HC R B z0 z1 z2 HON HBX
      by_cases h7 : e = 7
      · subst h7
        have HE : Hid (o = (t.data.toList, 0)) := hide (by rw [← unhide HOO, unhide HA]; rfl)
        go_wp2_with fail
        go_ret3
        exact ⟨_, l, by rw [unhide HE]; simp [mk], by rw [unhide HA]; simp, (unhide HF).1, by omega, (unhide HF).2⟩
      · have he7 : (e == 7) = false := by simpa using h7
        have HE : Hid (o = ([], e)) := hide (by rw [← unhide HOO, unhide HA]; exact if_neg h7)
        clear h7
        go_wp2_with fail
        go_ret3
        exact ⟨_, l, by rw [unhide HE]; simp [mk], by rw [unhide HA]; simp, (unhide HF).1, by omega, (unhide HF).2⟩
    · obtain ⟨hn4, hnl, hqb, _, _⟩ := On.one_ok (unhide H0) ho
      rw [len_data] at hnl
      have HO := (unhide HON) t (by omega) wr
      have hfl : fs.length ≤ 4398046511104 := On.one_len (hd := hd.toNat) (bd := bd) (s := t.data.toList) (z := 0) (n := (n : Int)) (a := a) (b := b) (t := q) (by rw [ho]; rfl)
      rw [unhide HOB, ho] at HO
      dsimp only [On.tellQ] at HO
      rw [On.all_yes (unhide H0) ho] at hAt
      have HA := hide hAt
      have HC := hide HO
      obtain ⟨r, hr⟩ : ∃ r, t.extract n t.size = r := ⟨_, rfl⟩
      have HRD : Hid (r.data.toList = t.data.toList.drop n ∧ r.size = t.size - n) := hide ⟨by rw [← hr]; exact extract_drop _ _, by rw [← hr]; simp⟩
      have hnI : (n : Int) ≤ t.size := by omega
      clear HO ho hAt
      obtain ⟨x, hx⟩ : ∃ x, mk a = x := ⟨_, rfl⟩
      obtain ⟨y, hy⟩ : ∃ y, mk b = y := ⟨_, rfl⟩
      obtain ⟨z, hz⟩ : ∃ z, mk q = z := ⟨_, rfl⟩
      have HXY : Hid (mk a = x ∧ mk b = y ∧ mk q = z) := hide ⟨hx, hy, hz⟩
      rw [hx, hy, hz] at HC
      clear hx hy hz
      go_wp2_with fail
      refine (unhide HC).mono ?_; rintro e1 w5 ⟨v5, rfl, own5, b5⟩
      obtain ⟨uo, uc, rfl⟩ := own_forms own5
      have hb5 := (unhide B).size
      have R5 := (unhide R).below b5
      have B5 := bel_trans (unhide B) b5
      have O5 := own_mono2 own5 hb5
      clear own5 b5 HC R B z0 z1 z2 HON
      have Q6 := QX.new (base := w5.heap.size) w5 (Nat.le_refl _) x y uo fs.length uc z
      have bb := (Below.refl w5.heap.size w5).alloc (Nat.le_refl _) (.cells #[.string x, .string y, .slice uo fs.length uc, .string z] 30)
      obtain ⟨g6, hg6⟩ : ∃ g, w5.heap.size = g := ⟨_, rfl⟩
      obtain ⟨W6, hW6⟩ : ∃ W, w5.alloc (.cells #[.string x, .string y, .slice uo fs.length uc, .string z] 30) = W := ⟨_, rfl⟩
      rw [hW6] at bb Q6
      rw [hg6] at Q6
      have R6 := R5.below bb
      have B6 := bel_trans B5 bb
      have O6 := own_below O5 bb
      obtain ⟨x0, x1, x2, x3⟩ := Q6.cells
      clear bb R5 B5 O5 Q6
      have b3 : l.length + 1 ≤ maxLen := by unfold maxLen; omega
      have b4 : (l.length + 1) * 72 ≤ 140737488355328 := by omega
      have hs6 := B6.size
      have HAP : Hid (∀ w8 v1, (W6.alloc (.cells #[.string x, .string y, .slice uo fs.length uc, .string z] 30)).grownBy w8 (Value.slice vo l.length vc).ownBlock → w8.ownsRow W0.heap.size 30 4 v1 (l.length + 1) (cellsQ l ++ [.string x, .string y, .slice uo fs.length uc, .string z]) → Reqs w8 W0.heap.size v1 (l ++ [((a, b, fs, q), .slice uo fs.length uc)]) ∧ Below W0.heap.size W0 w8) := hide (fun w8 v1 gr own => by
        have bal := (Below.refl W6.heap.size W6).alloc (Nat.le_refl _) (.cells #[.string x, .string y, .slice uo fs.length uc, .string z] 30)
        refine ⟨(R6.below bal).push (m := [((a, b, fs, q), .slice uo fs.length uc)]) ?_ ?_ gr, (bel_trans B6 bal).grown gr (Nat.le_trans hs6 bal.size) (own_lt (own_below R6.own bal))⟩
        · intro p hp
          have : p = ((a, b, fs, q), .slice uo fs.length uc) := by simpa using hp
          subst this
          exact ⟨own_below O6 bal, hfl⟩
        · have e : cellsQ [((a, b, fs, q), Value.slice uo fs.length uc)] = [.string x, .string y, .slice uo fs.length uc, .string z] := by
            rw [cellsQ_cons, (unhide HXY).1, (unhide HXY).2.1, (unhide HXY).2.2]; rfl
          rw [e]; exact own)
      have OW := hide R6.own
      clear R6 B6 O6
      go_wp2_with (at_builtin; refine wpList_append_own _ rfl _ _ 37 rfl W0.heap.size 30 i0 (.agg #[.string ByteArray.empty, .string ByteArray.empty, .slice none 0 0, .string ByteArray.empty]) 4 72 Tryz.underlying37 hi hz0 hz1 hz2 rfl (by decide) _ l.length (cellsQ l) rfl ((unhide OW).alloc _) _ 1 1 _ rfl rfl (cell_four_new _ _ _ _ _ _) (by simp [Value.oneCell']) b3 b4 (by simp; omega) ?_; intro vv w8 own8 grow8 _; obtain ⟨R8, B8⟩ := unhide HAP w8 vv grow8 own8; have RR8 := hide R8; have BB8 := hide B8; clear R8 B8 own8 grow8)
      refine ⟨⟨r, l ++ [((a, b, fs, q), .slice uo fs.length uc)], rfl, ?_, ?_, unhide RR8, unhide BB8⟩, ?_⟩
      · rw [(unhide HRD).2, List.length_append]; simp; omega
      · rw [unhide HA, (unhide HRD).1]; simp
      · simp only [strSize]; rw [(unhide HRD).2]; omega
end Go.Proofs.YtjpclmkekmkddaaGreatDoor
