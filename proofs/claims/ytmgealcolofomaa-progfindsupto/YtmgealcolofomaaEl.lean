/- Walks: the document's Prog (wickref.Prog). -/
import Derived.Test.YtmgealcolofomaaEk
import Derived.Deep.CutRange
import Derived.Deep.RegionLaw
import Derived.BigRegion
namespace Go.Proofs.Ytmgealcolofomaa
open Go.RowKit Kb
set_option linter.unusedVariables false
set_option maxRecDepth 20000
set_option maxHeartbeats 4000000 in
theorem rprog_any (pv : Value) (p : List In) (w : World) (hI : Insts w pv p) (hn : p.length ≤ 1099511627776) :
    Calls Try.prog 4 #[pv] w fun e w' => e = .returned (.int .i64 (Pm.chk p)) ∧ Below w.heap.size w w' := by
  have HI := hide hI
  have B0 : Hid (Below w.heap.size w w) := hide (Below.refl _ _)
  obtain ⟨o, c, rfl, hc⟩ := hI.form
  obtain ⟨r, hr⟩ : ∃ r, Pm.chk p = r := ⟨_, rfl⟩
  rw [hr]
  unfold Pm.chk at hr
  have HR := hide hr
  clear hr hI
  by_cases h4 : 400 < p.length
  · have h4I : (400 : Int) < p.length := by omega
    have HE : Hid (r = 2) := hide (by rw [← unhide HR, if_pos h4])
    go_enter Try.func4, Try.ntmps4
    go_wp2_with fail
    go_ret
    exact ⟨by rw [unhide HE]; rfl, unhide B0⟩
  have h4I : ¬ (400 : Int) < p.length := by omega
  have HE : Hid (r = if p.length = 0 then 1 else if Pm.allF p.length 0 (p.drop 0) = true then 0 else 1) := hide (by rw [← unhide HR, if_neg h4, List.drop_zero])
  clear HR
  go_enter Try.func4, Try.ntmps4
  go_wp2_with fail
  go_loopw [3] (fun x wr => ∃ k : Nat, x = .int .i64 k ∧ k ≤ p.length ∧ Below w.heap.size w wr ∧ Pm.allF p.length 0 (p.drop 0) = Pm.allF p.length k (p.drop k)) (fun x _ => p.length - (intOf x).toNat)
  case atStart => exact ⟨0, rfl, Nat.zero_le _, unhide B0, rfl⟩
  case round =>
    obtain ⟨k, rfl, hk, hwr, hal⟩ := hrel
    have HBW := hide hwr
    have HIW := hide ((unhide HI).below hwr)
    clear hwr
    have HAL := hide hal
    clear hal
    by_cases hlt : k < p.length
    case neg =>
      obtain rfl : k = p.length := by omega
      have HAL2 : Hid (Pm.allF p.length 0 (p.drop 0) = true) := hide (by rw [unhide HAL, List.drop_length]; rfl)
      clear HAL
      by_cases h0 : p.length = 0
      · have h0b : ((p.length : Int) == 0) = true := by rw [beq_iff_eq]; omega
        have HE1 : Hid (r = 1) := hide (by rw [unhide HE, if_pos h0])
        clear HE h0
        go_wp2_with fail
        go_ret
        exact ⟨by rw [unhide HE1]; rfl, unhide HBW⟩
      · have h0b : ((p.length : Int) == 0) = false := by rw [beq_eq_false_iff_ne]; omega
        have HE1 : Hid (r = 0) := hide (by rw [unhide HE, if_neg h0, if_pos (unhide HAL2)])
        clear HE h0
        go_wp2_with fail
        go_ret
        exact ⟨by rw [unhide HE1]; rfl, unhide HBW⟩
    obtain ⟨x, hx⟩ : ∃ x, p[k]? = some x := ⟨p[k], List.getElem?_eq_getElem hlt⟩
    have HD := hide (allF_drop p k x hx)
    obtain ⟨gp, off, cp, hfm, hgp, hcp⟩ := (unhide HIW).at_ (by intro e; rw [e] at hlt; cases hlt)
    obtain ⟨rfl, rfl⟩ : o = some ⟨gp, off, none⟩ ∧ c = cp := by
      injection hfm with h1 h2 h3; exact ⟨h1, h3⟩
    obtain ⟨c0, c1, c2, _⟩ := hcp k x hx
    obtain ⟨xk, xa, xb, sx⟩ := x
    dsimp only at c0 c1 c2
    obtain ⟨b, hb⟩ : ∃ b, Pm.formed p.length k ⟨xk, xa, xb, sx⟩ = b := ⟨_, rfl⟩
    rw [hb] at HD
    have hb2 := hb
    unfold Pm.formed at hb2
    dsimp only at hb2
    obtain ⟨ba, hba⟩ : ∃ b, (decide (0 ≤ xa) && decide (xa < (p.length : Int))) = b := ⟨_, rfl⟩
    obtain ⟨bb, hbb⟩ : ∃ b, (decide (0 ≤ xb) && decide (xb < (p.length : Int))) = b := ⟨_, rfl⟩
    rw [hba, hbb] at hb2
    have HB := hide hb2
    have HBA := hide hba
    have HBB := hide hbb
    have HNO : Hid (b = false → r = 1) := hide (fun h => by
      rw [unhide HE, unhide HAL, unhide HD, h, if_neg (by omega)]; rfl)
    have HYES : Hid (b = true → Pm.allF p.length 0 (p.drop 0) = Pm.allF p.length (k + 1) (p.drop (k + 1))) := hide (fun h => by
      rw [unhide HAL, unhide HD, h, Bool.true_and])
    have hkI : (k : Int) < p.length := by omega
    clear HAL HD hb hb2 hba hbb hx hcp hfm HE
    go_upto_region 6 with fail
    go_cut [4, 5] from 16 to 47 (fun va vb wx => va = .bool ba ∧ vb = .bool bb ∧ wx = wr.drew)
    case first =>
      have key : ∀ x : Int, ∃ q : Bool, (decide (0 ≤ x) && decide (x < (p.length : Int))) = q ∧ ((0 ≤ x ∧ x < (p.length : Int) ∧ q = true) ∨ (0 ≤ x ∧ ¬ x < (p.length : Int) ∧ q = false) ∨ (¬ 0 ≤ x ∧ q = false)) := fun x => ⟨_, rfl, by
        by_cases h1 : 0 ≤ x
        · by_cases h2 : x < (p.length : Int)
          · exact .inl ⟨h1, h2, by rw [decide_eq_true h1, decide_eq_true h2]; rfl⟩
          · exact .inr (.inl ⟨h1, h2, by rw [decide_eq_true h1, decide_eq_false h2]; rfl⟩)
        · exact .inr (.inr ⟨h1, by rw [decide_eq_false h1]; rfl⟩)⟩
      obtain ⟨qa, ea, ca⟩ := key xa
      obtain ⟨qb, eb, cb⟩ := key xb
      have HQA : Hid (ba = qa) := hide ((unhide HBA).symm.trans ea)
      have HQB : Hid (bb = qb) := hide ((unhide HBB).symm.trans eb)
      clear ea eb key HB HNO HYES HBA HBB
      rcases ca with ⟨a1, a2, rfl⟩ | ⟨a1, a2, rfl⟩ | ⟨a1, rfl⟩ <;> rcases cb with ⟨b1, b2, rfl⟩ | ⟨b1, b2, rfl⟩ | ⟨b1, rfl⟩ <;>
      · go_region
        go_wp2_with fail
        go_meet
        exact ⟨by rw [unhide HQA], by rw [unhide HQB], rfl⟩
    case rest =>
      obtain ⟨rfl, rfl, hwx⟩ := hcut
      rw [hwx]
      clear hwx HBA HBB
      have HBW2 : Hid (Below w.heap.size w wr.drew) := hide (unhide HBW).drew
      have e0 : wr.drew.cell? ⟨gp, off + k * 7, none⟩ = some (.int .i64 xk) := c0
      clear c0 c1 c2 HBW HIW
      by_cases h145 : xk = 1 ∨ xk = 4 ∨ xk = 5
      · have HE2 : Hid (b = decide (k + 1 < p.length)) := hide (by rw [← unhide HB, if_pos h145])
        clear HB
        by_cases hl : k + 1 < p.length
        · have hlI : (k : Int) < (p.length : Int) - 1 := by omega
          have HQ1 : Hid (b = true) := hide (by rw [unhide HE2, decide_eq_true hl])
          clear HE2 HNO
          rcases h145 with rfl | rfl | rfl <;>
          · go_wp2_with fail
            exact ⟨⟨k + 1, by go_num, by omega, unhide HBW2, (unhide HYES) (unhide HQ1)⟩, by simp [intOf]; omega⟩
        · have hlI : ¬ (k : Int) < (p.length : Int) - 1 := by omega
          have HQ1 : Hid (b = false) := hide (by rw [unhide HE2, decide_eq_false hl])
          clear HE2 HYES
          rcases h145 with rfl | rfl | rfl <;>
          · go_wp2_with fail
            go_ret
            exact ⟨by rw [(unhide HNO) (unhide HQ1)]; rfl, unhide HBW2⟩
      have n1 : (xk == 1) = false := by rw [beq_eq_false_iff_ne]; omega
      have n4 : (xk == 4) = false := by rw [beq_eq_false_iff_ne]; omega
      have n5 : (xk == 5) = false := by rw [beq_eq_false_iff_ne]; omega
      by_cases h2 : xk = 2
      · have HE2 : Hid (b = (ba && bb)) := hide (by rw [← unhide HB, if_neg h145, if_pos h2])
        subst h2
        clear HB h145 n1 n4 n5
        cases ba
        · have HQ1 : Hid (b = false) := HE2
          clear HE2 HYES
          go_wp2_with fail
          go_ret
          exact ⟨by rw [(unhide HNO) (unhide HQ1)]; rfl, unhide HBW2⟩
        · cases bb
          · have HQ1 : Hid (b = false) := HE2
            clear HE2 HYES
            go_wp2_with fail
            go_ret
            exact ⟨by rw [(unhide HNO) (unhide HQ1)]; rfl, unhide HBW2⟩
          · have HQ1 : Hid (b = true) := HE2
            clear HE2 HNO
            go_wp2_with fail
            exact ⟨⟨k + 1, by go_num, by omega, unhide HBW2, (unhide HYES) (unhide HQ1)⟩, by simp [intOf]; omega⟩
      have n2 : (xk == 2) = false := by rw [beq_eq_false_iff_ne]; exact h2
      by_cases h3 : xk = 3
      · have HE2 : Hid (b = ba) := hide (by rw [← unhide HB, if_neg h145, if_neg h2, if_pos h3])
        subst h3
        clear HB h145 n1 n4 n5 n2 h2
        cases ba
        · have HQ1 : Hid (b = false) := HE2
          clear HE2 HYES
          go_wp2_with fail
          go_ret
          exact ⟨by rw [(unhide HNO) (unhide HQ1)]; rfl, unhide HBW2⟩
        · have HQ1 : Hid (b = true) := HE2
          clear HE2 HNO
          go_wp2_with fail
          exact ⟨⟨k + 1, by go_num, by omega, unhide HBW2, (unhide HYES) (unhide HQ1)⟩, by simp [intOf]; omega⟩
      have n3 : (xk == 3) = false := by rw [beq_eq_false_iff_ne]; exact h3
      have HE2 : Hid (b = decide (xk = 6)) := hide (by rw [← unhide HB, if_neg h145, if_neg h2, if_neg h3])
      clear HB h145 h2 h3
      by_cases h6 : xk = 6
      · have HQ1 : Hid (b = true) := hide (by rw [unhide HE2, decide_eq_true h6])
        subst h6
        clear HE2 HNO
        go_wp2_with fail
        exact ⟨⟨k + 1, by go_num, by omega, unhide HBW2, (unhide HYES) (unhide HQ1)⟩, by simp [intOf]; omega⟩
      · have n6 : (xk == 6) = false := by rw [beq_eq_false_iff_ne]; exact h6
        have HQ1 : Hid (b = false) := hide (by rw [unhide HE2, decide_eq_false h6])
        clear HE2 HYES
        go_wp2_with fail
        go_ret
        exact ⟨by rw [(unhide HNO) (unhide HQ1)]; rfl, unhide HBW2⟩
end Go.Proofs.Ytmgealcolofomaa
