/- Walks of the document's answers on nets: a net read. -/
import Derived.Test.YtmhjfiaohbioeaaDoorNg
namespace Go.Proofs.YtmhjfiaohbioeaaDoor
open Go.RowKit Kb
set_option linter.unusedVariables false
set_option maxRecDepth 20000

theorem NX.set0 {w : World} {base gb : Nat} {x y : Int} (h : NX w base gb x y) (x' : Int) : NX (w.setCell ⟨gb, 0, none⟩ (.int .u32 x')) base gb x' y ∧ w.grownBy (w.setCell ⟨gb, 0, none⟩ (.int .u32 x')) (some gb) :=
  World.ownsRow.stored h 0 (.int .u32 x')
theorem NX.set1 {w : World} {base gb : Nat} {x y : Int} (h : NX w base gb x y) (y' : Int) : NX (w.setCell ⟨gb, 1, none⟩ (.int .i64 y')) base gb x y' ∧ w.grownBy (w.setCell ⟨gb, 1, none⟩ (.int .i64 y')) (some gb) :=
  World.ownsRow.stored h 1 (.int .i64 y')
theorem wt_mem' : ∀ {L : List (List UInt8)} {p : List UInt8}, p ∈ L → p.length + 1 ≤ Cp.wt L
  | a :: r, p, h => by
    rw [Cp.wt_cons]
    rcases List.mem_cons.1 h with e | e
    · rw [e]; omega
    · have := wt_mem' e; omega
/-- what came of reading, when the bits are known -/
def netR (o : Option Nat) (bt : Nat) : Nat × Nat × Int := match o with | none => (0, 0, 3) | some a => Nt.fin a bt
set_option maxHeartbeats 4000000 in
theorem rnet_any (s : ByteArray) (w : World) (hs : s.size ≤ 4294960000) (a b : Nat) (z : Int) (hp : Nt.parse s.data.toList = (a, b, z)) :
    Calls Tryd.prog 8 #[.string s] w fun e w' => e = .returned (.tuple #[.agg #[.int .u32 a, .int .i64 b], .int .i64 z]) ∧ Below w.heap.size w w' := by
  unfold Nt.parse at hp
  obtain ⟨⟨t, u, sl⟩, hq⟩ : ∃ q, Lib.cut s.data.toList [47] = q := ⟨_, rfl⟩
  have HC := hide (fun W => rcut_any 47 s W hs _ hq)
  have hlen : t.length ≤ s.size ∧ u.length ≤ s.size := by
    rw [← len_data s]
    rcases Nt.cut_cases 47 s.data.toList with ⟨h1, h2⟩ | ⟨u', v', h1, h2, h3⟩
    · rw [hq] at h2; injection h2 with e1 e2; injection e2 with e2 e3; subst e1 e2; exact ⟨Nat.le_refl _, Nat.zero_le _⟩
    · rw [hq] at h3; injection h3 with e1 e2; injection e2 with e2 e3; subst e1 e2; rw [h1]; simp; omega
  rw [hq] at hp
  dsimp only at hp HC
  clear hq
  have HPC := hide (fun W => rpieces_any_c 46 (mk t) W (by rw [szM]; omega))
  have HN := hide (fun W => rsmall_any (mk u) 32 W (by rw [szM]; unfold maxLen; omega))
  have ht : (mk t).data.toList = t := by simp [mk]
  have hu : (mk u).data.toList = u := by simp [mk]
  rw [ht] at HPC
  rw [hu] at HN
  have hbd := Nt.sm_bd 32 u
  have HAB : Hid (∀ x, Nt.adr t = some x → x < 4294967296) := hide (fun x => Nt.adr_bd)
  obtain ⟨x, hx⟩ : ∃ x, Nt.sm 32 u = x := ⟨_, rfl⟩
  rw [hx] at HN hbd hp
  have HPF : Hid (sl = false → netR (Nt.adr t) 32 = (a, b, z)) := hide (fun h => by subst h; exact hp)
  have HPT : Hid (sl = true → (x < 0 → ((0 : Nat), (0 : Nat), (3 : Int)) = (a, b, z)) ∧ (0 ≤ x → netR (Nt.adr t) x.toNat = (a, b, z))) := hide (fun h => by
    subst h
    unfold netR
    refine ⟨fun h0 => ?_, fun h0 => ?_⟩
    · cases hA : Nt.adr t with
      | none => rw [hA] at hp; exact hp
      | some y => rw [hA] at hp; exact (if_pos ⟨rfl, h0⟩).symm.trans hp
    · cases hA : Nt.adr t with
      | none => rw [hA] at hp; exact hp
      | some y => rw [hA] at hp; exact (if_neg (fun g => by have := g.2; omega)).symm.trans hp)
  clear hp hx
  have hcl : ∀ p ∈ Cs.cut 46 t, p.length ≤ s.size := fun p hp => by
    have h1 := Cs.wt_cut 46 t
    have h2 := wt_mem' hp
    have := hlen.1
    omega
  have hcn : (Cs.cut 46 t).length ≤ s.size + 1 := by
    have := Cp.len_wt (Cs.cut 46 t); rw [Cs.wt_cut] at this; have := hlen.1; omega
  have HAD : Hid (Nt.adr t = if (Cs.cut 46 t).length = 4 then Nt.adrL 0 (Cs.cut 46 t) else none) := hide rfl
  obtain ⟨cs, hcs⟩ : ∃ cs, Cs.cut 46 t = cs := ⟨_, rfl⟩
  obtain ⟨o, ho⟩ : ∃ o, Nt.adr t = o := ⟨_, rfl⟩
  rw [hcs] at HPC HAD hcl hcn
  rw [ho] at HPF HPT HAD HAB
  have HCL := hide hcl
  clear hcs ho ht hu hlen hcl
  have X0 := hide (NX.new (base := w.heap.size) w (Nat.le_refl _) 0 0)
  have B0 := hide ((Below.refl w.heap.size w).alloc (Nat.le_refl _) (.cells #[.int .u32 0, .int .i64 0] 24))
  obtain ⟨W0, hW0⟩ : ∃ W0, w.alloc (.cells #[.int .u32 0, .int .i64 0] 24) = W0 := ⟨_, rfl⟩
  rw [hW0] at X0 B0
  have HC0 := hide ((unhide HC) W0)
  clear HC
  go_enter Tryd.func8, Tryd.ntmps8
  go_wp2_with fail
  clear hW0
  refine (unhide HC0).mono ?_; rintro e w1 ⟨rfl, b1⟩
  have bb := (Below.refl w1.heap.size w1).alloc (Nat.le_refl _) (.cells #[.int .u32 0, .int .i64 32] 24)
  have B1 := hide (bel_trans (bel_trans (unhide B0) b1) bb)
  have X1 := hide (((unhide X0).below b1).below bb)
  have hlX := (unhide X0).lt
  have Y1 := hide (NX.new (base := w.heap.size) w1 (bel_trans (unhide B0) b1).size 0 32)
  have hgX : w.heap.size < w1.heap.size := Nat.lt_of_lt_of_le hlX.2 b1.size
  obtain ⟨g, hg⟩ : ∃ g, w1.heap.size = g := ⟨_, rfl⟩
  obtain ⟨W1, hW1⟩ : ∃ W, w1.alloc (.cells #[.int .u32 0, .int .i64 32] 24) = W := ⟨_, rfl⟩
  rw [hW1] at B1 X1 Y1
  rw [hg] at Y1 hgX
  clear bb b1 HC0 B0 X0 hlX
  have hlY := (unhide Y1).lt
  obtain ⟨q0, q1⟩ := (unhide Y1).cells
  cases sl with
  | false =>
    have HR : Hid (netR o 32 = (a, b, z)) := hide (unhide HPF rfl)
    clear HPF HPT HN
    go_wp2_with fail
    refine ((unhide HPC) W1).mono ?_; rintro e w2 ⟨v, rfl, own2, b2⟩
    clear hW1
    have B2 := hide (bel_trans (unhide B1) b2)
    have X2 := hide ((unhide X1).below b2)
    have Y2 := hide ((unhide Y1).below b2)
    have O2 := hide own2
    have hgb : g < W1.heap.size := (unhide Y1).lt.2
    clear b2 own2 HPC B1 X1 Y1 q0 q1 hlY
    obtain ⟨o9, c9, rfl⟩ := own_forms (unhide O2)
    by_cases h4 : cs.length = 4
    · have hI4 : ((cs.length : Int) != 4) = false := by rw [h4]; rfl
      have HO : Hid (Nt.adrL 0 cs = o) := hide (by have := unhide HAD; rw [if_pos h4] at this; exact this.symm)
      obtain ⟨g9, c9, he9, hc9⟩ := own_form (unhide O2) (by omega)
      cases he9
      have hl9 := (unhide O2).lt g9 rfl
      obtain ⟨y0, y1⟩ := (unhide Y2).cells
      clear HAD
      go_wp2_with fail
      have hbase : W1.heap.size ≤ w2.heap.size := Nat.le_trans hl9.1 (Nat.le_of_lt hl9.2)
      go_loopw [9] (fun x wr => ∃ (k acc : Nat), k ≤ 4 ∧ x = .int .i64 k ∧ acc < 256 ^ k ∧ Nt.adrL acc (cs.drop k) = o ∧ NX wr w.heap.size g acc 32 ∧ NX wr w.heap.size w.heap.size 0 0 ∧ wr.ownsRow W1.heap.size 9 1 (.slice (some ⟨g9, 0, none⟩) cs.length c9) cs.length (cellsS cs) ∧ Below w.heap.size w wr) (fun x _ => 4 - (intOf x).toNat)
      case atStart => exact ⟨0, 0, by omega, rfl, by decide, unhide HO, unhide Y2, unhide X2, unhide O2, unhide B2⟩
      case round =>
        clear HO Y2 X2 O2 B2 y0 y1
        obtain ⟨k, acc, hk, rfl, hacc, hres, hY, hX, hO, hB⟩ := hrel
        have Y3 := hide hY
        have X3 := hide hX
        have O3 := hide hO
        have B3 := hide hB
        have hlg := hY.lt
        have hlx := hX.lt
        have hlo := hO.lt g9 rfl
        obtain ⟨y0, y1⟩ := hY.cells
        obtain ⟨x0, x1⟩ := hX.cells
        obtain ⟨f0, f1⟩ := hX.frozen
        obtain ⟨e0, e1⟩ := hY.frozen
        have hne : ¬ g = g9 := by omega
        clear hY hX hB
        by_cases hk4 : k < 4
        · obtain ⟨p, hp⟩ : ∃ p, cs[k]? = some p := ⟨cs[k], List.getElem?_eq_getElem (by omega)⟩
          have hload : wr.cell? ⟨g9, k, none⟩ = some (.string (mk p)) := by
            rw [hO.cellAt k (by omega), cellsS, List.getElem?_map, hp]; rfl
          have hdrop : cs.drop k = p :: cs.drop (k + 1) := by
            rw [List.drop_eq_getElem_cons (by omega : k < cs.length)]
            have := List.getElem?_eq_getElem (by omega : k < cs.length)
            rw [hp] at this
            rw [← Option.some.inj this]
          have hps := unhide HCL p (List.mem_of_getElem? hp)
          have HSM := hide (rsmall_any (mk p) 255 wr (by rw [szM]; unfold maxLen; omega))
          rw [show (mk p).data.toList = p by simp [mk]] at HSM
          have hbp := Nt.sm_bd 255 p
          rw [hdrop, Nt.adrL] at hres
          obtain ⟨xx, hxx⟩ : ∃ x, Nt.sm 255 p = x := ⟨_, rfl⟩
          rw [hxx] at HSM hbp hres
          have HRE := hide hres
          have hIk : (k : Int) < 4 := by omega
          have hpw := pow256 k hk4
          obtain ⟨str, hstr⟩ : ∃ q, mk p = q := ⟨_, rfl⟩
          rw [hstr] at hload HSM
          have HPW : Hid (256 ^ (k + 1) = 256 ^ k * 256) := hide hpw.2
          have hac : acc < 16777216 := by omega
          clear hp hdrop hxx hres hO hstr hpw
          go_wp2_with fail
          refine (unhide HSM).mono ?_; rintro e wx ⟨rfl, hwx⟩; rw [hwx]; clear hwx wx
          by_cases hneg : xx < 0
          · have HE : Hid (((0 : Nat), (0 : Nat), (3 : Int)) = (a, b, z)) := hide (by
              have h1 := unhide HRE
              rw [if_pos hneg] at h1
              have h2 := unhide HR
              rw [← h1] at h2
              exact h2)
            have P1 := hide ((unhide X3).loaded 0 0)
            have P2 := hide ((unhide B3).grown ((unhide X3).put 0 0).2 (unhide B3).size (fun q hq => by have := Option.some.inj hq; omega))
            clear HSM hload O3 hlo hne Y3 y0 y1 e0 e1 hlg
            go_wp2_with fail
            (try simp only [Exit.inBlock, Exit.then])
            refine bodyPost_ret_by (v := .tuple #[.agg #[.int .u32 0, .int .i64 0], .int .i64 3]) ?_ rfl ⟨by cases unhide HE; rfl, unhide P2⟩
            refine results_ct (p := 2) (u := 3) (ty := 24) ?_ _ _ w.heap.size _ ?_ (unhide P1) _ ?_ <;> rfl
          · obtain ⟨n, rfl⟩ := Int.eq_ofNat_of_zero_le (by omega : 0 ≤ xx)
            have hn : n ≤ 255 := by omega
            have HRN : Hid (Nt.adrL (acc * 256 + n) (cs.drop (k + 1)) = o) := hide (by have h1 := unhide HRE; rwa [if_neg hneg, Int.toNat_natCast] at h1)
            have hn32 : (n : Int) % 4294967296 = n := by omega
            have h256 : (acc : Int) * 256 % 4294967296 = acc * 256 := by omega
            have hsum : ((acc : Int) * 256 + n) % 4294967296 = acc * 256 + n := by omega
            obtain ⟨m1, m2⟩ := (unhide Y3).set0 ((acc : Int) * 256 + n)
            have M1 := hide m1
            have M2 := hide m2
            have X4 := hide ((unhide X3).kept m2 (fun e => by have := Option.some.inj e; omega))
            have O4 := hide ((unhide O3).kept m2 (.inr (fun e => hne (Option.some.inj e).symm)))
            have B4 := hide ((unhide B3).grown m2 (unhide B3).size (fun q hq => by have := Option.some.inj hq; omega))
            clear m1 m2 HSM HRE hneg hbp
            go_wp2_with fail
            refine ⟨⟨k + 1, acc * 256 + n, by omega, by go_num, by rw [unhide HPW]; omega, unhide HRN, ?_, unhide X4, unhide O4, unhide B4⟩, by simp [intOf]; omega⟩
            rw [show ((acc * 256 + n : Nat) : Int) = (acc : Int) * 256 + n by omega]
            exact unhide M1
        · obtain rfl : k = 4 := by omega
          have hoa : some acc = o := by
            rw [List.drop_of_length_le (by omega)] at hres
            exact hres
          have hacc32 : acc < 4294967296 := unhide HAB acc hoa.symm
          have HF : Hid (Nt.fin acc 32 = (a, b, z)) := hide (by have h2 := unhide HR; rw [← hoa] at h2; exact h2)
          clear hres hoa hO hlo hne O3 HR HCL HAB
          go_wp2_with fail
          go_loopw [11] (fun x wq => ∃ j : Nat, x = .int .i64 j ∧ 32 ≤ j ∧ j ≤ 32 ∧ acc % 2 ^ (32 - 32) = acc % 2 ^ (32 - j) ∧ NX wq w.heap.size g acc 32 ∧ NX wq w.heap.size w.heap.size 0 0 ∧ Below w.heap.size w wq) (fun x _ => 32 - (intOf x).toNat)
          case atStart => exact ⟨32, rfl, Nat.le_refl _, by omega, rfl, unhide Y3, unhide X3, unhide B3⟩
          case round =>
            clear Y3 X3 B3 y0 y1 x0 x1 f0 f1 e0 e1 hlg hlx
            obtain ⟨j, rfl, hj1, hj2, hmod, hY, hX, hB⟩ := hrel
            have Y3 := hide hY
            have X3 := hide hX
            have B3 := hide hB
            have hlg := hY.lt
            have hlx := hX.lt
            obtain ⟨y0, y1⟩ := hY.cells
            obtain ⟨x0, x1⟩ := hX.cells
            obtain ⟨f0, f1⟩ := hX.frozen
            clear hY hX hB
            by_cases hj : j < 32
            · exfalso; omega
            · obtain rfl : j = 32 := by omega
              have HE : Hid ((acc, 32, (0 : Int)) = (a, b, z)) := hide (by
                have h1 := unhide HF
                unfold Nt.fin at h1
                rw [hmod, if_pos (by omega)] at h1
                exact h1)
              have P1 := hide ((unhide X3).loaded acc 32)
              have P1D := hide ((unhide X3).loadedD acc 32)
              have P2 := hide ((unhide B3).grown ((unhide X3).put acc 32).2 (unhide B3).size (fun q hq => by have := Option.some.inj hq; omega))
              clear hmod
              go_wp2_with fail
              (try simp only [Exit.inBlock, Exit.then])
              refine bodyPost_ret_by (v := .tuple #[.agg #[.int .u32 acc, .int .i64 32], .int .i64 0]) ?_ rfl ⟨by cases unhide HE; rfl, ?_⟩
              rotate_left 1
              · first | exact unhide P2 | exact (unhide P2).drew
              first | (refine results_ct (p := 2) (u := 3) (ty := 24) ?_ _ _ w.heap.size _ ?_ (unhide P1) _ ?_ <;> rfl) | (refine results_ct (p := 2) (u := 3) (ty := 24) ?_ _ _ w.heap.size _ ?_ (unhide P1D) _ ?_ <;> rfl)
    · have hI4 : ((cs.length : Int) != 4) = true := bne_iff_ne.2 (by omega)
      have hL4 : ¬ cs.length = 4 := h4
      have HE : Hid (((0 : Nat), (0 : Nat), (3 : Int)) = (a, b, z)) := hide (by
        have h1 := unhide HAD
        rw [if_neg h4] at h1
        have h2 := unhide HR
        rw [h1] at h2
        exact h2)
      have hlx := (unhide X2).lt
      obtain ⟨x0, x1⟩ := (unhide X2).cells
      obtain ⟨f0, f1⟩ := (unhide X2).frozen
      have P1 := hide ((unhide X2).loaded 0 0)
      have P2 := hide ((unhide B2).grown ((unhide X2).put 0 0).2 (unhide B2).size (fun q hq => by have := Option.some.inj hq; omega))
      clear O2 Y2 HAD
      go_wp2_with fail
      (try simp only [Exit.inBlock, Exit.then])
      refine bodyPost_ret_by (v := .tuple #[.agg #[.int .u32 0, .int .i64 0], .int .i64 3]) ?_ rfl ⟨by cases unhide HE; rfl, unhide P2⟩
      refine results_ct (p := 2) (u := 3) (ty := 24) ?_ _ _ w.heap.size _ ?_ (unhide P1) _ ?_ <;> rfl
  | true =>
    have HRT := hide (unhide HPT rfl)
    clear HPF HPT
    obtain ⟨m1, m2⟩ := (unhide Y1).set1 x
    have M1 := hide m1
    have X5 := hide ((unhide X1).kept m2 (fun e => by have := Option.some.inj e; omega))
    have B5 := hide ((unhide B1).grown m2 (unhide B1).size (fun q hq => by have := Option.some.inj hq; omega))
    obtain ⟨W5, hW5⟩ : ∃ W5, W1.setCell ⟨g, 1, none⟩ (.int .i64 x) = W5 := ⟨_, rfl⟩
    obtain ⟨e0, e1⟩ := (unhide Y1).frozen
    rw [hW5] at M1 X5 B5
    clear m1 m2 X1 B1
    have hl5 := (unhide M1).lt
    obtain ⟨p0, p1⟩ := (unhide M1).cells
    go_wp2_with fail
    refine ((unhide HN) W1).mono ?_; rintro e wx ⟨rfl, hwx⟩; rw [hwx]; clear hwx wx
    clear HN
    by_cases hneg : x < 0
    · have HE := hide ((unhide HRT).1 hneg)
      obtain ⟨x0, x1⟩ := (unhide X5).cells
      obtain ⟨f0, f1⟩ := (unhide X5).frozen
      have hlx := (unhide X5).lt
      have P1 := hide ((unhide X5).loaded 0 0)
      have P2 := hide ((unhide B5).grown ((unhide X5).put 0 0).2 (unhide B5).size (fun q hq => by have := Option.some.inj hq; omega))
      go_wp2_with fail
      (try simp only [Exit.inBlock, Exit.then])
      refine bodyPost_ret_by (v := .tuple #[.agg #[.int .u32 0, .int .i64 0], .int .i64 3]) ?_ rfl ⟨by cases unhide HE; rfl, unhide P2⟩
      refine results_ct (p := 2) (u := 3) (ty := 24) ?_ _ _ w.heap.size _ ?_ (unhide P1) _ ?_ <;> rfl
    · obtain ⟨n, rfl⟩ := Int.eq_ofNat_of_zero_le (by omega : 0 ≤ x)
      have hn32 : n ≤ 32 := by omega
      have HR : Hid (netR o n = (a, b, z)) := hide (by have := (unhide HRT).2 (by omega); rwa [Int.toNat_natCast] at this)
      have B1 := B5
      have X1 := X5
      have Y1 := M1
      have q0 := True.intro
      have q1 := True.intro
      clear HRT hbd hneg B5 X5 M1
      go_wp2_with fail
      clear hW5
      refine ((unhide HPC) W5).mono ?_; rintro e w2 ⟨v, rfl, own2, b2⟩
      clear hW1
      have B2 := hide (bel_trans (unhide B1) b2)
      have X2 := hide ((unhide X1).below b2)
      have Y2 := hide ((unhide Y1).below b2)
      have O2 := hide own2
      have hgb : g < W5.heap.size := (unhide Y1).lt.2
      clear b2 own2 HPC B1 X1 Y1 q0 q1 hlY
      obtain ⟨o9, c9, rfl⟩ := own_forms (unhide O2)
      by_cases h4 : cs.length = 4
      · have hI4 : ((cs.length : Int) != 4) = false := by rw [h4]; rfl
        have HO : Hid (Nt.adrL 0 cs = o) := hide (by have := unhide HAD; rw [if_pos h4] at this; exact this.symm)
        obtain ⟨g9, c9, he9, hc9⟩ := own_form (unhide O2) (by omega)
        cases he9
        have hl9 := (unhide O2).lt g9 rfl
        obtain ⟨y0, y1⟩ := (unhide Y2).cells
        clear HAD
        go_wp2_with fail
        have hbase : W5.heap.size ≤ w2.heap.size := Nat.le_trans hl9.1 (Nat.le_of_lt hl9.2)
        go_loopw [9] (fun x wr => ∃ (k acc : Nat), k ≤ 4 ∧ x = .int .i64 k ∧ acc < 256 ^ k ∧ Nt.adrL acc (cs.drop k) = o ∧ NX wr w.heap.size g acc n ∧ NX wr w.heap.size w.heap.size 0 0 ∧ wr.ownsRow W5.heap.size 9 1 (.slice (some ⟨g9, 0, none⟩) cs.length c9) cs.length (cellsS cs) ∧ Below w.heap.size w wr) (fun x _ => 4 - (intOf x).toNat)
        case atStart => exact ⟨0, 0, by omega, rfl, by decide, unhide HO, unhide Y2, unhide X2, unhide O2, unhide B2⟩
        case round =>
          clear HO Y2 X2 O2 B2 y0 y1
          obtain ⟨k, acc, hk, rfl, hacc, hres, hY, hX, hO, hB⟩ := hrel
          have Y3 := hide hY
          have X3 := hide hX
          have O3 := hide hO
          have B3 := hide hB
          have hlg := hY.lt
          have hlx := hX.lt
          have hlo := hO.lt g9 rfl
          obtain ⟨y0, y1⟩ := hY.cells
          obtain ⟨x0, x1⟩ := hX.cells
          obtain ⟨f0, f1⟩ := hX.frozen
          obtain ⟨e0, e1⟩ := hY.frozen
          have hne : ¬ g = g9 := by omega
          clear hY hX hB
          by_cases hk4 : k < 4
          · obtain ⟨p, hp⟩ : ∃ p, cs[k]? = some p := ⟨cs[k], List.getElem?_eq_getElem (by omega)⟩
            have hload : wr.cell? ⟨g9, k, none⟩ = some (.string (mk p)) := by
              rw [hO.cellAt k (by omega), cellsS, List.getElem?_map, hp]; rfl
            have hdrop : cs.drop k = p :: cs.drop (k + 1) := by
              rw [List.drop_eq_getElem_cons (by omega : k < cs.length)]
              have := List.getElem?_eq_getElem (by omega : k < cs.length)
              rw [hp] at this
              rw [← Option.some.inj this]
            have hps := unhide HCL p (List.mem_of_getElem? hp)
            have HSM := hide (rsmall_any (mk p) 255 wr (by rw [szM]; unfold maxLen; omega))
            rw [show (mk p).data.toList = p by simp [mk]] at HSM
            have hbp := Nt.sm_bd 255 p
            rw [hdrop, Nt.adrL] at hres
            obtain ⟨xx, hxx⟩ : ∃ x, Nt.sm 255 p = x := ⟨_, rfl⟩
            rw [hxx] at HSM hbp hres
            have HRE := hide hres
            have hIk : (k : Int) < 4 := by omega
            have hpw := pow256 k hk4
            obtain ⟨str, hstr⟩ : ∃ q, mk p = q := ⟨_, rfl⟩
            rw [hstr] at hload HSM
            have HPW : Hid (256 ^ (k + 1) = 256 ^ k * 256) := hide hpw.2
            have hac : acc < 16777216 := by omega
            clear hp hdrop hxx hres hO hstr hpw
            go_wp2_with fail
            refine (unhide HSM).mono ?_; rintro e wx ⟨rfl, hwx⟩; rw [hwx]; clear hwx wx
            by_cases hneg : xx < 0
            · have HE : Hid (((0 : Nat), (0 : Nat), (3 : Int)) = (a, b, z)) := hide (by
                have h1 := unhide HRE
                rw [if_pos hneg] at h1
                have h2 := unhide HR
                rw [← h1] at h2
                exact h2)
              have P1 := hide ((unhide X3).loaded 0 0)
              have P2 := hide ((unhide B3).grown ((unhide X3).put 0 0).2 (unhide B3).size (fun q hq => by have := Option.some.inj hq; omega))
              clear HSM hload O3 hlo hne Y3 y0 y1 e0 e1 hlg
              go_wp2_with fail
              (try simp only [Exit.inBlock, Exit.then])
              refine bodyPost_ret_by (v := .tuple #[.agg #[.int .u32 0, .int .i64 0], .int .i64 3]) ?_ rfl ⟨by cases unhide HE; rfl, unhide P2⟩
              refine results_ct (p := 2) (u := 3) (ty := 24) ?_ _ _ w.heap.size _ ?_ (unhide P1) _ ?_ <;> rfl
            · obtain ⟨n, rfl⟩ := Int.eq_ofNat_of_zero_le (by omega : 0 ≤ xx)
              have hn : n ≤ 255 := by omega
              have HRN : Hid (Nt.adrL (acc * 256 + n) (cs.drop (k + 1)) = o) := hide (by have h1 := unhide HRE; rwa [if_neg hneg, Int.toNat_natCast] at h1)
              have hn32 : (n : Int) % 4294967296 = n := by omega
              have h256 : (acc : Int) * 256 % 4294967296 = acc * 256 := by omega
              have hsum : ((acc : Int) * 256 + n) % 4294967296 = acc * 256 + n := by omega
              obtain ⟨m1, m2⟩ := (unhide Y3).set0 ((acc : Int) * 256 + n)
              have M1 := hide m1
              have M2 := hide m2
              have X4 := hide ((unhide X3).kept m2 (fun e => by have := Option.some.inj e; omega))
              have O4 := hide ((unhide O3).kept m2 (.inr (fun e => hne (Option.some.inj e).symm)))
              have B4 := hide ((unhide B3).grown m2 (unhide B3).size (fun q hq => by have := Option.some.inj hq; omega))
              clear m1 m2 HSM HRE hneg hbp
              go_wp2_with fail
              refine ⟨⟨k + 1, acc * 256 + n, by omega, by go_num, by rw [unhide HPW]; omega, unhide HRN, ?_, unhide X4, unhide O4, unhide B4⟩, by simp [intOf]; omega⟩
              rw [show ((acc * 256 + n : Nat) : Int) = (acc : Int) * 256 + n by omega]
              exact unhide M1
          · obtain rfl : k = 4 := by omega
            have hoa : some acc = o := by
              rw [List.drop_of_length_le (by omega)] at hres
              exact hres
            have hacc32 : acc < 4294967296 := unhide HAB acc hoa.symm
            have HF : Hid (Nt.fin acc n = (a, b, z)) := hide (by have h2 := unhide HR; rw [← hoa] at h2; exact h2)
            clear hres hoa hO hlo hne O3 HR HCL HAB
            go_wp2_with fail
            go_loopw [11] (fun x wq => ∃ j : Nat, x = .int .i64 j ∧ n ≤ j ∧ j ≤ 32 ∧ acc % 2 ^ (32 - n) = acc % 2 ^ (32 - j) ∧ NX wq w.heap.size g acc n ∧ NX wq w.heap.size w.heap.size 0 0 ∧ Below w.heap.size w wq) (fun x _ => 32 - (intOf x).toNat)
            case atStart => exact ⟨n, rfl, Nat.le_refl _, by omega, rfl, unhide Y3, unhide X3, unhide B3⟩
            case round =>
              clear Y3 X3 B3 y0 y1 x0 x1 f0 f1 e0 e1 hlg hlx
              obtain ⟨j, rfl, hj1, hj2, hmod, hY, hX, hB⟩ := hrel
              have Y3 := hide hY
              have X3 := hide hX
              have B3 := hide hB
              have hlg := hY.lt
              have hlx := hX.lt
              obtain ⟨y0, y1⟩ := hY.cells
              obtain ⟨x0, x1⟩ := hX.cells
              obtain ⟨f0, f1⟩ := hX.frozen
              clear hY hX hB
              by_cases hj : j < 32
              · have hjI : (j : Int) < 32 := by omega
                have hs0 : (0 : Int) ≤ 31 - j := by omega
                have hw : IntKind.i64.wrap (31 - (j : Int)) = 31 - j := by rw [IntKind.wrap_i64]; omega
                have e1 := Nt.mod_bit acc (31 - j)
                rw [show 31 - j + 1 = 32 - j by omega] at e1
                by_cases hbit : acc / 2 ^ (31 - j) % 2 = 1
                · have hT : (((acc : Int) / 2 ^ (31 - j)).tmod 2 == 1) = true := by rw [bit_mod, hbit]; rfl
                  have HE : Hid (((0 : Nat), (0 : Nat), (4 : Int)) = (a, b, z)) := hide (by
                    have h1 := unhide HF
                    have hp := (pow_le32 (31 - j) (by omega)).1
                    unfold Nt.fin at h1
                    rw [hmod, e1, hbit, if_neg (by omega)] at h1
                    exact h1)
                  have P1 := hide ((unhide X3).loaded 0 0)
                  have P2 := hide ((unhide B3).grown ((unhide X3).put 0 0).2 (unhide B3).size (fun q hq => by have := Option.some.inj hq; omega))
                  clear e1 hbit hmod Y3 hw hs0
                  go_wp2_with fail
                  (try simp only [Exit.inBlock, Exit.then])
                  refine bodyPost_ret_by (v := .tuple #[.agg #[.int .u32 0, .int .i64 0], .int .i64 4]) ?_ rfl ⟨by cases unhide HE; rfl, unhide P2⟩
                  refine results_ct (p := 2) (u := 3) (ty := 24) ?_ _ _ w.heap.size _ ?_ (unhide P1) _ ?_ <;> rfl
                · have hT : (((acc : Int) / 2 ^ (31 - j)).tmod 2 == 1) = false := by rw [bit_mod]; exact beq_eq_false_iff_ne.2 (by omega)
                  have HM : Hid (acc % 2 ^ (32 - n) = acc % 2 ^ (32 - (j + 1))) := hide (by rw [hmod, e1, show acc / 2 ^ (31 - j) % 2 = 0 by omega, show 32 - (j + 1) = 31 - j by omega]; omega)
                  clear e1 hbit hmod
                  go_wp2_with fail
                  exact ⟨⟨j + 1, by go_num, by omega, by omega, unhide HM, unhide Y3, unhide X3, unhide B3⟩, by simp [intOf]; omega⟩
              · obtain rfl : j = 32 := by omega
                have HE : Hid ((acc, n, (0 : Int)) = (a, b, z)) := hide (by
                  have h1 := unhide HF
                  unfold Nt.fin at h1
                  rw [hmod, if_pos (by omega)] at h1
                  exact h1)
                have P1 := hide ((unhide X3).loaded acc n)
                have P1D := hide ((unhide X3).loadedD acc n)
                have P2 := hide ((unhide B3).grown ((unhide X3).put acc n).2 (unhide B3).size (fun q hq => by have := Option.some.inj hq; omega))
                clear hmod
                go_wp2_with fail
                (try simp only [Exit.inBlock, Exit.then])
                refine bodyPost_ret_by (v := .tuple #[.agg #[.int .u32 acc, .int .i64 n], .int .i64 0]) ?_ rfl ⟨by cases unhide HE; rfl, ?_⟩
                rotate_left 1
                · first | exact unhide P2 | exact (unhide P2).drew
                first | (refine results_ct (p := 2) (u := 3) (ty := 24) ?_ _ _ w.heap.size _ ?_ (unhide P1) _ ?_ <;> rfl) | (refine results_ct (p := 2) (u := 3) (ty := 24) ?_ _ _ w.heap.size _ ?_ (unhide P1D) _ ?_ <;> rfl)
      · have hI4 : ((cs.length : Int) != 4) = true := bne_iff_ne.2 (by omega)
        have hL4 : ¬ cs.length = 4 := h4
        have HE : Hid (((0 : Nat), (0 : Nat), (3 : Int)) = (a, b, z)) := hide (by
          have h1 := unhide HAD
          rw [if_neg h4] at h1
          have h2 := unhide HR
          rw [h1] at h2
          exact h2)
        have hlx := (unhide X2).lt
        obtain ⟨x0, x1⟩ := (unhide X2).cells
        obtain ⟨f0, f1⟩ := (unhide X2).frozen
        have P1 := hide ((unhide X2).loaded 0 0)
        have P2 := hide ((unhide B2).grown ((unhide X2).put 0 0).2 (unhide B2).size (fun q hq => by have := Option.some.inj hq; omega))
        clear O2 Y2 HAD
        go_wp2_with fail
        (try simp only [Exit.inBlock, Exit.then])
        refine bodyPost_ret_by (v := .tuple #[.agg #[.int .u32 0, .int .i64 0], .int .i64 3]) ?_ rfl ⟨by cases unhide HE; rfl, unhide P2⟩
        refine results_ct (p := 2) (u := 3) (ty := 24) ?_ _ _ w.heap.size _ ?_ (unhide P1) _ ?_ <;> rfl
end Go.Proofs.YtmhjfiaohbioeaaDoor
