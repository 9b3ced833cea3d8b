/- Walks: a request at the front (the document's). -/
import Derived.Test.YtjpclmkekmkddaaGreatDoorUB
import Derived.Test.YtjpclmkekmkddaaGreatDoorMo
import Derived.Test.YtjpclmkekmkddaaGreatDoorTp
import Derived.Test.YtjpclmkekmkddaaGreatDoorTn
namespace Go.Proofs.YtjpclmkekmkddaaGreatDoor
open Go.RowKit Kb
set_option linter.unusedVariables false
set_option maxRecDepth 20000
open Mh (Fl)
theorem QB.putD {N : Nat} {w W : World} {hd bd ar : Int} (h : QB N w hd bd ar W) (a b : ByteArray) (o : Option Addr) (n c : Nat) (d : ByteArray) :
    (loadVar 30 ⟨N + 1, 0, none⟩).run Tryz.prog (putQ W (N + 1) a b (.slice o n c) d).drew = .ok (.agg #[.string a, .string b, .slice o n c, .string d]) (putQ W (N + 1) a b (.slice o n c) d).drew
    ∧ Below N w (putQ W (N + 1) a b (.slice o n c) d).drew
    ∧ (∀ (B sz' : Nat) (t : TypeId) (v : Value) (l : List Value) (n' : Nat), N + 2 ≤ B → W.ownsRow B t sz' v n' l → (putQ W (N + 1) a b (.slice o n c) d).drew.ownsRow B t sz' v n' l) := by
  obtain ⟨_, ⟨a', b', v', d', hx⟩, hs, hb⟩ := h
  obtain ⟨p1, g1⟩ := hx.put a b (.slice o n c) d
  refine ⟨(p1.below (Below.refl _ _).drew).load, (hb.grown g1 (by rw [← hs]; exact hb.size) (fun q hq => by have := Option.some.inj hq; omega)).drew, ?_⟩
  intro B sz' t v l n' hB ho
  exact own_below (ho.kept g1 (.inr (fun e => by have := (ho.lt _ e).1; omega))) (Below.refl _ _).drew
set_option maxHeartbeats 8000000 in
theorem rone_any (s : ByteArray) (hd : Nat) (bd ar : Int) (w : World) (hs : s.size ≤ 1048576) (h4 : hd ≤ 4096) (hbb : 0 ≤ bd ∧ bd ≤ 4096) (o : On.Rq × Int × Int) (ho : On.tellQ (On.one hd bd s.data.toList) = o) :
    Calls Tryz.prog 10 #[.string s, bndV hd bd ar] w fun e w' => ∃ v, e = .returned (.tuple #[.agg #[.string (mk o.1.1), .string (mk o.1.2.1), v, .string (mk o.1.2.2.2)], .int .i64 o.2.1, .int .i64 o.2.2]) ∧ w'.ownsRow w.heap.size 73 2 v o.1.2.2.1.length (cellsF o.1.2.2.1) ∧ Below w.heap.size w w' := by
  have HF := hide (fun W => rfind_any s ⟨#[13, 10, 13, 10]⟩ 0 W (by omega) (by decide) (by decide) (by decide))
  unfold bndV
  obtain ⟨hb0, hb1⟩ := hbb
  have H0 := hide (QB.new w hd bd ar)
  obtain ⟨W0, hW0⟩ : ∃ W, (w.alloc (.cells #[.int .i64 hd, .int .i64 bd, .int .i64 ar] 23)).alloc (.cells #[.string ⟨#[]⟩, .string ⟨#[]⟩, .slice none 0 0, .string ⟨#[]⟩] 30) = W := ⟨_, rfl⟩
  rw [hW0] at H0
  have hN : w.heap.size + 2 = W0.heap.size := by rw [← hW0]; simp
  have HZ : Hid (∀ W, QB w.heap.size w hd bd ar W → ∀ y : Int, o = (([], [], [], []), 0, y) → (loadVar 30 ⟨w.heap.size + 1, 0, none⟩).run Tryz.prog (putQ W (w.heap.size + 1) ⟨#[]⟩ ⟨#[]⟩ (.slice none 0 0) ⟨#[]⟩) = .ok (.agg #[.string ⟨#[]⟩, .string ⟨#[]⟩, .slice none 0 0, .string ⟨#[]⟩]) (putQ W (w.heap.size + 1) ⟨#[]⟩ ⟨#[]⟩ (.slice none 0 0) ⟨#[]⟩) ∧ (putQ W (w.heap.size + 1) ⟨#[]⟩ ⟨#[]⟩ (.slice none 0 0) ⟨#[]⟩).ownsRow w.heap.size 73 2 (.slice none 0 0) o.1.2.2.1.length (cellsF o.1.2.2.1) ∧ Below w.heap.size w (putQ W (w.heap.size + 1) ⟨#[]⟩ ⟨#[]⟩ (.slice none 0 0) ⟨#[]⟩)) :=
    hide (fun W h y e => by
      subst e
      exact ⟨(h.put _ _ none 0 0 _).1, World.ownsRow_nil _ _ _ _, (h.put _ _ none 0 0 _).2.1⟩)
  obtain ⟨x0, x1, x2⟩ := (unhide H0).bx
  have hef := On.end_find hd s.data.toList
  rw [show (⟨#[13, 10, 13, 10]⟩ : ByteArray).data.toList = On.he from rfl] at HF
  obtain ⟨f, hf⟩ : ∃ f, Fnd.find s.data.toList On.he 0 = f := ⟨_, rfl⟩
  have hfl := Fnd.find_le s.data.toList On.he 0
  have hfg := Fnd.find_ge s.data.toList On.he 0
  rw [hf] at HF hef hfl hfg
  rw [len_data] at hfl
  clear hf
  by_cases hcase : f < 0 ∨ (hd : Int) < f + 4
  · rw [if_pos hcase] at hef
    have HO : Hid (o = (([], [], [], []), 0, if hd ≤ s.size then 5 else 7)) := hide (by
      rw [← ho]; unfold On.one On.headP; rw [if_pos hef, len_data]; rfl)
    clear hef ho
    obtain ⟨f0, f1, f2, f3⟩ := (unhide H0).frozen
    obtain ⟨_, _, _, _, y0, y1, y2, y3⟩ := (unhide H0).cells
    by_cases hl : hd ≤ s.size
    · rw [if_pos hl] at HO
      have hlI : (hd : Int) ≤ s.size := by omega
      have HR := hide ((unhide HZ) W0 (unhide H0) 5 (unhide HO))
      clear HZ
      by_cases hf0 : f < 0
      · clear hcase
        go_enter Tryz.func10, Tryz.ntmps10
        go_wp2_with fail
        clear hW0
        refine ((unhide HF) _).mono ?_; rintro e w1 ⟨rfl, rfl⟩
        go_wp2_with fail
        (try simp only [Exit.inBlock, Exit.then])
        refine bodyPost_ret_by (v := .tuple #[.agg #[.string ⟨#[]⟩, .string ⟨#[]⟩, .slice none 0 0, .string ⟨#[]⟩], .int .i64 0, .int .i64 5]) ?_ rfl ⟨.slice none 0 0, by rw [unhide HO]; rfl, (unhide HR).2.1, (unhide HR).2.2⟩
        refine results_ctt9 (p := 4) (u := 5) (u' := 6) (ty := 30) ?_ _ _ (w.heap.size + 1) _ ?_ (unhide HR).1 _ ?_ _ ?_ <;> rfl
      · have hf1 : (hd : Int) < f + 4 := by omega
        clear hcase
        go_enter Tryz.func10, Tryz.ntmps10
        go_wp2_with fail
        clear hW0
        refine ((unhide HF) _).mono ?_; rintro e w1 ⟨rfl, rfl⟩
        go_wp2_with fail
        (try simp only [Exit.inBlock, Exit.then])
        refine bodyPost_ret_by (v := .tuple #[.agg #[.string ⟨#[]⟩, .string ⟨#[]⟩, .slice none 0 0, .string ⟨#[]⟩], .int .i64 0, .int .i64 5]) ?_ rfl ⟨.slice none 0 0, by rw [unhide HO]; rfl, (unhide HR).2.1, (unhide HR).2.2⟩
        refine results_ctt9 (p := 4) (u := 5) (u' := 6) (ty := 30) ?_ _ _ (w.heap.size + 1) _ ?_ (unhide HR).1 _ ?_ _ ?_ <;> rfl
    · rw [if_neg hl] at HO
      have hlI : ¬ (hd : Int) ≤ s.size := by omega
      have HR := hide ((unhide HZ) W0 (unhide H0) 7 (unhide HO))
      clear HZ
      by_cases hf0 : f < 0
      · clear hcase
        go_enter Tryz.func10, Tryz.ntmps10
        go_wp2_with fail
        clear hW0
        refine ((unhide HF) _).mono ?_; rintro e w1 ⟨rfl, rfl⟩
        go_wp2_with fail
        (try simp only [Exit.inBlock, Exit.then])
        refine bodyPost_ret_by (v := .tuple #[.agg #[.string ⟨#[]⟩, .string ⟨#[]⟩, .slice none 0 0, .string ⟨#[]⟩], .int .i64 0, .int .i64 7]) ?_ rfl ⟨.slice none 0 0, by rw [unhide HO]; rfl, (unhide HR).2.1, (unhide HR).2.2⟩
        refine results_ctt9 (p := 4) (u := 5) (u' := 6) (ty := 30) ?_ _ _ (w.heap.size + 1) _ ?_ (unhide HR).1 _ ?_ _ ?_ <;> rfl
      · have hf1 : (hd : Int) < f + 4 := by omega
        clear hcase
        go_enter Tryz.func10, Tryz.ntmps10
        go_wp2_with fail
        clear hW0
        refine ((unhide HF) _).mono ?_; rintro e w1 ⟨rfl, rfl⟩
        go_wp2_with fail
        (try simp only [Exit.inBlock, Exit.then])
        refine bodyPost_ret_by (v := .tuple #[.agg #[.string ⟨#[]⟩, .string ⟨#[]⟩, .slice none 0 0, .string ⟨#[]⟩], .int .i64 0, .int .i64 7]) ?_ rfl ⟨.slice none 0 0, by rw [unhide HO]; rfl, (unhide HR).2.1, (unhide HR).2.2⟩
        refine results_ctt9 (p := 4) (u := 5) (u' := 6) (ty := 30) ?_ _ _ (w.heap.size + 1) _ ?_ (unhide HR).1 _ ?_ _ ?_ <;> rfl
  rw [if_neg hcase] at hef
  have hf0 : ¬ f < 0 := by omega
  have hf1 : ¬ (hd : Int) < f + 4 := by omega
  obtain ⟨i, rfl⟩ : ∃ i : Nat, f = i := ⟨f.toNat, by omega⟩
  have hi2 : i + 4 ≤ s.size := by
    rcases On.end_cases hd s.data.toList with h | ⟨k, h, _, h3, _⟩
    · omega
    · rw [len_data] at h3; omega
  obtain ⟨n, hn⟩ : ∃ n, i + 4 = n := ⟨_, rfl⟩
  have hn2 : (i : Int) + 4 = (n : Int) := by omega
  have hns : (n : Int) ≤ s.size := by omega
  unfold On.one On.headP at ho
  rw [if_neg (by omega), hef, Int.toNat_natCast, hn] at ho
  obtain ⟨⟨a, b, fs, z⟩, hp⟩ : ∃ p, Mh.parse (s.data.toList.take n) = p := ⟨_, rfl⟩
  have hrb : fs.length ≤ 1048576 ∧ (z = 0 → fs.length ≤ 30 ∧ ∀ f ∈ fs, f.1.length + f.2.length ≤ 68719476736) := by
    rcases Mh.parse_cases (s.data.toList.take n) with ⟨e, he, h45⟩ | ⟨m', t', fs', h0⟩
    · rw [hp] at he
      injection he with e1 e2; injection e2 with e2 e3; injection e3 with e3 e4
      subst e3 e4
      exact ⟨by decide, fun h => by omega⟩
    · rw [hp] at h0
      injection h0 with e1 e2; injection e2 with e2 e3; injection e3 with e3 e4
      subst e1 e2 e3 e4
      have hck := (Mh.check_ok (Mh.parse_ok hp).2.2)
      exact ⟨by omega, fun _ => ⟨hck.2.2.2.1, fun f hf => by have := (Mh.fieldE_ok (hck.2.2.2.2 f hf)).2.2; omega⟩⟩
  have HP := hide (fun W => rread_any (s.extract 0 n) W (by simp; omega) a b fs z (by rw [take_data]; exact hp))
  rw [hp] at ho
  dsimp only at ho
  have HO := hide ho
  have HRB := hide hrb
  clear hp ho hef hi2 hn hrb hcase
  go_enter Tryz.func10, Tryz.ntmps10
  go_wp2_with fail
  clear hW0
  refine ((unhide HF) W0).mono ?_; rintro e wx ⟨rfl, rfl⟩
  go_wp2_with fail
  refine ((unhide HP) _).mono ?_; rintro e w1 ⟨v, rfl, own1, b1⟩
  obtain ⟨vo, vc, rfl⟩ := own_forms own1
  have H1 := hide ((unhide H0).below b1)
  have O1 := hide own1
  have hs1 := b1.size
  clear b1 own1 H0 HP HF
  obtain ⟨x, hx⟩ : ∃ x, mk a = x := ⟨_, rfl⟩
  obtain ⟨y, hy⟩ : ∃ y, mk b = y := ⟨_, rfl⟩
  have HXY : Hid (mk a = x ∧ mk b = y) := hide ⟨hx, hy⟩
  rw [hx, hy]
  clear hx hy x0 x1 x2
  have Y := HX.new (base := w1.heap.size) w1 (Nat.le_refl _) x y vo fs.length vc
  have bb := (Below.refl w1.heap.size w1).alloc (Nat.le_refl _) (.cells #[.string x, .string y, .slice vo fs.length vc] 28)
  obtain ⟨g4, hg4⟩ : ∃ g, w1.heap.size = g := ⟨_, rfl⟩
  obtain ⟨W2, hW2⟩ : ∃ W, w1.alloc (.cells #[.string x, .string y, .slice vo fs.length vc] 28) = W := ⟨_, rfl⟩
  have H2 := hide ((unhide H1).below bb)
  have O2 := hide (own_below (unhide O1) bb)
  rw [hW2] at Y bb H2 O2
  rw [hg4] at Y
  have hs2 := bb.size
  have Y2 := hide Y
  clear bb H1 O1 Y
  obtain ⟨f0, f1, f2, f3⟩ := (unhide H2).frozen
  obtain ⟨_, _, _, _, y0, y1, y2, y3⟩ := (unhide H2).cells
  by_cases h0 : z = 0
  case neg =>
    have hz0 : (z != 0) = true := by simpa using h0
    have HEE : Hid (o = (([], [], [], []), 0, z)) := hide (by
      have := unhide HO; rw [if_pos h0] at this; exact this.symm)
    have HR := hide ((unhide HZ) W2 (unhide H2) z (unhide HEE))
    clear HZ HO HRB
    go_wp2_with fail
    (try simp only [Exit.inBlock, Exit.then])
    refine bodyPost_ret_by (v := .tuple #[.agg #[.string ⟨#[]⟩, .string ⟨#[]⟩, .slice none 0 0, .string ⟨#[]⟩], .int .i64 0, .int .i64 z]) ?_ rfl ⟨.slice none 0 0, by rw [unhide HEE]; rfl, (unhide HR).2.1, (unhide HR).2.2⟩
    refine results_ctt9 (p := 4) (u := 5) (u' := 6) (ty := 30) ?_ _ _ (w.heap.size + 1) _ ?_ (unhide HR).1 _ ?_ _ ?_ <;> rfl
  obtain ⟨⟨k, sz, e3⟩, hz⟩ : ∃ r, Cu.sizeOf fs = r := ⟨_, rfl⟩
  have hsg := On.sz_ge fs
  rw [hz] at hsg
  dsimp only at hsg
  have HSG := hide hsg
  have HFR := hide (fun W (bW : Below W2.heap.size W2 W) => rof_any a b (.slice vo fs.length vc) fs W (Flds.own (own_below (unhide O2) bW) (by have := (unhide HRB).1; omega)) ((unhide HRB).2 h0).2 (by have := ((unhide HRB).2 h0).1; omega) _ hz)
  unfold headV at HFR
  rw [(unhide HXY).1, (unhide HXY).2] at HFR
  dsimp only at HFR
  have HO2 := unhide HO
  rw [if_neg (by simpa using h0), hz] at HO2
  dsimp only at HO2
  have HO3 := hide HO2
  obtain ⟨v0, v1, v2⟩ := (unhide Y2).cells
  have hz0 : (z != 0) = false := by simpa using h0
  have hl4 := (unhide Y2).lt.2
  clear HO HRB hz h0 HO2 hsg
  go_wp2_with fail
  clear hW2 hg4
  refine ((unhide HFR) W2 (Below.refl _ _)).mono ?_; rintro e w3 ⟨rfl, b3⟩
  have H3 := hide ((unhide H2).below b3)
  have O3 := hide (own_below (unhide O2) b3)
  have Y3 := hide ((unhide Y2).below b3)
  have hs3 := b3.size
  clear b3 H2 O2 HFR Y2 v0 v1 v2
  have K := BX.new (base := w3.heap.size) w3 (Nat.le_refl _) k sz
  have bb := (Below.refl w3.heap.size w3).alloc (Nat.le_refl _) (.cells #[.int .i64 k, .int .i64 sz] 50)
  obtain ⟨g5, hg5⟩ : ∃ g, w3.heap.size = g := ⟨_, rfl⟩
  obtain ⟨W4, hW4⟩ : ∃ W, w3.alloc (.cells #[.int .i64 k, .int .i64 sz] 50) = W := ⟨_, rfl⟩
  have H4 := hide ((unhide H3).below bb)
  have O4 := hide (own_below (unhide O3) bb)
  have Y4 := hide ((unhide Y3).below bb)
  rw [hW4] at K bb H4 O4 Y4
  rw [hg5] at K
  have K4 := hide K
  have hs5 := bb.size
  clear K bb H3 O3 Y3 f0 f1 f2 f3 y0 y1 y2 y3
  obtain ⟨f0, f1, f2, f3⟩ := (unhide H4).frozen
  obtain ⟨_, _, _, _, y0, y1, y2, y3⟩ := (unhide H4).cells
  obtain ⟨x0, x1, x2⟩ := (unhide H4).bx
  obtain ⟨v0, v1, v2⟩ := (unhide Y4).cells
  obtain ⟨k0, k1⟩ := (unhide K4).cells
  by_cases he : e3 = 0
  case neg =>
    have hb0' : (e3 != 0) = true := by simpa using he
    have HEE : Hid (o = (([], [], [], []), 0, e3)) := hide (by
      have := unhide HO3; rw [if_pos he] at this; exact this.symm)
    have HR := hide ((unhide HZ) W4 (unhide H4) e3 (unhide HEE))
    clear HZ HO3
    go_wp2_with fail
    (try simp only [Exit.inBlock, Exit.then])
    refine bodyPost_ret_by (v := .tuple #[.agg #[.string ⟨#[]⟩, .string ⟨#[]⟩, .slice none 0 0, .string ⟨#[]⟩], .int .i64 0, .int .i64 e3]) ?_ rfl ⟨.slice none 0 0, by rw [unhide HEE]; rfl, (unhide HR).2.1, (unhide HR).2.2⟩
    refine results_ctt9 (p := 4) (u := 5) (u' := 6) (ty := 30) ?_ _ _ (w.heap.size + 1) _ ?_ (unhide HR).1 _ ?_ _ ?_ <;> rfl
  have hb0' : (e3 != 0) = false := by simpa using he
  obtain ⟨r, hr⟩ : ∃ r, s.extract n s.size = r := ⟨_, rfl⟩
  have hrl : r.data.toList = s.data.toList.drop n := by rw [← hr]; exact extract_drop _ _
  have hrs : r.size ≤ 1048576 := by rw [← hr]; simp; omega
  have HO4 : Hid (On.tellQ (match On.body bd r.data.toList k sz with | .error e => .error e | .ok (t, c) => .ok ((a, b, fs, t), n + c)) = o) := hide (by
    have := unhide HO3
    rw [if_neg (by simpa using he)] at this
    dsimp only at this
    rw [hrl]; exact this)
  have HRL := hide hrl
  clear HO3 he hrl
  unfold On.body at HO4
  by_cases h2 : k = 2
  · have hsz := (unhide HSG) h2
    subst h2
    rw [if_pos rfl, len_data] at HO4
    clear HSG HRL
    by_cases h6 : bd < sz
    · have HEE : Hid (o = (([], [], [], []), 0, 6)) := hide (by
        have := unhide HO4; rw [if_pos h6] at this; exact this.symm)
      have HR := hide ((unhide HZ) W4 (unhide H4) 6 (unhide HEE))
      clear HZ HO4
      go_wp2_with fail
      (try simp only [Exit.inBlock, Exit.then])
      refine bodyPost_ret_by (v := .tuple #[.agg #[.string ⟨#[]⟩, .string ⟨#[]⟩, .slice none 0 0, .string ⟨#[]⟩], .int .i64 0, .int .i64 6]) ?_ rfl ⟨.slice none 0 0, by rw [unhide HEE]; rfl, (unhide HR).2.1, (unhide HR).2.2⟩
      refine results_ctt9 (p := 4) (u := 5) (u' := 6) (ty := 30) ?_ _ _ (w.heap.size + 1) _ ?_ (unhide HR).1 _ ?_ _ ?_ <;> rfl
    rw [if_neg h6] at HO4
    by_cases h7 : (r.size : Int) < sz
    · have HEE : Hid (o = (([], [], [], []), 0, 7)) := hide (by
        have := unhide HO4; rw [if_pos h7] at this; exact this.symm)
      have HR := hide ((unhide HZ) W4 (unhide H4) 7 (unhide HEE))
      clear HZ HO4
      go_wp2_with fail
      (try simp only [Exit.inBlock, Exit.then])
      refine bodyPost_ret_by (v := .tuple #[.agg #[.string ⟨#[]⟩, .string ⟨#[]⟩, .slice none 0 0, .string ⟨#[]⟩], .int .i64 0, .int .i64 7]) ?_ rfl ⟨.slice none 0 0, by rw [unhide HEE]; rfl, (unhide HR).2.1, (unhide HR).2.2⟩
      refine results_ctt9 (p := 4) (u := 5) (u' := 6) (ty := 30) ?_ _ _ (w.heap.size + 1) _ ?_ (unhide HR).1 _ ?_ _ ?_ <;> rfl
    rw [if_neg h7] at HO4
    obtain ⟨c, rfl⟩ : ∃ c : Nat, sz = c := ⟨sz.toNat, by omega⟩
    rw [Int.toNat_natCast] at HO4
    have hcr : (c : Int) ≤ r.size := by omega
    obtain ⟨q, hq⟩ : ∃ q, r.extract 0 c = q := ⟨_, rfl⟩
    have HVV : Hid ((Value.agg #[.string x, .string y, .slice vo fs.length vc, .string q]) = .agg #[.string (mk o.1.1), .string (mk o.1.2.1), .slice vo fs.length vc, .string (mk o.1.2.2.2)] ∧ o.2.1 = (n : Int) + c ∧ o.2.2 = 0 ∧ o.1.2.2.1 = fs) := hide (by
      rw [← unhide HO4]
      refine ⟨?_, by dsimp only [On.tellQ]; rw [Int.natCast_add], rfl, rfl⟩
      have : mk (r.data.toList.take c) = q := by rw [← hq]; apply eq_of_lists; rw [take_data]; simp [mk]
      dsimp only [On.tellQ]
      rw [(unhide HXY).1, (unhide HXY).2, this])
    obtain ⟨l1, hbel, hown⟩ := (unhide H4).putD x y vo fs.length vc q
    have L1 := hide l1
    have HBL := hide hbel
    have HOW := hide (own_mono2 (hown _ _ _ _ _ _ (by omega) (unhide O4)) (show w.heap.size ≤ wx.heap.size by omega))
    clear l1 hbel hown HO4 HZ HXY O4
    go_wp2_with fail
    go_region
    go_wp2_with fail
    (try simp only [Exit.inBlock, Exit.then])
    refine bodyPost_ret_by (v := .tuple #[.agg #[.string x, .string y, .slice vo fs.length vc, .string q], .int .i64 ((n : Int) + c), .int .i64 0]) ?_ rfl ⟨.slice vo fs.length vc, by rw [← (unhide HVV).1, (unhide HVV).2.1, (unhide HVV).2.2.1], by rw [(unhide HVV).2.2.2]; exact unhide HOW, unhide HBL⟩
    refine results_ctt9 (p := 4) (u := 5) (u' := 6) (ty := 30) ?_ _ _ (w.heap.size + 1) _ ?_ (unhide L1) _ ?_ _ ?_ <;> rfl
  rw [if_neg h2] at HO4
  have hk2 : (k == 2) = false := by simpa using h2
  by_cases h3 : k = 3
  · subst h3
    rw [if_pos rfl] at HO4
    clear HSG HRL h2 hk2
    obtain ⟨⟨t, c, e5⟩, hq⟩ : ∃ q, Cu.tell (Cu.chunks bd r.data.toList) = q := ⟨_, rfl⟩
    have HB := hide (fun W => rchunks_any r bd W (by omega) (by omega) _ hq)
    have HO5 : Hid ((e5 ≠ 0 → o = (([], [], [], []), 0, e5)) ∧ (e5 = 0 → o = ((a, b, fs, t), (n : Int) + c, 0) ∧ 0 ≤ c ∧ c ≤ 1048576)) := hide (by
      have ho := unhide HO4
      rcases hbo : Cu.chunks bd r.data.toList with e' | ⟨t', c'⟩
      · rw [hbo] at ho hq
        dsimp only [Cu.tell] at hq
        injection hq with q1 q2; injection q2 with q2 q3
        subst q1 q2 q3
        have := Cu.chunks_err hbo
        exact ⟨fun _ => ho.symm, fun h => absurd h this⟩
      · have hle := (Cu.chunks_cuts hbo).2.1
        rw [len_data] at hle
        rw [hbo] at ho hq
        dsimp only [Cu.tell] at hq
        injection hq with q1 q2; injection q2 with q2 q3
        subst q1 q2 q3
        refine ⟨fun h => absurd rfl h, fun _ => ⟨by rw [← ho]; dsimp only [On.tellQ]; rw [Int.natCast_add], by omega, by omega⟩⟩)
    clear HO4 hq
    go_wp2_with fail
    refine ((unhide HB) W4).mono ?_; rintro e w5 ⟨rfl, b5⟩
    have H6 := hide ((unhide H4).below b5)
    have O6 := hide (own_below (unhide O4) b5)
    have X6 := hide ((unhide Y4).below b5)
    clear b5 H4 O4 Y4 K4 HB x0 x1 x2 k0 k1 f0 f1 f2 f3 y0 y1 y2 y3 v0 v1 v2
    obtain ⟨f0, f1, f2, f3⟩ := (unhide H6).frozen
    obtain ⟨_, _, _, _, y0, y1, y2, y3⟩ := (unhide H6).cells
    by_cases he : e5 = 0
    · have HEE := hide ((unhide HO5).2 he)
      have he0 : (e5 != 0) = false := by simpa using he
      obtain ⟨hc0, hc1⟩ := (unhide HEE).2
      obtain ⟨x0, x1, x2⟩ := (unhide X6).cells
      obtain ⟨q, hq⟩ : ∃ q, mk t = q := ⟨_, rfl⟩
      rw [hq]
      obtain ⟨l1, hbel, hown⟩ := (unhide H6).put x y vo fs.length vc q
      have L1 := hide l1
      have HBL := hide hbel
      have HOW := hide (own_mono2 (hown _ _ _ _ _ _ (by omega) (unhide O6)) (show w.heap.size ≤ wx.heap.size by omega))
      have HVV : Hid ((Value.agg #[.string x, .string y, .slice vo fs.length vc, .string q]) = .agg #[.string (mk o.1.1), .string (mk o.1.2.1), .slice vo fs.length vc, .string (mk o.1.2.2.2)] ∧ o.2.1 = (n : Int) + c ∧ o.2.2 = 0 ∧ o.1.2.2.1 = fs) := hide (by
        rw [(unhide HEE).1]
        exact ⟨by rw [← (unhide HXY).1, ← (unhide HXY).2, ← hq], rfl, rfl, rfl⟩)
      clear l1 hbel hown hq HO5 HZ HEE HXY he O6
      go_wp2_with fail
      (try simp only [Exit.inBlock, Exit.then])
      refine bodyPost_ret_by (v := .tuple #[.agg #[.string x, .string y, .slice vo fs.length vc, .string q], .int .i64 ((n : Int) + c), .int .i64 0]) ?_ rfl ⟨.slice vo fs.length vc, by rw [← (unhide HVV).1, (unhide HVV).2.1, (unhide HVV).2.2.1], by rw [(unhide HVV).2.2.2]; exact unhide HOW, unhide HBL⟩
      refine results_ctt9 (p := 4) (u := 5) (u' := 6) (ty := 30) ?_ _ _ (w.heap.size + 1) _ ?_ (unhide L1) _ ?_ _ ?_ <;> rfl
    · have HEE := hide ((unhide HO5).1 he)
      have he0 : (e5 != 0) = true := by simpa using he
      have HR := hide ((unhide HZ) _ (unhide H6) e5 (unhide HEE))
      clear HO5 HZ HXY he O6 X6
      go_wp2_with fail
      (try simp only [Exit.inBlock, Exit.then])
      refine bodyPost_ret_by (v := .tuple #[.agg #[.string ⟨#[]⟩, .string ⟨#[]⟩, .slice none 0 0, .string ⟨#[]⟩], .int .i64 0, .int .i64 e5]) ?_ rfl ⟨.slice none 0 0, by rw [unhide HEE]; rfl, (unhide HR).2.1, (unhide HR).2.2⟩
      refine results_ctt9 (p := 4) (u := 5) (u' := 6) (ty := 30) ?_ _ _ (w.heap.size + 1) _ ?_ (unhide HR).1 _ ?_ _ ?_ <;> rfl
  rw [if_neg h3] at HO4
  have hk3 : (k == 3) = false := by simpa using h3
  have HVV : Hid ((Value.agg #[.string x, .string y, .slice vo fs.length vc, .string ⟨#[]⟩]) = .agg #[.string (mk o.1.1), .string (mk o.1.2.1), .slice vo fs.length vc, .string (mk o.1.2.2.2)] ∧ o.2.1 = (n : Int) ∧ o.2.2 = 0 ∧ o.1.2.2.1 = fs) := hide (by
    rw [← unhide HO4]
    dsimp only [On.tellQ]
    exact ⟨by rw [(unhide HXY).1, (unhide HXY).2]; rfl, by simp, rfl, rfl⟩)
  obtain ⟨l1, hbel, hown⟩ := (unhide H4).put x y vo fs.length vc ⟨#[]⟩
  have L1 := hide l1
  have HBL := hide hbel
  have HOW := hide (own_mono2 (hown _ _ _ _ _ _ (by omega) (unhide O4)) (show w.heap.size ≤ wx.heap.size by omega))
  clear l1 hbel hown HO4 HZ HXY O4 h2 h3 HSG
  go_wp2_with fail
  (try simp only [Exit.inBlock, Exit.then])
  refine bodyPost_ret_by (v := .tuple #[.agg #[.string x, .string y, .slice vo fs.length vc, .string ⟨#[]⟩], .int .i64 n, .int .i64 0]) ?_ rfl ⟨.slice vo fs.length vc, by rw [← (unhide HVV).1, (unhide HVV).2.1, (unhide HVV).2.2.1], by rw [(unhide HVV).2.2.2]; exact unhide HOW, unhide HBL⟩
  refine results_ctt9 (p := 4) (u := 5) (u' := 6) (ty := 30) ?_ _ _ (w.heap.size + 1) _ ?_ (unhide L1) _ ?_ _ ?_ <;> rfl
theorem rone_b (s : ByteArray) (hd bd ar : Int) (w : World) (hs : s.size ≤ 1048576) (h : On.bnd hd bd ar = 0) (o : On.Rq × Int × Int) (ho : On.tellQ (On.oneB hd bd ar s.data.toList) = o) :
    Calls Tryz.prog 10 #[.string s, bndV hd bd ar] w fun e w' => ∃ v, e = .returned (.tuple #[.agg #[.string (mk o.1.1), .string (mk o.1.2.1), v, .string (mk o.1.2.2.2)], .int .i64 o.2.1, .int .i64 o.2.2]) ∧ w'.ownsRow w.heap.size 73 2 v o.1.2.2.1.length (cellsF o.1.2.2.1) ∧ Below w.heap.size w w' := by
  obtain ⟨⟨h1, h2⟩, h3, _⟩ := On.bnd_ok h
  obtain ⟨hn, rfl⟩ : ∃ q : Nat, hd = q := ⟨hd.toNat, by omega⟩
  unfold On.oneB at ho
  rw [if_neg (by simpa using h), Int.toNat_natCast] at ho
  exact rone_any s hn bd ar w hs (by omega) h3 _ ho
end Go.Proofs.YtjpclmkekmkddaaGreatDoor
