/- Walks of quoting: plain, appendQuoted, Quote. -/
import Derived.Test.YtemkbobofoimaaaDoorChecked
import Derived.Test.YtemkbobofoimaaaDoorQt
import Derived.WalkKit
import Derived.WalkSpells
import Derived.Lib.AppendStr
import Derived.Deep.RegionLaw
import Derived.Laws.BytesString
namespace Go.Proofs.YtemkbobofoimaaaDoor
open Go.RowKit
set_option linter.unusedVariables false

theorem hid {p : Prop} (h : p) : Hid p := h
theorem ret_bool {a b : Bool} (h : a = b) : Ending.returned (.bool a) = .returned (.bool b) := by rw [h]

/-- bytes as cells -/
def cells (l : List UInt8) : List Value := l.map fun b => Value.int .u8 b.toNat
theorem cells_append (a b : List UInt8) : cells (a ++ b) = cells a ++ cells b := by simp [cells]
theorem cells_length (l : List UInt8) : (cells l).length = l.length := by simp [cells]
theorem cells_one (l : List UInt8) : ∀ u ∈ cells l, u.oneCell' = true := by
  intro u hu; simp only [cells, List.mem_map] at hu; obtain ⟨b, _, rfl⟩ := hu; rfl

set_option maxHeartbeats 400000 in
theorem plain_any (c : UInt8) (w : World) :
    Calls Tryd.prog 51 #[.int .u8 c.toNat] w fun e w' => e = .returned (.bool (Qt.plain c)) ∧ w' = w := by
  have hc := c.toNat_lt
  have H : Hid (Qt.plain c = (decide (33 ≤ c.toNat) && decide (c.toNat ≤ 126))) := by
    show _ = _
    unfold Qt.plain; simp [UInt8.le_iff_toNat_le]
  by_cases h1 : 33 ≤ c.toNat
  · by_cases h2 : c.toNat ≤ 126
    · go_enter Tryd.func51, Tryd.ntmps51
      go_wp2
      go_ret
      exact ⟨ret_bool (by rw [H.out, decide_eq_true h1, decide_eq_true h2]; simp; omega), rfl⟩
    · go_enter Tryd.func51, Tryd.ntmps51
      go_wp2
      go_ret
      exact ⟨ret_bool (by rw [H.out, decide_eq_true h1, decide_eq_false h2]; simp; omega), rfl⟩
  · go_enter Tryd.func51, Tryd.ntmps51
    go_wp2
    go_ret
    exact ⟨ret_bool (by rw [H.out, decide_eq_false h1]; simp), rfl⟩

theorem Tryd.infoU8 : (Tryd.prog.info? 5).map (fun i => (i.zero, i.size, i.bytes)) = some (some (.int .u8 0), 1, 1) := by kernel_rfl

/-- 'append' onto a row of the call's own, as a step of a region that draws its order -/
theorem step_append_owned {P : Program} {ops : Array Oper} {o : Oper} {a : Act} {w : World} {K : Act → World → Prop} {Q : Exit → Act → World → Prop} {E : Prop}
    (hg : o.guard = none) (s x : Operand) (t : TypeId) (hop : o.op = Op.call { callee := Callee.builtin Builtin.append, args := #[s, x], argTypes := #[t, t] })
    (base : Nat) (e : TypeId) (i : TypeInfo) (z : Value) (size bytes : Nat) (h1 : P.underlying t = some (.slice e)) (h2 : P.info? e = some i) (h3 : i.zero = some z) (h4 : i.size = size) (h5 : i.bytes = bytes) (h6 : z.cells.size = size) (h7 : 0 < size)
    (v : Value) (n : Nat) (xs : List Value) (hs : a.eval s = v) (hown : w.ownsRow base e size v n xs)
    (ad : Addr) (m c : Nat) (news : List Value) (hx : a.eval x = .slice (some ad) m c) (hn : news.length = m * size) (hc : ∀ j u, news[j]? = some u → w.cell? (ad.add j) = some u) (h1c : ∀ u ∈ news, u.oneCell' = true)
    (b1 : n + m ≤ maxLen) (b2 : (n + m) * bytes ≤ 140737488355328) (hb : base ≤ w.heap.size)
    (hK : ∀ v' w', w'.ownsRow base e size v' (n + m) (xs ++ news) → w.grownBy w' v.ownBlock → K (a.put o.dst v') w') :
    if Region.wanted o (yielded ops a.tmps) = true then Oper.wp P o a w K Q else E := by
  have hw : Region.wanted o (yielded ops a.tmps) = true := by simp [Region.wanted, hg]
  rw [if_pos hw]
  obtain ⟨v', w', hrun, r1, r2, _⟩ := run_append_own (P := P) w base t o.type e i z size bytes h1 h2 h3 h4 h5 h6 h7 v n xs hown ad m c news hn hc h1c b1 b2 hb
  unfold Oper.wp
  simp [execOp, hop, resolve, invoke, builtin, hs, hx, hrun, Result.andThen]
  exact hK v' w' r1 r2

theorem and15 (c : UInt8) : bits BinOp.and IntKind.u8 (c.toNat : Int) 15 = (c.toNat : Int) % 16 := by
  have := Qt.all_u8 (p := fun c => bits BinOp.and IntKind.u8 (c.toNat : Int) 15 == (c.toNat : Int) % 16) (by decide +kernel) c
  simpa using this

theorem cell_four_new (w : World) (a b c d : Value) (t : TypeId) : ∀ j u, [a, b, c, d][j]? = some u → (w.alloc (.cells #[a, b, c, d] t)).cell? ((⟨w.heap.size, 0, none⟩ : Addr).add j) = some u := by
  intro j u hj
  rw [Addr.add_lit, Nat.zero_add, World.cell?_alloc_new w _ _ j]
  simpa using hj

theorem tab_hx : ∀ k : Fin 16, (({ data := #[48, 49, 50, 51, 52, 53, 54, 55, 56, 57, 97, 98, 99, 100, 101, 102] } : ByteArray)[k.1]'(k.2)) = Qt.hx (UInt8.ofNat k.1) := by decide
theorem tab_at (z : Int) (k : UInt8) (hz : z = k.toNat) (hb : z.toNat < 16) : (({ data := #[48, 49, 50, 51, 52, 53, 54, 55, 56, 57, 97, 98, 99, 100, 101, 102] } : ByteArray)[z.toNat]'hb) = Qt.hx k := by
  subst hz
  have := tab_hx ⟨k.toNat, by simpa using hb⟩
  simpa using this

theorem ne_of_nat {c : UInt8} {k : Nat} (hk : k < 256) (h : ¬ c.toNat = k) : c ≠ UInt8.ofNat k := by
  intro e; subst e; simp [UInt8.toNat_ofNat', Nat.mod_eq_of_lt hk] at h
theorem eq_of_nat {c : UInt8} {k : Nat} (h : c.toNat = k) : c = UInt8.ofNat k := by subst h; simp

/-- the byte is written in base 16 -/
theorem own_hex {c : UInt8} (h10 : ¬ c.toNat = 10) (h13 : ¬ c.toNat = 13) (h9 : ¬ c.toNat = 9) (h32 : ¬ c.toNat = 32) (h92 : ¬ c.toNat = 92) (hp : Qt.plain c = false) (p1 : ((c.toNat : Int) / 16).toNat < 16) (p2 : ((c.toNat : Int) % 16).toNat < 16) :
    [Value.int .u8 92, Value.int .u8 120, Value.int .u8 ((({ data := #[48, 49, 50, 51, 52, 53, 54, 55, 56, 57, 97, 98, 99, 100, 101, 102] } : ByteArray)[((c.toNat : Int) / 16).toNat]'p1).toNat : Int),
      Value.int .u8 ((({ data := #[48, 49, 50, 51, 52, 53, 54, 55, 56, 57, 97, 98, 99, 100, 101, 102] } : ByteArray)[((c.toNat : Int) % 16).toNat]'p2).toNat : Int)] = cells (Qt.q1 c) ∧ (Qt.q1 c).length = 4 := by
  have e : Qt.q1 c = [92, 120, Qt.hx (c / 16), Qt.hx (c % 16)] := by
    unfold Qt.q1
    rw [if_neg (show c ≠ 10 from ne_of_nat (by decide) h10), if_neg (show c ≠ 13 from ne_of_nat (by decide) h13), if_neg (show c ≠ 9 from ne_of_nat (by decide) h9), if_neg (show c ≠ 32 from ne_of_nat (by decide) h32), if_neg (show c ≠ 92 from ne_of_nat (by decide) h92), if_pos hp]
  rw [e, tab_at _ (c / 16) (by simp) p1, tab_at _ (c % 16) (by simp) p2]
  exact ⟨rfl, rfl⟩
theorem own_self {c : UInt8} (h10 : ¬ c.toNat = 10) (h13 : ¬ c.toNat = 13) (h9 : ¬ c.toNat = 9) (h32 : ¬ c.toNat = 32) (h92 : ¬ c.toNat = 92) (hp : Qt.plain c = true) : Qt.q1 c = [c] := by
  unfold Qt.q1
  rw [if_neg (show c ≠ 10 from ne_of_nat (by decide) h10), if_neg (show c ≠ 13 from ne_of_nat (by decide) h13), if_neg (show c ≠ 9 from ne_of_nat (by decide) h9), if_neg (show c ≠ 32 from ne_of_nat (by decide) h32), if_neg (show c ≠ 92 from ne_of_nat (by decide) h92), if_neg (by simp [hp])]

theorem own_lt {w : World} {B e size n : Nat} {v : Value} {xs : List Value} (h : w.ownsRow B e size v n xs) : ∀ k, v.ownBlock = some k → B ≤ k := fun k hk => (h.lt k hk).1

set_option maxHeartbeats 2000000 in
theorem appendQuoted_any (v : Value) (n B : Nat) (xs : List UInt8) (c : UInt8) (w : World) (hB : B ≤ w.heap.size) (hn : n ≤ 1099511627776) (hown : w.ownsRow B 5 1 v n (cells xs)) :
    Calls Tryd.prog 35 #[v, .int .u8 c.toNat] w fun e w' => ∃ v', e = .returned v' ∧ w'.ownsRow B 5 1 v' (n + (Qt.q1 c).length) (cells (xs ++ Qt.q1 c)) ∧ Below B w w' := by
  obtain ⟨i0, hi, hz0, hz1, hz2⟩ := info_parts Tryd.infoU8
  have hc := c.toNat_lt
  have OWN := hid hown
  clear hown
  have b1 : n + 2 ≤ maxLen := by unfold maxLen; omega
  have b2 : n + 2 ≤ 140737488355328 := by omega
  have b3 : n + 1 ≤ maxLen := by unfold maxLen; omega
  have b4 : (n + 1) * 1 ≤ 140737488355328 := by omega
  by_cases h10 : c.toNat = 10
  · have hc' : (c.toNat : Int) = 10 := by omega
    have Q := hid (show Qt.q1 c = [92, 110] by rw [eq_of_nat h10]; rfl)
    rw [hc']
    clear hc'
    go_enter Tryd.func35, Tryd.ntmps35
    go_wp2_with (at_builtin; go_must (refine Lib.wpList_append_own_string _ rfl _ _ 37 9 rfl B 5 i0 Tryd.underlying37 Tryd.underlying9 hi hz0 hz1 hz2 v n (cells xs) rfl OWN.out ⟨#[92, 110]⟩ rfl b1 b2 hB ?_); intro v1 w1 own1 grow1 _)
    go_ret
    refine ⟨v1, rfl, ?_, (Below.refl B _).grown grow1 hB (own_lt OWN.out)⟩
    rw [Q.out, cells_append]; exact own1
  by_cases h13 : c.toNat = 13
  · have hc' : (c.toNat : Int) = 13 := by omega
    have Q := hid (show Qt.q1 c = [92, 114] by rw [eq_of_nat h13]; rfl)
    rw [hc']
    clear hc'
    go_enter Tryd.func35, Tryd.ntmps35
    go_wp2_with (at_builtin; go_must (refine Lib.wpList_append_own_string _ rfl _ _ 37 9 rfl B 5 i0 Tryd.underlying37 Tryd.underlying9 hi hz0 hz1 hz2 v n (cells xs) rfl OWN.out ⟨#[92, 114]⟩ rfl b1 b2 hB ?_); intro v1 w1 own1 grow1 _)
    go_ret
    refine ⟨v1, rfl, ?_, (Below.refl B _).grown grow1 hB (own_lt OWN.out)⟩
    rw [Q.out, cells_append]; exact own1
  by_cases h9 : c.toNat = 9
  · have hc' : (c.toNat : Int) = 9 := by omega
    have Q := hid (show Qt.q1 c = [92, 116] by rw [eq_of_nat h9]; rfl)
    rw [hc']
    clear hc'
    go_enter Tryd.func35, Tryd.ntmps35
    go_wp2_with (at_builtin; go_must (refine Lib.wpList_append_own_string _ rfl _ _ 37 9 rfl B 5 i0 Tryd.underlying37 Tryd.underlying9 hi hz0 hz1 hz2 v n (cells xs) rfl OWN.out ⟨#[92, 116]⟩ rfl b1 b2 hB ?_); intro v1 w1 own1 grow1 _)
    go_ret
    refine ⟨v1, rfl, ?_, (Below.refl B _).grown grow1 hB (own_lt OWN.out)⟩
    rw [Q.out, cells_append]; exact own1
  by_cases h32 : c.toNat = 32
  · have hc' : (c.toNat : Int) = 32 := by omega
    have Q := hid (show Qt.q1 c = [92, 115] by rw [eq_of_nat h32]; rfl)
    rw [hc']
    clear hc'
    go_enter Tryd.func35, Tryd.ntmps35
    go_wp2_with (at_builtin; go_must (refine Lib.wpList_append_own_string _ rfl _ _ 37 9 rfl B 5 i0 Tryd.underlying37 Tryd.underlying9 hi hz0 hz1 hz2 v n (cells xs) rfl OWN.out ⟨#[92, 115]⟩ rfl b1 b2 hB ?_); intro v1 w1 own1 grow1 _)
    go_ret
    refine ⟨v1, rfl, ?_, (Below.refl B _).grown grow1 hB (own_lt OWN.out)⟩
    rw [Q.out, cells_append]; exact own1
  by_cases h92 : c.toNat = 92
  · have hc' : (c.toNat : Int) = 92 := by omega
    have Q := hid (show Qt.q1 c = [92, 92] by rw [eq_of_nat h92]; rfl)
    rw [hc']
    clear hc'
    go_enter Tryd.func35, Tryd.ntmps35
    go_wp2_with (at_builtin; go_must (refine Lib.wpList_append_own_string _ rfl _ _ 37 9 rfl B 5 i0 Tryd.underlying37 Tryd.underlying9 hi hz0 hz1 hz2 v n (cells xs) rfl OWN.out ⟨#[92, 92]⟩ rfl b1 b2 hB ?_); intro v1 w1 own1 grow1 _)
    go_ret
    refine ⟨v1, rfl, ?_, (Below.refl B _).grown grow1 hB (own_lt OWN.out)⟩
    rw [Q.out, cells_append]; exact own1
  by_cases hp : Qt.plain c = true
  · have HP := hid (plain_any c w)
    rw [hp] at HP
    have Q := hid (own_self h10 h13 h9 h32 h92 hp)
    clear hp
    go_enter Tryd.func35, Tryd.ntmps35
    go_wp2_with (first | (go_at_call 51; refine HP.out.mono ?_; rintro e wx ⟨rfl, rfl⟩) | (at_builtin; refine wpList_append_own _ rfl _ _ 37 rfl B 5 i0 (.int .u8 0) 1 1 Tryd.underlying37 hi hz0 hz1 hz2 rfl (by decide) v n (cells xs) rfl (OWN.out.alloc _) _ 1 1 _ rfl rfl (cell_one_new _ _ _) (by simp [Value.oneCell']) b3 b4 (by simp; omega) ?_; intro v1 w1 own1 grow1 _))
    go_ret
    refine ⟨v1, rfl, ?_, ((Below.refl B _).alloc hB _).grown grow1 (by simp; omega) (own_lt OWN.out)⟩
    rw [Q.out, cells_append]; exact own1
  · have hp' : Qt.plain c = false := by simpa using hp
    have HP := hid (plain_any c w)
    rw [hp'] at HP
    have Q := hid (@own_hex c h10 h13 h9 h32 h92 hp')
    clear hp hp'
    have hq : 0 ≤ (c.toNat : Int) / 16 ∧ (c.toNat : Int) / 16 < 16 := by omega
    have hr : 0 ≤ (c.toNat : Int) % 16 ∧ (c.toNat : Int) % 16 < 16 := by omega
    have hand := and15 c
    go_enter Tryd.func35, Tryd.ntmps35
    go_wp2_with (go_at_call 51; refine HP.out.mono ?_; rintro e wx ⟨rfl, rfl⟩)
    go_region_law (refine step_append_owned rfl (.tmp 34) (.tmp 41) 37 rfl B 5 i0 (.int .u8 0) 1 1 Tryd.underlying37 hi hz0 hz1 hz2 rfl (by decide) v n (cells xs) rfl (OWN.out.drew.alloc _) _ 4 4 _ rfl rfl (cell_four_new _ _ _ _ _ _) (by simp [Value.oneCell']) (by unfold maxLen; omega) (by omega) (by simp; omega) ?_; intro v1 w1 own1 grow1)
    all_goals
      go_wp2
      go_ret
      obtain ⟨q1, q2⟩ := Q.out (by omega) (by omega)
      refine ⟨v1, rfl, ?_, ?_⟩
      · rw [q2, cells_append, ← q1]; exact own1
      · exact (((Below.refl B _).alloc hB _).drew).grown grow1 (by simp; omega) (own_lt OWN.out)
end Go.Proofs.YtemkbobofoimaaaDoor
