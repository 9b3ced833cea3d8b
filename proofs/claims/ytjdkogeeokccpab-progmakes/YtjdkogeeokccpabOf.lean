/- Two rows of instructions that are the same. -/
import Derived.Test.YtjdkogeeokccpabOe
namespace Go.Proofs.Ytjdkogeeokccpab
open Go.RowKit Kb
set_option linter.unusedVariables false
set_option maxRecDepth 20000

theorem sameSet (n : Nat) (a b c d : Int) (w : World) : (Op.equalIn (n + 2) 24 (.agg #[.int .u64 a, .int .u64 b, .int .u64 c, .int .u64 d]) (.agg #[.int .u64 a, .int .u64 b, .int .u64 c, .int .u64 d])).run Try.prog w = .ok true w := by
  have he := Try.underlying22
  have hsz : ∀ w, (Go.sizeOf 22).run Try.prog w = .ok 1 w := fun w => by kernel_rfl
  have pe : ∀ x y : Int, (Op.equalIn (n + 1) 22 (.int .u64 x) (.int .u64 y)).run Try.prog w = .ok (x == y) w := fun x y => run_equalIn_int w n _ .u64 .u64 x y he
  rw [Op.equalIn]
  simp only [Sem.run_bind, run_underlying Try.underlying24, Result.andThen_ok, hsz, Std.Legacy.Range.forIn_eq_forIn_range', Std.Legacy.Range.size, Nat.sub_zero, Nat.add_sub_cancel, Nat.div_one, show List.range' 0 4 1 = [0, 1, 2, 3] from rfl, List.forIn_cons]
  simp [part, isAgg, run_underlying he, pe]
set_option maxHeartbeats 8000000 in
theorem equal_insts (w : World) (B C : Nat) (v u : Value) (l : List In) (h1 : OwnJ B l w v) (h2 : OwnJ C l w u) (hl : l.length ≤ 1000000) :
    Calls Try.prog 7 #[v, u] w fun e w' => e = .returned (.bool true) ∧ Below w.heap.size w w' := by
  obtain ⟨o1, c1, rfl⟩ := own_forms h1
  obtain ⟨o2, c2, rfl⟩ := own_forms h2
  have H1 := hide h1
  have H2 := hide h2
  clear h1 h2
  go_enter Try.func7, Try.ntmps7
  go_wp2_with fail
  go_loopw [13] (fun x wr => ∃ j : Nat, x = .int .i64 j ∧ j ≤ l.length ∧ Below w.heap.size w wr) (fun x _ => l.length - (intOf x).toNat)
  case atStart => exact ⟨0, rfl, Nat.zero_le _, Below.refl _ _⟩
  case round =>
    obtain ⟨j, rfl, hj, hb⟩ := hrel
    have HB := hide hb
    clear hb
    by_cases hlt : j < l.length
    · obtain ⟨⟨x0, xa, xb, ⟨s1, s2, s3, s4⟩⟩, hx⟩ : ∃ x, l[j]? = some x := ⟨l[j], List.getElem?_eq_getElem hlt⟩
      obtain ⟨g1, cc1, he1, _, _, a0, a1, a2, a3, a4, a5, a6⟩ := OwnJ.at_ (own_below (unhide H1) (unhide HB)) hx
      obtain ⟨g2, cc2, he2, _, _, b0, b1, b2, b3, b4, b5, b6⟩ := OwnJ.at_ (own_below (unhide H2) (unhide HB)) hx
      cases he1
      cases he2
      dsimp only at *
      have ps := sameSet 9997 s1 s2 s3 s4
      rw [show 9997 + 2 = 9999 from rfl] at ps
      have hI : (j : Int) < l.length := by omega
      clear hx
      go_wp2_with fail
      go_quiet (fail)
      go_wp2
      exact ⟨⟨j + 1, by go_num, by omega, Go.below_drewN (unhide HB) _⟩, by simp [intOf]; omega⟩
    · obtain rfl : j = l.length := by omega
      go_wp2
      go_ret
      exact ⟨rfl, unhide HB⟩

set_option maxHeartbeats 1000000 in
theorem Code_any (x : Ex) (v : Value) (w : World) (hV : RexV w v x.rx) (hn : x.nodes ≤ 80) :
    Calls Try.prog 8 #[v] w fun e w' => ∃ q, e = .returned q ∧ OwnJ w.heap.size (cdx x 0 ++ [⟨6, 0, 0, ⟨0, 0, 0, 0⟩⟩]) w' q ∧ Below w.heap.size w w' := by
  have HC := hide (fun W b => dc_any x W v 0 (hV.below b) (by omega))
  have hlen := cdx_len x 0
  obtain ⟨t, ht, hk⟩ := hV.val
  obtain ⟨o, c, rfl, _⟩ := hk.form
  obtain ⟨k, hx0⟩ : ∃ z, x.rx.k = z := ⟨_, rfl⟩
  obtain ⟨⟨s1, s2, s3, s4⟩, hx1⟩ : ∃ z, x.rx.s = z := ⟨_, rfl⟩
  obtain ⟨l1, hl1⟩ : ∃ z, x.rx.ks.length = z := ⟨_, rfl⟩
  unfold rexV at ht
  rw [hx0, hx1, hl1] at ht
  dsimp only at ht
  subst ht
  clear hx0 hx1 hl1 hk hV
  have B0 : Hid (Below w.heap.size w (w.alloc (.cells #[.int .i64 k, .int .u64 s1, .int .u64 s2, .int .u64 s3, .int .u64 s4, .slice o l1 c] 27))) := hide ((Below.refl _ _).alloc (Nat.le_refl _) _)
  go_enter Try.func8, Try.ntmps8
  go_wp2_with fail
  refine ((unhide HC) _ (unhide B0)).mono ?_
  rintro e w3 ⟨v3, rfl, o3, b3⟩
  have B3 := hide (bel_trans (unhide B0) b3)
  have R3 := hide (RowJ.start (B := w.heap.size) (own_base' o3 (unhide B0).size) (unhide B3).size)
  clear o3 b3 HC
  go_wp2_with (at_builtin; go_loud (
               refine app_in rfl _ _ rfl rfl ((unhide R3).lay _) [⟨6, 0, 0, ⟨0, 0, 0, 0⟩⟩] _ _ rfl (news_lay ((unhide R3).lay _) ⟨6, 0, 0, ⟨0, 0, 0, 0⟩⟩ List.mem_cons_self) (by simp; omega) ?_; intro v4 w4 R4))
  go_ret
  exact ⟨v4, rfl, R4.own, (unhide B3).trans R4.gw.1⟩
end Go.Proofs.Ytjdkogeeokccpab
