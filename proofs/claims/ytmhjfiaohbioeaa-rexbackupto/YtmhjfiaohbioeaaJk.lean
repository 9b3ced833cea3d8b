/- How the program writes expressions: Print. -/
import Derived.Test.YtmhjfiaohbioeaaJg
import Derived.Test.YtmhjfiaohbioeaaJh
import Derived.Test.YtmhjfiaohbioeaaJi
import Derived.Test.YtmhjfiaohbioeaaJe
namespace Go.Proofs.Ytmhjfiaohbioeaa
open Go.RowKit Kb Pop
set_option linter.unusedVariables false
set_option maxRecDepth 20000

theorem ar_any (x : Ex) : AR x := by
  induction x with
  | none => exact ar_none
  | emp => exact ar_emp
  | byte s => exact ar_byte s
  | cat a b ha hb => exact ar_cat a b ha hb
  | alt a b ha hb => exact ar_alt a b ha hb
  | star a ha => exact ar_star a ha
  | beg => exact ar_beg
  | en => exact ar_en
/-- the text that Print tells -/
def PrintP (ck : Int) (r : Rx) (q : ByteArray) : Prop := (ck ≠ 0 → q = ⟨#[]⟩) ∧ (∀ x : Ex, r = x.rx → ck = 0 → q = mk x.tx)
set_option maxHeartbeats 1000000 in
theorem Print_any (r : Rx) (v : Value) (w : World) (hV : RexV w v r) :
    Calls Try.prog 8 #[v] w fun e w' => ∃ q : ByteArray, e = .returned (.tuple #[.string q, .int .i64 (chkR r)]) ∧ PrintP (chkR r) r q ∧ Below w.heap.size w w' := by
  have HC := hide (fun W b => Check_any r v W (hV.below b))
  have HA : Hid (chkR r = 0 → ∃ x : Ex, r = x.rx ∧ ∀ W, Below w.heap.size w W → Calls Try.prog 19 #[.slice none 0 0, v] W fun e w' => ∃ v', e = .returned v' ∧ w'.ownsRow w.heap.size 5 1 v' x.tx.length (cells x.tx) ∧ Below w.heap.size w w') := hide (fun h => by
    obtain ⟨x, h1, h2, _, _⟩ := chk_ex h hV
    refine ⟨x, h1, fun W b => ?_⟩
    subst h1
    refine (ar_any x w v (.slice none 0 0) 0 [] W hV b (World.ownsRow_nil W _ _ _) (by omega)).mono ?_
    rintro e w' ⟨v', rfl, o, k⟩
    exact ⟨v', rfl, by simpa using o, b.trans k.1⟩)
  obtain ⟨t, ht, hk⟩ := hV.val
  obtain ⟨o, c, rfl, _⟩ := hk.form
  obtain ⟨ck, hck⟩ : ∃ ck, chkR r = ck := ⟨_, rfl⟩
  rw [hck] at HC HA ⊢
  clear hck
  obtain ⟨k, ⟨s1, s2, s3, s4⟩, ks⟩ := r
  subst ht
  unfold rexV at *
  simp only [Rx.k, Rx.s, Rx.ks] at *
  have hb0 : Hid (Below w.heap.size w (w.alloc (.cells #[.int .i64 k, .int .u64 s1, .int .u64 s2, .int .u64 s3, .int .u64 s4, .slice o ks.length c] 27))) := hide ((Below.refl _ _).alloc (Nat.le_refl _) _)
  obtain ⟨W0, hW0⟩ : ∃ W0, w.alloc (.cells #[.int .i64 k, .int .u64 s1, .int .u64 s2, .int .u64 s3, .int .u64 s4, .slice o ks.length c] 27) = W0 := ⟨_, rfl⟩
  rw [hW0] at hb0
  have HZ : Hid (∀ j x, (#[.int .i64 k, .int .u64 s1, .int .u64 s2, .int .u64 s3, .int .u64 s4, .slice o ks.length c] : Array Value)[j]? = some x → W0.cell? ⟨w.heap.size, j, none⟩ = some x) := hide (fun j x h => by rw [← hW0, World.cell?_alloc_new]; exact h)
  have hsz : w.heap.size < W0.heap.size := by rw [← hW0]; simp
  have z0 := (unhide HZ) 0 _ rfl
  have z1 := (unhide HZ) 1 _ rfl
  have z2 := (unhide HZ) 2 _ rfl
  have z3 := (unhide HZ) 3 _ rfl
  have z4 := (unhide HZ) 4 _ rfl
  have z5 := (unhide HZ) 5 _ rfl
  clear hV hk
  go_enter Try.func8, Try.ntmps8
  go_wp2_with fail
  clear hW0
  refine ((unhide HC) W0 (unhide hb0)).mono ?_
  rintro e w2 ⟨rfl, b2⟩
  have B2 := hide (bel_trans (unhide hb0) b2)
  have y0 := cell_below z0 hsz b2
  have y1 := cell_below z1 hsz b2
  have y2 := cell_below z2 hsz b2
  have y3 := cell_below z3 hsz b2
  have y4 := cell_below z4 hsz b2
  have y5 := cell_below z5 hsz b2
  clear b2 z0 z1 z2 z3 z4 z5 HZ HC
  by_cases h0 : ck = 0
  · obtain ⟨x, hx, hcall⟩ := (unhide HA) h0
    have HX := hide hx
    have HCA := hide (hcall w2 (unhide B2))
    clear hx hcall HA
    subst h0
    go_wp2_with fail
    refine (unhide HCA).mono ?_
    rintro e w3 ⟨v3, rfl, o3, b3⟩
    have hcv := own_string o3
    have O3 := hide o3
    have B3 := hide b3
    clear o3 b3 HCA
    go_wp2_with fail
    go_ret2
    exact ⟨mk x.tx, rfl, ⟨fun h => absurd rfl h, fun y hy _ => by rw [rx_inj x y ((unhide HX).symm.trans hy)]⟩, unhide B3⟩
  · have hb : (ck != 0) = true := by simpa using h0
    have H0 := hide h0
    clear h0 HA
    go_wp2_with fail
    go_ret2
    exact ⟨⟨#[]⟩, rfl, ⟨fun _ => rfl, fun y _ h => absurd h (unhide H0)⟩, unhide B2⟩
end Go.Proofs.Ytmhjfiaohbioeaa
