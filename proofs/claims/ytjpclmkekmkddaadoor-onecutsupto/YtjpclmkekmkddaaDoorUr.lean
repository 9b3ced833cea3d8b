/- Bytes that come in pieces: plain, and the remainder. -/
import Derived.Test.YtjpclmkekmkddaaDoorUC
namespace Go.Proofs.YtjpclmkekmkddaaDoor
open Go.RowKit Kb
set_option linter.unusedVariables false
set_option maxRecDepth 20000
theorem rest_big2 (n m : Int) (hn : -9223372036854775808 ≤ n ∧ n ≤ 9223372036854775807) (hm : 0 < m) (hm2 : m ≤ 1099511627776) (w : World) :
    Calls Tryd.prog 13 #[.int .i64 n, .int .i64 m] w fun e w' => e = .returned (.int .i64 (n % m)) ∧ w' = w := by
  have h1 : Int.tmod n m = if n % m = 0 then 0 else if 0 ≤ n then n % m else n % m - m := by
    rcases Int.lt_or_le n 0 with h | h
    · have e := Int.tmod_eq_emod (a := n) (b := m)
      rw [e]
      by_cases hd : m ∣ n
      · have : n % m = 0 := Int.emod_eq_zero_of_dvd hd
        simp [this, hd]
      · have h0 : n % m ≠ 0 := fun e => hd (Int.dvd_of_emod_eq_zero e)
        rw [if_neg (by rintro (h' | h'); omega; exact hd h'), if_neg h0, if_neg (by omega)]
        omega
    · rw [Int.tmod_eq_emod_of_nonneg h, if_pos h]; split <;> omega
  have hb := Int.emod_nonneg n (by omega : m ≠ 0)
  have hb2 := Int.emod_lt_of_pos n hm
  obtain ⟨r, hr⟩ : ∃ r, n % m = r := ⟨_, rfl⟩
  rw [hr] at h1 hb hb2 ⊢
  obtain ⟨t, ht⟩ : ∃ t, Int.tmod n m = t := ⟨_, rfl⟩
  rw [ht] at h1
  have hm0 : ¬ m = 0 := by omega
  have hw : IntKind.i64.wrap t = t := by rw [IntKind.wrap_i64]; split at h1 <;> (try split at h1) <;> omega
  have H1 := hide h1
  by_cases hneg : t < 0
  · have hs : t + m = r := by rw [unhide H1]; split at h1 <;> (try split at h1) <;> omega
    clear h1
    go_enter Tryd.func13, Tryd.ntmps13
    go_wp2_with fail
    go_ret
    exact ⟨rfl, rfl⟩
  · have hs : t = r := by rw [unhide H1]; split at h1 <;> (try split at h1) <;> omega
    clear h1
    subst hs
    go_enter Tryd.func13, Tryd.ntmps13
    go_wp2_with fail
    go_ret
    exact ⟨rfl, rfl⟩
namespace On
open Mh (Fl)
theorem all_count {hd : Nat} {bd : Int} (h0 : 0 ≤ bd) (s : L8) : (all hd bd s).1.length ≤ s.length :=
  all_ind h0 (P := fun s r => r.1.length ≤ s.length) (fun _ _ h => Nat.zero_le _) (fun s _ n hh h => by
    obtain ⟨h1, h2, _⟩ := one_ok h0 hh
    rw [List.length_drop] at h; rw [List.length_cons]; omega) s
/-- what stands when some bytes have come -/
def CutI (hd : Nat) (bd : Int) (S t : L8) (m : List Rq) (f : Int) (xr : L8) (xo : Int) : Prop :=
  (f = 0 ∧ xo = 0 ∧ ∃ d, S = d ++ t ∧ all hd bd d = (m, xr, 7)) ∨ (f ≠ 0 ∧ f ≠ 7 ∧ xo = f ∧ xr = [] ∧ (all hd bd S).1 = m ∧ (all hd bd S).2.2 = f)
theorem cut_start {hd : Nat} {bd : Int} (h30 : 30 ≤ hd) (S : L8) : CutI hd bd S S [] 0 [] 0 := by
  refine .inl ⟨rfl, rfl, [], rfl, ?_⟩
  refine all_no ?_
  unfold one headP endAt
  rw [List.take_nil, if_pos (by decide), if_neg (by simp; omega)]
theorem cut_step {hd bd ar : Int} (hb : bnd hd bd ar = 0) {S t : L8} {m : List Rq} {f : Int} {xr : L8} {xo : Int} (hS : S.length ≤ 8192) (h : CutI hd.toNat bd S t m f xr xo) (hf : f = 0) (n : Nat) (o : (L8 × Int) × List Rq × Int)
    (ho : feed hd bd ar xr xo (t.take n) = o) : CutI hd.toNat bd S (t.drop n) (m ++ o.2.1) o.2.2 o.1.1 o.1.2 ∧ o.2.1.length ≤ 16384 ∧ m.length ≤ 8192 := by
  have h0 := (bnd_ok hb).2.1.1
  rcases h with ⟨_, hxo, d, hdd, ha⟩ | ⟨h1, _⟩
  · subst hxo
    have hxl := all_len (hd := hd.toNat) h0 d
    rw [ha] at hxl
    dsimp only at hxl
    have hdl : d.length + t.length ≤ 8192 := by rw [hdd, List.length_append] at hS; exact hS
    have htl : (t.take n).length ≤ t.length := by rw [List.length_take]; omega
    unfold feed at ho
    rw [if_neg (by simpa using hb), if_neg (by omega), if_neg (by decide)] at ho
    have hm := all_more h0 (t.take n) d (by rw [ha])
    rw [ha] at hm
    dsimp only at hm
    have hc := all_count (hd := hd.toNat) h0 (xr ++ t.take n)
    rw [List.length_append] at hc
    have hmc := all_count (hd := hd.toNat) h0 d
    rw [ha] at hmc
    dsimp only at hmc
    have hS2 : S = (d ++ t.take n) ++ t.drop n := by rw [List.append_assoc, List.take_append_drop]; exact hdd
    by_cases h7 : (all hd.toNat bd (xr ++ t.take n)).2.2 = 7
    · rw [if_pos h7] at ho
      subst ho
      refine ⟨.inl ⟨rfl, rfl, d ++ t.take n, hS2, ?_⟩, by dsimp only; omega, by omega⟩
      rw [hm, h7]
    · rw [if_neg h7] at ho
      subst ho
      have hbd := all_bad h0 (t.drop n) (d ++ t.take n) (by rw [hm]; exact h7)
      rw [← hS2, hm] at hbd
      have he := all_errs (hd := hd.toNat) h0 (xr ++ t.take n)
      refine ⟨.inr ⟨by dsimp only; omega, h7, rfl, rfl, hbd.1, hbd.2⟩, by dsimp only; omega, by omega⟩
  · exact absurd hf h1
theorem cut_end {hd bd ar : Int} (hb : bnd hd bd ar = 0) {S t : L8} {m : List Rq} {f : Int} {xr : L8} {xo : Int} (hS : S.length ≤ 8192) (h : CutI hd.toNat bd S t m f xr xo) (hf : f ≠ 0 ∨ t = []) : feed hd bd ar [] 0 S = ((xr, xo), m, f) := by
  unfold feed
  rw [if_neg (by simpa using hb), if_neg (by simp; omega), if_neg (by decide), List.nil_append]
  rcases h with ⟨h1, hxo, d, hdd, ha⟩ | ⟨h1, h2, h3, h4, h5, h6⟩
  · rcases hf with hf | hf
    · exact absurd h1 hf
    · subst hf
      rw [List.append_nil] at hdd
      subst hdd h1 hxo
      rw [ha, if_pos rfl]
  · rw [if_neg (by rw [h6]; exact h2), h5, h6, h3, h4]
end On
end Go.Proofs.YtjpclmkekmkddaaDoor
