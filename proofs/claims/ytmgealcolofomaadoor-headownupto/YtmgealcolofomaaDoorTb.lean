/- Plain facts on chunks that are written: they are read as they were; beginnings ask for more. -/
import Derived.Test.YtmgealcolofomaaDoorTa
namespace Go.Proofs.YtmgealcolofomaaDoor
namespace Cu
def dg (n : Nat) : UInt8 := if n < 10 then UInt8.ofNat (48 + n) else UInt8.ofNat (87 + n)
theorem dg_dig (n : Nat) (h : n < 16) : Num.dig (dg n).toNat = n := by
  have : ∀ k : Fin 16, Num.dig (dg k.1).toNat = k.1 := by decide
  exact this ⟨n, h⟩
/-- a number in base 16, small letters, without noughts ahead -/
def hx (n : Nat) : L8 := if n < 16 then [dg n] else hx (n / 16) ++ [dg (n % 16)]
termination_by n
decreasing_by omega
theorem hx_small {n : Nat} (h : n < 16) : hx n = [dg n] := by rw [hx]; rw [if_pos h]
theorem hx_big {n : Nat} (h : ¬ n < 16) : hx n = hx (n / 16) ++ [dg (n % 16)] := by rw [hx]; rw [if_neg h]
theorem dg_x {n : Nat} (h : n < 16) : isX (dg n) = true := by unfold isX; rw [dg_dig n h]; simp
theorem hx_all (n : Nat) : ∀ x ∈ hx n, isX x = true := by
  induction n using Nat.strongRecOn with
  | ind n ih =>
    by_cases h : n < 16
    · rw [hx_small h]; intro x hx; rw [List.mem_singleton.1 hx]; exact dg_x h
    · rw [hx_big h]; intro x hx
      rcases List.mem_append.1 hx with hx | hx
      · exact ih (n / 16) (by omega) x hx
      · rw [List.mem_singleton.1 hx]; exact dg_x (by omega)
theorem hx_num (n : Nat) : Num.num 16 (hx n) = some (n : Int) := by
  induction n using Nat.strongRecOn with
  | ind n ih =>
    have st : ∀ (m : Int) (k : Nat), k < 16 → Num.step 16 (some m) (dg k) = some (m * 16 + k) := by
      intro m k hk; unfold Num.step; dsimp only; rw [dg_dig k hk, if_neg (by omega)]
    by_cases h : n < 16
    · rw [hx_small h]
      show Num.step 16 (some 0) (dg n) = _
      rw [st 0 n h]; simp
    · rw [hx_big h, Num.num_snoc, ih (n / 16) (by omega), st _ _ (by omega)]
      congr 1; omega
theorem hx_pos (n : Nat) : 1 ≤ (hx n).length := by
  by_cases h : n < 16
  · rw [hx_small h]; exact Nat.le_refl _
  · rw [hx_big h]; simp
theorem hx_len : ∀ (k n : Nat), n < 16 ^ (k + 1) → (hx n).length ≤ k + 1 := by
  intro k
  induction k with
  | zero => intro n h; rw [hx_small (by simpa using h)]; exact Nat.le_refl _
  | succ k ih =>
    intro n h
    by_cases hs : n < 16
    · rw [hx_small hs]; simp
    · rw [hx_big hs, List.length_append]
      have h2 : n / 16 < 16 ^ (k + 1) := by rw [Nat.pow_succ] at h; omega
      have := ih (n / 16) h2
      simp; omega
theorem hx_seven {n : Nat} (h : n < 268435456) : (hx n).length ≤ 7 := hx_len 6 n (by simpa using h)

/-- how many bytes a chunk of such a size has -/
def part (z : Int) (l : L8) : Nat := (min (max z 0) l.length).toNat
theorem part_le (z : Int) (l : L8) : part z l ≤ l.length := by unfold part; omega
def writ (p : L8) : L8 := if p = [] then [] else hx p.length ++ crlf ++ p ++ crlf
theorem writ_nil : writ [] = [] := if_pos rfl
theorem writ_yes {p : L8} (h : p ≠ []) : writ p = hx p.length ++ crlf ++ p ++ crlf := if_neg h
def chunked : List Int → L8 → L8
  | [], l => writ l ++ last
  | z :: r, l => writ (l.take (part z l)) ++ chunked r (l.drop (part z l))
theorem is_hx {room : Int} {p : L8} (h : p.length < 268435456) (hr : (p.length : Int) ≤ room) : Is room (hx p.length) p :=
  ⟨hx_all _, hx_pos _, hx_seven h, hx_num _, hr⟩
theorem is_last {room : Int} (h : 0 ≤ room) : Is room [48] [] := ⟨by decide, by decide, by decide, rfl, h⟩
theorem chunk_over {room : Int} {d t : L8} {n : Int} (hd : ∀ x ∈ d, isX x = true) (h1 : 1 ≤ d.length) (h7 : d.length ≤ 7) (hn : Num.num 16 d = some n) (h : room < n) : chunk room (d ++ crlf ++ t) = .error 6 := by
  have a1 := digs_line d t hd h7
  have a2 := val_line d t n hd h7 hn
  have a3 : (d ++ crlf ++ t).drop d.length = crlf ++ t := by rw [List.append_assoc, List.drop_left]
  unfold chunk
  rw [a1, a2, a3, nl_crlf, if_neg (by omega), if_neg (by simp), if_pos h]
theorem writ_len {p : L8} (h : p ≠ []) : (writ p).length = (hx p.length).length + 2 + p.length + 2 := by
  rw [writ_yes h]; simp [crlf]; omega
theorem go_writ {most : Int} {p : L8} (hp : p ≠ []) (f : Nat) (t out : L8) (at_ : Nat) (hb : p.length < 268435456) (hr : (out.length : Int) + p.length ≤ most) :
    go most (f + 1) (writ p ++ t) out at_ = go most f t (out ++ p) (at_ + (writ p).length) := by
  have hc := chunk_is (is_hx hb (show (p.length : Int) ≤ most - out.length by omega)) t
  rw [← writ_yes hp, ← writ_len hp] at hc
  rw [go, hc]
  dsimp only
  rw [if_neg hp, List.drop_left]
theorem go_last {most : Int} (f : Nat) (t out : L8) (at_ : Nat) (hr : (out.length : Int) ≤ most) : go most (f + 1) (last ++ t) out at_ = .ok (out, at_ + 5) := by
  have hc := chunk_is (is_last (show 0 ≤ most - out.length by omega)) t
  have e : ([48] ++ crlf ++ [] ++ crlf ++ t : L8) = last ++ t := rfl
  rw [e] at hc
  rw [go, hc]; rfl
/-- what is cut into chunks is read as it was -/
theorem go_back (most : Int) : ∀ (zs : List Int) (l out t : L8) (at_ f : Nat), (out.length : Int) + l.length ≤ most → l.length < 268435456 → (chunked zs l).length ≤ f →
    go most f (chunked zs l ++ t) out at_ = .ok (out ++ l, at_ + (chunked zs l).length) := by
  intro zs
  induction zs with
  | nil =>
    intro l out t at_ f hr hb hf
    unfold chunked at hf ⊢
    rw [List.length_append] at hf
    have h5 : last.length = 5 := rfl
    by_cases hl : l = []
    · subst hl
      rw [writ_nil] at hf ⊢
      obtain ⟨g, rfl⟩ : ∃ g, f = g + 1 := ⟨f - 1, by omega⟩
      rw [List.nil_append, go_last g t out at_ (by simpa using hr), List.append_nil]; rfl
    · obtain ⟨g, rfl⟩ : ∃ g, f = g + 1 + 1 := ⟨f - 2, by omega⟩
      rw [List.append_assoc, go_writ hl (g + 1) _ out at_ hb hr, go_last g t (out ++ l) _ (by simpa using hr), List.length_append, h5, Nat.add_assoc]
  | cons z r ih =>
    intro l out t at_ f hr hb hf
    unfold chunked at hf ⊢
    have hpl := part_le z l
    generalize part z l = n at *
    have hs : l.take n ++ l.drop n = l := List.take_append_drop _ _
    have hlen : (l.take n).length = n := by rw [List.length_take]; omega
    have hlen2 : (l.drop n).length = l.length - n := List.length_drop
    by_cases hp : l.take n = []
    · rw [hp, writ_nil] at hf ⊢
      have : l.drop n = l := by rw [hp] at hs; simpa using hs
      rw [this] at hf ⊢
      rw [List.nil_append] at hf ⊢
      exact ih l out t at_ f hr hb hf
    · rw [List.length_append] at hf ⊢
      have h5 := writ_len hp
      obtain ⟨g, rfl⟩ : ∃ g, f = g + 1 := ⟨f - 1, by omega⟩
      rw [List.append_assoc, go_writ hp g _ out at_ (by omega) (by omega), ih (l.drop n) (out ++ l.take n) t _ g (by rw [List.length_append]; omega) (by omega) (by omega), List.append_assoc, hs, Nat.add_assoc]
/-- with less room than there are bytes: too large -/
theorem go_over (most : Int) : ∀ (zs : List Int) (l out t : L8) (at_ f : Nat), (out.length : Int) ≤ most → most < (out.length : Int) + l.length → l.length < 268435456 → (chunked zs l).length ≤ f →
    go most f (chunked zs l ++ t) out at_ = .error 6 := by
  intro zs
  induction zs with
  | nil =>
    intro l out t at_ f h0 hr hb hf
    unfold chunked at hf ⊢
    rw [List.length_append] at hf
    have h5 : last.length = 5 := rfl
    have hl : l ≠ [] := by intro e; subst e; simp at hr; omega
    obtain ⟨g, rfl⟩ : ∃ g, f = g + 1 := ⟨f - 1, by omega⟩
    have hc := chunk_over (room := most - out.length) (t := l ++ crlf ++ (last ++ t)) (hx_all l.length) (hx_pos _) (hx_seven hb) (hx_num _) (by omega)
    rw [writ_yes hl]
    rw [show hx l.length ++ crlf ++ l ++ crlf ++ last ++ t = hx l.length ++ crlf ++ (l ++ crlf ++ (last ++ t)) by simp [List.append_assoc]]
    rw [go, hc]
  | cons z r ih =>
    intro l out t at_ f h0 hr hb hf
    unfold chunked at hf ⊢
    have hpl := part_le z l
    generalize part z l = n at *
    have hs : l.take n ++ l.drop n = l := List.take_append_drop _ _
    have hlen : (l.take n).length = n := by rw [List.length_take]; omega
    have hlen2 : (l.drop n).length = l.length - n := List.length_drop
    by_cases hp : l.take n = []
    · rw [hp, writ_nil] at hf ⊢
      have : l.drop n = l := by rw [hp] at hs; simpa using hs
      rw [this] at hf ⊢
      rw [List.nil_append] at hf ⊢
      exact ih l out t at_ f h0 hr hb hf
    · rw [List.length_append] at hf
      have h5 := writ_len hp
      obtain ⟨g, rfl⟩ : ∃ g, f = g + 1 := ⟨f - 1, by omega⟩
      by_cases hfit : (out.length : Int) + n ≤ most
      · rw [List.append_assoc, go_writ hp g _ out at_ (by omega) (by omega)]
        exact ih (l.drop n) (out ++ l.take n) t _ g (by rw [List.length_append]; omega) (by rw [List.length_append]; omega) (by omega) (by omega)
      · have hc := chunk_over (room := most - out.length) (t := l.take n ++ crlf ++ (chunked r (l.drop n) ++ t)) (hx_all (l.take n).length) (hx_pos _) (hx_seven (by omega)) (hx_num _) (by omega)
        rw [writ_yes hp]
        rw [show hx (l.take n).length ++ crlf ++ l.take n ++ crlf ++ chunked r (l.drop n) ++ t = hx (l.take n).length ++ crlf ++ (l.take n ++ crlf ++ (chunked r (l.drop n) ++ t)) by simp [List.append_assoc]]
        rw [go, hc]
theorem chunked_len : ∀ (zs : List Int) (l : L8), l.length < 268435456 → (chunked zs l).length ≤ 12 * l.length + 5 := by
  have hw : ∀ p : L8, p.length < 268435456 → (writ p).length ≤ 12 * p.length := by
    intro p hp
    by_cases h : p = []
    · subst h; rw [writ_nil]; exact Nat.zero_le _
    · have := hx_seven hp
      have := List.length_pos_iff.2 h
      rw [writ_len h]; omega
  intro zs
  induction zs with
  | nil => intro l h; unfold chunked; rw [List.length_append]; have := hw l h; have h5 : last.length = 5 := rfl; omega
  | cons z r ih =>
    intro l h
    unfold chunked
    have hpl := part_le z l
    generalize part z l = n at *
    have hlen : (l.take n).length = n := by rw [List.length_take]; omega
    have hlen2 : (l.drop n).length = l.length - n := List.length_drop
    have h1 := hw (l.take n) (by omega)
    have h2 := ih (l.drop n) (by omega)
    rw [List.length_append]; omega
theorem chunks_back (zs : List Int) (l t : L8) (h : l.length < 268435456) : chunks l.length (chunked zs l ++ t) = .ok (l, (chunked zs l).length) := by
  have := go_back (max (l.length : Int) 0) zs l [] t 0 ((chunked zs l ++ t).length + 1) (by simp; try omega) h (by simp; try omega)
  unfold chunks
  rw [this]; simp
theorem chunks_over (zs : List Int) (l t : L8) (h : l.length < 268435456) (hl : 1 ≤ l.length) : chunks ((l.length : Int) - 1) (chunked zs l ++ t) = .error 6 := by
  have := go_over (max ((l.length : Int) - 1) 0) zs l [] t 0 ((chunked zs l ++ t).length + 1) (by simp; omega) (by simp; omega) h (by simp; omega)
  unfold chunks
  rw [this]

theorem nl_cut (j : Nat) (h : j < 2) : nl (crlf.take j) = 7 := by
  rcases j with _ | _ | j
  · rfl
  · rfl
  · omega
/-- a beginning of a chunk asks for more -/
theorem chunk_cut {room : Int} {d p : L8} (h : Is room d p) (j : Nat) (hj : j < (d ++ crlf ++ p ++ crlf).length) : chunk room ((d ++ crlf ++ p ++ crlf).take j) = .error 7 := by
  have hl2 : crlf.length = 2 := rfl
  simp only [List.length_append, hl2] at hj
  have hf := h.fits
  have h1 := h.some_
  have h7 := h.seven
  by_cases a1 : j ≤ d.length
  · have e : (d ++ crlf ++ p ++ crlf).take j = d.take j ++ [] := by
      rw [List.append_nil, List.append_assoc, List.append_assoc, List.take_append_of_le_length a1]
    have hd : digs (d.take j ++ []) = (d.take j).length := digs_of _ _ (fun x hx => h.hex x (List.mem_of_mem_take hx)) (by rw [List.length_take]; omega) (fun c r h => by cases h)
    rw [e]
    unfold chunk
    rw [hd, List.append_nil, List.drop_length]
    by_cases h0 : d.take j = []
    · rw [h0]; rfl
    · rw [if_neg (by have := List.length_pos_iff.2 h0; omega), if_pos (by decide)]; rfl
  by_cases a2 : j < d.length + 2
  · have e : (d ++ crlf ++ p ++ crlf).take j = d ++ [13] := by
      obtain rfl : j = d.length + 1 := by omega
      rw [List.append_assoc, List.append_assoc, List.take_append, List.take_of_length_le (by omega), Nat.add_sub_cancel_left]; rfl
    have hd : digs (d ++ [13]) = d.length := digs_of _ _ h.hex h7 (fun c r h _ => by
      have : c = 13 := by simpa using (List.cons.inj h).1.symm
      rw [this]; exact not_x13)
    rw [e]
    unfold chunk
    rw [hd, List.drop_left, if_neg (by omega), if_pos (by decide)]; rfl
  · have e : (d ++ crlf ++ p ++ crlf).take j = d ++ crlf ++ (p ++ crlf).take (j - (d.length + 2)) := by
      rw [List.append_assoc (d ++ crlf), List.take_append, List.take_of_length_le (by simp [hl2]; omega), List.length_append, hl2]
    obtain ⟨i, hi⟩ : ∃ i, j - (d.length + 2) = i := ⟨_, rfl⟩
    rw [hi] at e
    have hd := digs_line d ((p ++ crlf).take i) h.hex h7
    have hv := val_line d ((p ++ crlf).take i) _ h.hex h7 h.num
    have hd1 : (d ++ crlf ++ (p ++ crlf).take i).drop d.length = crlf ++ (p ++ crlf).take i := by rw [List.append_assoc, List.drop_left]
    have hd2 : (d ++ crlf ++ (p ++ crlf).take i).drop (d.length + 2) = (p ++ crlf).take i := by
      rw [show d.length + 2 = (d ++ crlf).length by simp [crlf], List.drop_left]
    rw [e]
    unfold chunk
    rw [hd, hv, hd1, hd2, nl_crlf, if_neg (by omega), if_neg (by simp), if_neg (by omega)]
    by_cases a3 : i < p.length
    · rw [if_pos (by rw [List.length_take, List.length_append]; omega)]
    · rw [if_neg (by rw [List.length_take, List.length_append]; omega), Int.toNat_natCast, List.take_append, List.take_of_length_le (by omega), List.drop_left, nl_cut _ (by omega), if_pos (by decide)]
/-- where chunks are read: what they took, of which alone it hangs -/
theorem go_form (most : Int) : ∀ (f : Nat) (l out : L8) (at_ : Nat) (q : L8) (n : Nat), go most f l out at_ = .ok (q, n) →
    ∃ c t, l = c ++ t ∧ n = at_ + c.length ∧ 1 ≤ c.length ∧ (∀ (most' : Int) (f' : Nat) (x : L8), most ≤ most' → c.length ≤ f' → go most' f' (c ++ x) out at_ = .ok (q, n)) ∧ (∀ f' j, j < c.length → go most f' (c.take j) out at_ = .error 7) := by
  intro f
  induction f with
  | zero => intro l out at_ q n h; unfold go at h; cases h
  | succ f ih =>
    intro l out at_ q n h
    unfold go at h
    rcases hc : chunk (most - out.length) l with e | ⟨p, u⟩
    · rw [hc] at h; cases h
    · rw [hc] at h
      dsimp only at h
      obtain ⟨d, t, hI, rfl, hu⟩ := chunk_form hc
      have hcl : (d ++ crlf ++ p ++ crlf).length = u := by rw [hu]; simp [crlf]; omega
      have up : ∀ most' : Int, most ≤ most' → Is (most' - out.length) d p := fun m' hm => ⟨hI.hex, hI.some_, hI.seven, hI.num, by have := hI.fits; omega⟩
      by_cases hp : p = []
      · rw [if_pos hp] at h
        simp only [Except.ok.injEq, Prod.mk.injEq] at h
        obtain ⟨rfl, rfl⟩ := h
        refine ⟨d ++ crlf ++ p ++ crlf, t, rfl, by rw [hcl], by omega, ?_, ?_⟩
        · intro m' f' x hm hf
          obtain ⟨g, rfl⟩ : ∃ g, f' = g + 1 := ⟨f' - 1, by omega⟩
          rw [go, chunk_is (up m' hm) x]
          dsimp only
          rw [if_pos hp, hu]
        · intro f' j hj
          cases f' with
          | zero => rfl
          | succ g => rw [go, chunk_cut hI j hj]
      · rw [if_neg hp, ← hcl, List.drop_left] at h
        obtain ⟨c, t', rfl, hn, h1, hA, hB⟩ := ih t (out ++ p) _ q n h
        rw [hcl] at hn hA hB
        refine ⟨d ++ crlf ++ p ++ crlf ++ c, t', by simp [List.append_assoc], by rw [List.length_append, hcl, hn]; omega, by rw [List.length_append]; omega, ?_, ?_⟩
        · intro m' f' x hm hf
          rw [List.length_append, hcl] at hf
          obtain ⟨g, rfl⟩ : ∃ g, f' = g + 1 := ⟨f' - 1, by omega⟩
          have := chunk_is (up m' hm) (c ++ x)
          rw [← hu, ← List.append_assoc] at this
          rw [go, this]
          dsimp only
          rw [if_neg hp, List.append_assoc _ c x, ← hcl, List.drop_left, hcl]
          exact hA m' g x hm (by omega)
        · intro f' j hj
          cases f' with
          | zero => rfl
          | succ g =>
            by_cases hju : j < u
            · rw [go, List.take_append_of_le_length (by omega), chunk_cut hI j (by omega)]
            · rw [List.length_append, hcl] at hj
              have e : (d ++ crlf ++ p ++ crlf ++ c).take j = d ++ crlf ++ p ++ crlf ++ c.take (j - u) := by
                rw [List.take_append, List.take_of_length_le (by omega), hcl]
              have := chunk_is hI (c.take (j - u))
              rw [← hu] at this
              rw [e, go, this]
              dsimp only
              rw [if_neg hp, ← hcl, List.drop_left, hcl]
              exact hB g (j - u) (by omega)
theorem chunks_cuts {most : Int} {l q : L8} {n : Nat} (h : chunks most l = .ok (q, n)) :
    1 ≤ n ∧ n ≤ l.length ∧ (∀ (most' : Int) (x : L8), most ≤ most' → chunks most' (l ++ x) = .ok (q, n)) ∧ ∀ j, j < n → chunks most (l.take j) = .error 7 := by
  unfold chunks at h
  obtain ⟨c, t, rfl, hn, h1, hA, hB⟩ := go_form _ _ _ _ _ _ _ h
  rw [Nat.zero_add] at hn
  subst hn
  refine ⟨h1, by simp, fun m' x hm => ?_, fun j hj => ?_⟩
  · unfold chunks
    rw [List.append_assoc]
    exact hA _ _ _ (by omega) (by simp; omega)
  · unfold chunks
    rw [List.take_append_of_le_length (by omega)]
    exact hB _ _ hj
end Cu
end Go.Proofs.YtmgealcolofomaaDoor
