/- The walk of the document's Trim. -/
import Derived.Test.YtmgealcolofomaaDoorRa
namespace Go.Proofs.YtmgealcolofomaaDoor
open Go.RowKit
set_option linter.unusedVariables false
set_option maxRecDepth 20000

def sizeV (v : Value) : Nat := match v with | .string b => b.size | _ => 0
/-- a byte 9 or 32 -/
def bl (c : UInt8) : Bool := List.contains [9, 32] c
theorem bl_9 : bl 9 = true := by decide
theorem bl_32 : bl 32 = true := by decide
theorem bl_no {c : UInt8} (h9 : c ≠ 9) (h32 : c ≠ 32) : bl c = false := by simp [bl, h9, h32]

def tl (l : List UInt8) : List UInt8 := l.dropWhile bl
def tr (l : List UInt8) : List UInt8 := (l.reverse.dropWhile bl).reverse

theorem dw_all {p : UInt8 → Bool} : ∀ l : List UInt8, (∀ c ∈ l, p c = true) → l.dropWhile p = []
  | [], _ => rfl
  | a :: r, h => by
    rw [List.dropWhile_cons, h a (by simp), if_pos rfl]
    exact dw_all r (fun c hc => h c (by simp [hc]))
theorem dw_mem {p : UInt8 → Bool} {a : UInt8} : ∀ l : List UInt8, a ∈ l → p a = false → l.dropWhile p ≠ []
  | [], h, _ => by cases h
  | b :: r, h, ha => by
    rw [List.dropWhile_cons]
    rcases hb : p b with _ | _
    · rw [if_neg (by simp)]; simp
    · rw [if_pos rfl]
      rcases List.mem_cons.1 h with e | e
      · subst e; rw [ha] at hb; cases hb
      · exact dw_mem r e ha
theorem trim_eq (l : List UInt8) : trim l = tl (tr l) := rfl
theorem tr_append {u x : List UInt8} {a : UInt8} (ha : bl a = false) (hm : a ∈ x) : tr (u ++ x) = u ++ tr x := by
  unfold tr
  rw [List.reverse_append, List.dropWhile_append]
  have hne : ¬ (x.reverse.dropWhile bl).isEmpty = true := by
    rw [List.isEmpty_iff]
    exact dw_mem _ (by simpa using hm) ha
  rw [if_neg hne, List.reverse_append, List.reverse_reverse]
theorem tr_nil_of (l : List UInt8) (h : ∀ c ∈ l, bl c = true) : tr l = [] := by
  unfold tr
  rw [dw_all _ (by intro c hc; exact h c (by simpa using hc))]; rfl
theorem tr_head {a : UInt8} {r : List UInt8} (ha : bl a = false) : ∃ r', tr (a :: r) = a :: r' := by
  refine ⟨tr r, ?_⟩
  by_cases h : ∃ b ∈ r, bl b = false
  · obtain ⟨b, hb, hbl⟩ := h
    exact tr_append (u := [a]) hbl hb
  · have hall : ∀ c ∈ r, bl c = true := fun c hc => by
      rcases hb : bl c with _ | _
      · exact absurd ⟨c, hc, hb⟩ h
      · rfl
    rw [tr_nil_of r hall]
    unfold tr
    rw [List.reverse_cons, List.dropWhile_append, dw_all _ (by intro c hc; exact hall c (by simpa using hc))]
    simp [List.dropWhile, ha]
theorem trim_eq' (l : List UInt8) : trim l = tr (tl l) := by
  rw [trim_eq]
  unfold tl
  obtain ⟨u, hu⟩ := dw_suffix bl l
  have hup : ∀ c ∈ l.takeWhile bl, bl c = true := fun c hc => by
    have := List.all_takeWhile (p := bl) (l := l)
    exact List.all_eq_true.1 this c hc
  have hl : l = l.takeWhile bl ++ l.dropWhile bl := (List.takeWhile_append_dropWhile).symm
  rcases dw_head bl l with h | ⟨a, r, h, ha⟩
  · rw [h] at hl ⊢
    have : tr l = [] := tr_nil_of l (by intro c hc; rw [hl, List.append_nil] at hc; exact hup c hc)
    rw [this]; rfl
  · obtain ⟨r', hr'⟩ := @tr_head a r ha
    have e : tr l = l.takeWhile bl ++ tr (a :: r) := by
      conv => lhs; rw [hl, h]
      exact tr_append ha (by simp)
    rw [e, h, hr', List.dropWhile_append, dw_all _ hup, if_pos (by rfl)]
    exact dw_same bl ha

theorem first_list (t : ByteArray) (h : 0 < t.size) : t.data.toList = t[0] :: (t.extract 1 t.size).data.toList := by
  rw [Lib.extract_to_end]
  obtain ⟨⟨l⟩⟩ := t
  cases l with
  | nil => exact absurd h (by decide)
  | cons a r => rfl
theorem last_list (t : ByteArray) (n : Nat) (h : t.size = n + 1) : t.data.toList = (t.extract 0 n).data.toList ++ [t[n]] := by
  rw [Lib.extract_data, Nat.sub_zero, List.drop_zero]
  have h' : n < t.data.toList.length := by simp; omega
  have := List.take_succ_eq_append_getElem h'
  rw [List.take_of_length_le (by simp; omega)] at this
  exact this
theorem tl_blank (t : ByteArray) (h : 0 < t.size) (hb : bl t[0] = true) : tl (t.extract 1 t.size).data.toList = tl t.data.toList := by
  conv => rhs; rw [first_list t h]
  unfold tl; rw [List.dropWhile_cons, hb]; rfl
theorem tl_stop (t : ByteArray) (h : ∀ h : 0 < t.size, bl t[0] = false) : tl t.data.toList = t.data.toList := by
  by_cases h0 : 0 < t.size
  · rw [first_list t h0]; exact dw_same bl (h h0)
  · have : t.data.toList = [] := List.length_eq_zero_iff.1 (by rw [Array.length_toList]; change t.size = 0; omega)
    rw [this]; rfl
theorem tr_blank (t : ByteArray) (n : Nat) (h : t.size = n + 1) (hb : bl (t[n]'(by omega)) = true) : tr (t.extract 0 n).data.toList = tr t.data.toList := by
  conv => rhs; rw [last_list t n h]
  unfold tr; rw [List.reverse_append, List.reverse_singleton, List.singleton_append, List.dropWhile_cons, hb]; rfl
theorem tr_stop (t : ByteArray) (n : Nat) (h : t.size = n + 1) (hb : bl (t[n]'(by omega)) = false) : tr t.data.toList = t.data.toList := by
  conv => lhs; rw [last_list t n h]
  unfold tr; rw [List.reverse_append, List.reverse_singleton, List.singleton_append, dw_same bl hb]
  rw [List.reverse_cons, List.reverse_reverse, ← last_list t n h]
theorem tr_zero (t : ByteArray) (h : t.size = 0) : tr t.data.toList = t.data.toList := by
  have : t.data.toList = [] := List.length_eq_zero_iff.1 (by simpa using h)
  rw [this]; rfl
theorem eq_list {t : ByteArray} {l : List UInt8} (h : t.data.toList = l) : t = ⟨l.toArray⟩ := by subst h; obtain ⟨⟨l⟩⟩ := t; rfl
theorem ret_str {a b : ByteArray} (h : a = b) : Ending.returned (.string a) = .returned (.string b) := by rw [h]

theorem u8_of {c d : UInt8} (h : c.toNat = d.toNat) : c = d := UInt8.toNat_inj.1 h
theorem t9 {c : UInt8} (h : c.toNat = 9) : ((c.toNat : Int) == 9) = true := by rw [h]; rfl
theorem t32 {c : UInt8} (h : c.toNat = 32) : ((c.toNat : Int) == 32) = true := by rw [h]; rfl
theorem f9 {c : UInt8} (h : ¬ c.toNat = 9) : ((c.toNat : Int) == 9) = false := by rw [beq_eq_false_iff_ne]; omega
theorem f32 {c : UInt8} (h : ¬ c.toNat = 32) : ((c.toNat : Int) == 32) = false := by rw [beq_eq_false_iff_ne]; omega

set_option maxHeartbeats 4000000 in
theorem rtrim_any (s : ByteArray) (w : World) (hs : s.size ≤ 1099511627776) :
    Calls Tryd.prog 34 #[.string s] w fun e w' => e = .returned (.string ⟨(trim s.data.toList).toArray⟩) ∧ w' = w := by
  have HE := hide (trim_eq' s.data.toList)
  go_enter Tryd.func34, Tryd.ntmps34
  go_wp2
  go_loop [0] (fun v => ∃ t : ByteArray, v = .string t ∧ t.size ≤ s.size ∧ tl t.data.toList = tl s.data.toList) (fun v => sizeV v)
  case atStart => exact ⟨s, rfl, Nat.le_refl _, rfl⟩
  case round =>
    obtain ⟨t, rfl, hts, ht⟩ := hrel
    have HT := hide ht
    clear ht
    have hd : (∃ h : 0 < t.size, t[0].toNat = 9) ∨ (∃ h : 0 < t.size, ¬ t[0].toNat = 9 ∧ t[0].toNat = 32) ∨ (∃ h : 0 < t.size, ¬ t[0].toNat = 9 ∧ ¬ t[0].toNat = 32) ∨ t.size = 0 := by
      by_cases h : 0 < t.size
      · by_cases h9 : t[0].toNat = 9
        · exact .inl ⟨h, h9⟩
        · by_cases h32 : t[0].toNat = 32
          · exact .inr (.inl ⟨h, h9, h32⟩)
          · exact .inr (.inr (.inl ⟨h, h9, h32⟩))
      · exact .inr (.inr (.inr (by omega)))
    rcases hd with ⟨hpos, h9⟩ | ⟨hpos, h9, h32⟩ | ⟨hpos, h9, h32⟩ | h0
    · have HR := hide (tl_blank t hpos (by rw [u8_of (d := 9) h9]; exact bl_9))
      have hb := t9 h9
      clear h9
      go_wp2
      exact ⟨⟨_, rfl, by simp; omega, by rw [unhide HR, unhide HT]⟩, by simp [sizeV]; omega⟩
    · have HR := hide (tl_blank t hpos (by rw [u8_of (d := 32) h32]; exact bl_32))
      have hb := t32 h32
      have hb9 := f9 h9
      clear h9 h32
      go_wp2
      exact ⟨⟨_, rfl, by simp; omega, by rw [unhide HR, unhide HT]⟩, by simp [sizeV]; omega⟩
    · have HS := hide (tl_stop t (fun h => bl_no (fun e => h9 (by rw [e]; rfl)) (fun e => h32 (by rw [e]; rfl))))
      have hb9 := f9 h9
      have hb32 := f32 h32
      clear h9 h32
      go_wp2
      have HW : Hid (trim s.data.toList = tr t.data.toList) := hide (by rw [unhide HE, ← unhide HT, unhide HS])
      clear HS HT HE
      go_loop [0] (fun v => ∃ x : ByteArray, v = .string x ∧ x.size ≤ s.size ∧ tr x.data.toList = tr t.data.toList) (fun v => sizeV v)
      case atStart => exact ⟨t, rfl, hts, rfl⟩
      case round =>
        obtain ⟨x, rfl, hxs, hx⟩ := hrel
        have HX := hide hx
        clear hx
        rcases hn : x.size with _ | n
        · have HR := hide (tr_zero x hn)
          go_wp2
          go_ret
          exact ⟨ret_str (by rw [unhide HW, ← unhide HX, unhide HR]), rfl⟩
        · by_cases h9 : (x[n]'(by omega)).toNat = 9
          · have HR := hide (tr_blank x n hn (by rw [u8_of (d := 9) h9]; exact bl_9))
            have hb := t9 h9
            clear h9
            go_wp2
            exact ⟨⟨_, rfl, by simp; omega, by rw [unhide HR, unhide HX]⟩, by simp [sizeV]; omega⟩
          by_cases h32 : (x[n]'(by omega)).toNat = 32
          · have HR := hide (tr_blank x n hn (by rw [u8_of (d := 32) h32]; exact bl_32))
            have hb := t32 h32
            have hb9 := f9 h9
            clear h9 h32
            go_wp2
            exact ⟨⟨_, rfl, by simp; omega, by rw [unhide HR, unhide HX]⟩, by simp [sizeV]; omega⟩
          · have HR := hide (tr_stop x n hn (bl_no (fun e => h9 (by rw [e]; rfl)) (fun e => h32 (by rw [e]; rfl))))
            have hb9 := f9 h9
            have hb32 := f32 h32
            clear h9 h32
            go_wp2
            go_ret
            exact ⟨ret_str (by rw [unhide HW, ← unhide HX, unhide HR]), rfl⟩
    · have HS := hide (tl_stop t (fun h => by omega))
      go_wp2
      have HW : Hid (trim s.data.toList = tr t.data.toList) := hide (by rw [unhide HE, ← unhide HT, unhide HS])
      clear HS HT HE
      go_loop [0] (fun v => ∃ x : ByteArray, v = .string x ∧ x.size ≤ s.size ∧ tr x.data.toList = tr t.data.toList) (fun v => sizeV v)
      case atStart => exact ⟨t, rfl, hts, rfl⟩
      case round =>
        obtain ⟨x, rfl, hxs, hx⟩ := hrel
        have HX := hide hx
        clear hx
        rcases hn : x.size with _ | n
        · have HR := hide (tr_zero x hn)
          go_wp2
          go_ret
          exact ⟨ret_str (by rw [unhide HW, ← unhide HX, unhide HR]), rfl⟩
        · by_cases h9 : (x[n]'(by omega)).toNat = 9
          · have HR := hide (tr_blank x n hn (by rw [u8_of (d := 9) h9]; exact bl_9))
            have hb := t9 h9
            clear h9
            go_wp2
            exact ⟨⟨_, rfl, by simp; omega, by rw [unhide HR, unhide HX]⟩, by simp [sizeV]; omega⟩
          by_cases h32 : (x[n]'(by omega)).toNat = 32
          · have HR := hide (tr_blank x n hn (by rw [u8_of (d := 32) h32]; exact bl_32))
            have hb := t32 h32
            have hb9 := f9 h9
            clear h9 h32
            go_wp2
            exact ⟨⟨_, rfl, by simp; omega, by rw [unhide HR, unhide HX]⟩, by simp [sizeV]; omega⟩
          · have HR := hide (tr_stop x n hn (bl_no (fun e => h9 (by rw [e]; rfl)) (fun e => h32 (by rw [e]; rfl))))
            have hb9 := f9 h9
            have hb32 := f32 h32
            clear h9 h32
            go_wp2
            go_ret
            exact ⟨ret_str (by rw [unhide HW, ← unhide HX, unhide HR]), rfl⟩
end Go.Proofs.YtmgealcolofomaaDoor
