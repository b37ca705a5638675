/- The first sign by the numbers; how many signs. No program here. -/
import Derived.Test.YtcagnlafmakebaaDoorSign
import Derived.Lib.ValidAsc
namespace Go.Proofs.YtcagnlafmakebaaDoor
open Go.Lib
set_option maxRecDepth 100000

theorem decode_good {l : List UInt8} {n : Nat} (h1 : 1 ≤ n) (h4 : n ≤ 4) (h : Good n l) : decodeL l = (val n l, n) := by
  have hl := h.1
  have l0 := (l.getD 0 0).toNat_lt; have l1 := (l.getD 1 0).toNat_lt; have l2 := (l.getD 2 0).toNat_lt; have l3 := (l.getD 3 0).toNat_lt
  rw [decodeL_N]
  have hn : n = 1 ∨ n = 2 ∨ n = 3 ∨ n = 4 := by omega
  rcases hn with rfl | rfl | rfl | rfl
  · have g := (good_1 l hl).1 h
    unfold decodeN val
    rw [if_pos g, if_pos rfl]
  · have g := (good_2 l hl).1 h
    simp only [val, show ¬ (2 = 1) by omega, if_false, if_true]
    generalize (l.getD 0 0).toNat = b0 at *
    generalize (l.getD 1 0).toNat = b1 at *
    generalize (l.getD 2 0).toNat = b2 at *
    generalize (l.getD 3 0).toNat = b3 at *
    unfold decodeN
    repeat' split
    all_goals first | (exfalso; omega) | rfl
  · have g := (good_3 l hl).1 h
    simp only [val, show ¬ (3 = 1) by omega, show ¬ (3 = 2) by omega, if_false, if_true]
    generalize (l.getD 0 0).toNat = b0 at *
    generalize (l.getD 1 0).toNat = b1 at *
    generalize (l.getD 2 0).toNat = b2 at *
    generalize (l.getD 3 0).toNat = b3 at *
    unfold decodeN
    repeat' split
    all_goals first | (exfalso; omega) | (apply Prod.ext <;> simp only <;> omega)
  · have g := (good_4 l hl).1 h
    simp only [val, show ¬ (4 = 1) by omega, show ¬ (4 = 2) by omega, show ¬ (4 = 3) by omega, if_false]
    generalize (l.getD 0 0).toNat = b0 at *
    generalize (l.getD 1 0).toNat = b1 at *
    generalize (l.getD 2 0).toNat = b2 at *
    generalize (l.getD 3 0).toNat = b3 at *
    unfold decodeN
    repeat' split
    all_goals first | (exfalso; omega) | (apply Prod.ext <;> simp only <;> omega)
theorem decode_none {l : List UInt8} (h : ∀ n, 1 ≤ n → n ≤ 4 → ¬ Good n l) (hl : l ≠ []) : decodeL l = (65533, 1) := by
  have hl1 : 1 ≤ l.length := List.length_pos_iff.2 hl
  have l0 := (l.getD 0 0).toNat_lt; have l1 := (l.getD 1 0).toNat_lt; have l2 := (l.getD 2 0).toNat_lt; have l3 := (l.getD 3 0).toNat_lt
  have g1 := h 1 (by omega) (by omega)
  rw [good_1 l hl1] at g1
  have g2 : ¬ (2 ≤ l.length ∧ _) := fun k => h 2 (by omega) (by omega) ((good_2 l k.1).2 k.2)
  have g3 : ¬ (3 ≤ l.length ∧ _) := fun k => h 3 (by omega) (by omega) ((good_3 l k.1).2 k.2)
  have g4 : ¬ (4 ≤ l.length ∧ _) := fun k => h 4 (by omega) (by omega) ((good_4 l k.1).2 k.2)
  rw [decodeL_N]
  clear h
  generalize (l.getD 0 0).toNat = b0 at *
  generalize (l.getD 1 0).toNat = b1 at *
  generalize (l.getD 2 0).toNat = b2 at *
  generalize (l.getD 3 0).toNat = b3 at *
  generalize l.length = n at *
  unfold decodeN
  repeat' split
  all_goals first | rfl | (exfalso; omega)
theorem firstN_good {l : List UInt8} {n : Nat} (h1 : 1 ≤ n) (h4 : n ≤ 4) (h : Good n l) : firstN l = (val n l, n) := by
  have hl := h.1
  have hd := decode_good h1 h4 h
  unfold firstN
  rw [if_neg, hd]
  rintro (rfl | ⟨e1, e2⟩)
  · simp at hl; omega
  · rw [hd] at e1 e2
    simp only at e1 e2
    obtain rfl : n = 1 := by omega
    have := (l.getD 0 0).toNat_lt
    simp only [val, if_true] at e1
    omega
theorem firstN_none {l : List UInt8} (h : ∀ n, 1 ≤ n → n ≤ 4 → ¬ Good n l) : firstN l = (0, 0) := by
  unfold firstN
  rw [if_pos]
  by_cases hl : l = []
  · exact .inl hl
  · rw [decode_none h hl]; right; simp
theorem firstN_nil : firstN [] = (0, 0) := rfl
/-- The first sign of what utf8.DecodeRune answers. -/
theorem firstN_of_go (s : ByteArray) : firstN s.data.toList = if (decodeGo s).1 = 65533 ∧ (decodeGo s).2 < 2 then (0, 0) else decodeGo s := by
  unfold firstN decodeGo decodeL
  have e : (⟨s.data.toList.toArray⟩ : ByteArray) = s := by cases s; rfl
  rw [e]
  by_cases h : s.size = 0
  · have : s.data.toList = [] := List.eq_nil_of_length_eq_zero (by rw [← Lib.size_eq]; exact h)
    simp [h, this]
  · have : s.data.toList ≠ [] := fun k => h (by rw [Lib.size_eq, k]; rfl)
    simp [h, this]

theorem bytesN_len (c : Nat) : (bytesN c).length ≤ 4 := by
  unfold bytesN
  repeat' split
  all_goals simp
/-- A sign's bytes are that sign's. -/
theorem good_bytes {c : Nat} {l : List UInt8} (h : bytesN c ≠ []) : Good (bytesN c).length (bytesN c ++ l) ∧ val (bytesN c).length (bytesN c ++ l) = c := by
  have key : val (bytesN c).length (bytesN c ++ l) = c := by
    unfold bytesN at *
    repeat' split
    · simp_all
    · simp [val]; omega
    · simp [val]; omega
    · simp [val]; omega
    · simp [val]; omega
  refine ⟨⟨by simp, ?_⟩, key⟩
  rw [key, List.take_left]
theorem first_bytes {c : Nat} {l : List UInt8} (h : bytesN c ≠ []) : firstN (bytesN c ++ l) = (c, (bytesN c).length) := by
  obtain ⟨h1, h2⟩ := good_bytes (l := l) h
  rw [firstN_good (List.length_pos_iff.2 h) (bytesN_len c) h1, h2]

theorem runeCountL_step {l : List UInt8} (h : l ≠ []) : runeCountL l = 1 + runeCountL (l.drop (decodeL l).2) := by
  have hl : 0 < l.length := List.length_pos_iff.2 h
  have hw := decodeL_width l
  have hz : (⟨l.toArray⟩ : ByteArray).size = l.length := by simp [ByteArray.size]
  have e : (⟨(l.drop (decodeL l).2).toArray⟩ : ByteArray) = (⟨l.toArray⟩ : ByteArray).extract (decodeL l).2 (⟨l.toArray⟩ : ByteArray).size := by
    apply ByteArray.ext
    apply Array.toList_inj.1
    rw [Lib.ext_list]
  unfold runeCountL
  rw [e]
  unfold runeCount
  rw [tail_size, tail_count, hz]
  obtain ⟨n, hn⟩ : ∃ n, l.length = n + 1 := ⟨l.length - 1, by omega⟩
  rw [hn]
  show (if 0 < (⟨l.toArray⟩ : ByteArray).size then _ else _) = _
  rw [if_pos (by omega)]
  congr 1
  rw [Nat.zero_add, Nat.add_zero]
  exact fuel_enough _ _ _ _ (by rw [hz]; show l.length - (decodeL l).2 ≤ n; omega) (by rw [hz]; show l.length - (decodeL l).2 ≤ _; omega)
theorem firstN_zero {l : List UInt8} (h : l ≠ []) : (firstN l).2 = 0 ↔ (decodeL l).1 = 65533 ∧ (decodeL l).2 = 1 := by
  have hw := decodeL_width l
  unfold firstN
  by_cases hc : (decodeL l).1 = 65533 ∧ (decodeL l).2 < 2
  · rw [if_pos (.inr hc)]; simp only [true_iff]; omega
  · rw [if_neg (by rintro (k | k); exact h k; exact hc k)]; omega
theorem valid_none {l : List UInt8} (h : l ≠ []) (h2 : (firstN l).2 = 0) : validD l = false := by
  rw [validD_step l h, if_pos ((firstN_zero h).1 h2)]
theorem firstN_width {l : List UInt8} (h2 : (firstN l).2 ≠ 0) : (firstN l).2 = (decodeL l).2 := by
  unfold firstN at *
  split at h2
  · exact absurd rfl h2
  · rename_i hc; rw [if_neg hc]
theorem valid_some {l : List UInt8} (h : l ≠ []) (h2 : (firstN l).2 ≠ 0) : validD l = validD (l.drop (firstN l).2) := by
  rw [firstN_width h2, validD_step l h, if_neg (fun k => h2 ((firstN_zero h).2 k))]
theorem count_some {l : List UInt8} (h : l ≠ []) (h2 : (firstN l).2 ≠ 0) : runeCountL l = 1 + runeCountL (l.drop (firstN l).2) := by
  rw [firstN_width h2]; exact runeCountL_step h
theorem firstN_le (l : List UInt8) : (firstN l).2 ≤ 4 ∧ (firstN l).2 ≤ l.length ∧ (firstN l).1 ≤ 1114111 := by
  by_cases h : ∃ n, 1 ≤ n ∧ n ≤ 4 ∧ Good n l
  · obtain ⟨n, a, b, g⟩ := h
    have e := firstN_good a b g
    have hd := decode_good a b g
    have := decodeL_rune l
    rw [hd] at this
    rw [e]
    exact ⟨b, g.1, this⟩
  · rw [firstN_none (fun n a b g => h ⟨n, a, b, g⟩)]
    simp
theorem count_le (l : List UInt8) : runeCountL l ≤ l.length := by
  have := runeCount_le (⟨l.toArray⟩ : ByteArray)
  have hz : (⟨l.toArray⟩ : ByteArray).size = l.length := by simp [ByteArray.size]
  rw [hz] at this
  exact this
end Go.Proofs.YtcagnlafmakebaaDoor
