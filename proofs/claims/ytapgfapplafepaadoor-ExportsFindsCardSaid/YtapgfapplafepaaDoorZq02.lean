/- The first sign by the numbers; how many signs. No program here. -/
import Derived.Test.YtapgfapplafepaaDoorZq01
import Derived.Lib.ValidAsc
import Derived.Deep.DeepMust
import Derived.Deep.RegionHeld3
import Derived.Lib.Strings
import Derived.Test.YtapgfapplafepaaDoorShelf
namespace Go.Proofs.YtapgfapplafepaaDoor
set_option linter.unusedVariables false
open Go.Lib
set_option maxRecDepth 100000

theorem decode_good {l : List UInt8} {n : Nat} (h1 : 1 ≤ n) (h4 : n ≤ 4) (h : GoodN n l) : decodeL l = (val n l, n) := by
  have hl := h.1
  have l0 := (l.getD 0 0).toNat_lt; have l1 := (l.getD 1 0).toNat_lt; have l2 := (l.getD 2 0).toNat_lt; have l3 := (l.getD 3 0).toNat_lt
  rw [decodeL_N]
  have hn : n = 1 ∨ n = 2 ∨ n = 3 ∨ n = 4 := by omega
  rcases hn with rfl | rfl | rfl | rfl
  · have g := (good_1 l hl).1 h
    unfold decodeN val
    rw [if_pos g, if_pos rfl]
  · have g := (good_2 l hl).1 h
    simp only [val, show ¬ (2 = 1) by omega, if_false, if_true]
    generalize (l.getD 0 0).toNat = b0 at *
    generalize (l.getD 1 0).toNat = b1 at *
    generalize (l.getD 2 0).toNat = b2 at *
    generalize (l.getD 3 0).toNat = b3 at *
    unfold decodeN
    repeat' split
    all_goals first | (exfalso; omega) | rfl
  · have g := (good_3 l hl).1 h
    simp only [val, show ¬ (3 = 1) by omega, show ¬ (3 = 2) by omega, if_false, if_true]
    generalize (l.getD 0 0).toNat = b0 at *
    generalize (l.getD 1 0).toNat = b1 at *
    generalize (l.getD 2 0).toNat = b2 at *
    generalize (l.getD 3 0).toNat = b3 at *
    unfold decodeN
    repeat' split
    all_goals first | (exfalso; omega) | (apply Prod.ext <;> simp only <;> omega)
  · have g := (good_4 l hl).1 h
    simp only [val, show ¬ (4 = 1) by omega, show ¬ (4 = 2) by omega, show ¬ (4 = 3) by omega, if_false]
    generalize (l.getD 0 0).toNat = b0 at *
    generalize (l.getD 1 0).toNat = b1 at *
    generalize (l.getD 2 0).toNat = b2 at *
    generalize (l.getD 3 0).toNat = b3 at *
    unfold decodeN
    repeat' split
    all_goals first | (exfalso; omega) | (apply Prod.ext <;> simp only <;> omega)
theorem decode_none {l : List UInt8} (h : ∀ n, 1 ≤ n → n ≤ 4 → ¬ GoodN n l) (hl : l ≠ []) : decodeL l = (65533, 1) := by
  have hl1 : 1 ≤ l.length := List.length_pos_iff.2 hl
  have l0 := (l.getD 0 0).toNat_lt; have l1 := (l.getD 1 0).toNat_lt; have l2 := (l.getD 2 0).toNat_lt; have l3 := (l.getD 3 0).toNat_lt
  have g1 := h 1 (by omega) (by omega)
  rw [good_1 l hl1] at g1
  have g2 : ¬ (2 ≤ l.length ∧ _) := fun k => h 2 (by omega) (by omega) ((good_2 l k.1).2 k.2)
  have g3 : ¬ (3 ≤ l.length ∧ _) := fun k => h 3 (by omega) (by omega) ((good_3 l k.1).2 k.2)
  have g4 : ¬ (4 ≤ l.length ∧ _) := fun k => h 4 (by omega) (by omega) ((good_4 l k.1).2 k.2)
  rw [decodeL_N]
  clear h
  generalize (l.getD 0 0).toNat = b0 at *
  generalize (l.getD 1 0).toNat = b1 at *
  generalize (l.getD 2 0).toNat = b2 at *
  generalize (l.getD 3 0).toNat = b3 at *
  generalize l.length = n at *
  unfold decodeN
  repeat' split
  all_goals first | rfl | (exfalso; omega)
theorem firstN_good {l : List UInt8} {n : Nat} (h1 : 1 ≤ n) (h4 : n ≤ 4) (h : GoodN n l) : firstN l = (val n l, n) := by
  have hl := h.1
  have hd := decode_good h1 h4 h
  unfold firstN
  rw [if_neg, hd]
  rintro (rfl | ⟨e1, e2⟩)
  · simp at hl; omega
  · rw [hd] at e1 e2
    simp only at e1 e2
    obtain rfl : n = 1 := by omega
    have := (l.getD 0 0).toNat_lt
    simp only [val, if_true] at e1
    omega
theorem firstN_none {l : List UInt8} (h : ∀ n, 1 ≤ n → n ≤ 4 → ¬ GoodN n l) : firstN l = (0, 0) := by
  unfold firstN
  rw [if_pos]
  by_cases hl : l = []
  · exact .inl hl
  · rw [decode_none h hl]; right; simp
theorem firstN_nil : firstN [] = (0, 0) := rfl
/-- The first sign of what utf8.DecodeRune answers. -/
theorem firstN_of_go (s : ByteArray) : firstN s.data.toList = if (decodeGo s).1 = 65533 ∧ (decodeGo s).2 < 2 then (0, 0) else decodeGo s := by
  unfold firstN decodeGo decodeL
  have e : (⟨s.data.toList.toArray⟩ : ByteArray) = s := by cases s; rfl
  rw [e]
  by_cases h : s.size = 0
  · have : s.data.toList = [] := List.eq_nil_of_length_eq_zero (by rw [← Lib.size_eq]; exact h)
    simp [h, this]
  · have : s.data.toList ≠ [] := fun k => h (by rw [Lib.size_eq, k]; rfl)
    simp [h, this]

theorem bytesN_len (c : Nat) : (bytesN c).length ≤ 4 := by
  unfold bytesN
  repeat' split
  all_goals simp
/-- A sign's bytes are that sign's. -/
theorem good_bytes {c : Nat} {l : List UInt8} (h : bytesN c ≠ []) : GoodN (bytesN c).length (bytesN c ++ l) ∧ val (bytesN c).length (bytesN c ++ l) = c := by
  have key : val (bytesN c).length (bytesN c ++ l) = c := by
    unfold bytesN at *
    repeat' split
    · simp_all
    · simp [val]; omega
    · simp [val]; omega
    · simp [val]; omega
    · simp [val]; omega
  refine ⟨⟨by simp, ?_⟩, key⟩
  rw [key, List.take_left]
theorem first_bytes {c : Nat} {l : List UInt8} (h : bytesN c ≠ []) : firstN (bytesN c ++ l) = (c, (bytesN c).length) := by
  obtain ⟨h1, h2⟩ := good_bytes (l := l) h
  rw [firstN_good (List.length_pos_iff.2 h) (bytesN_len c) h1, h2]

theorem runeCountL_step {l : List UInt8} (h : l ≠ []) : runeCountL l = 1 + runeCountL (l.drop (decodeL l).2) := by
  have hl : 0 < l.length := List.length_pos_iff.2 h
  have hw := decodeL_width l
  have hz : (⟨l.toArray⟩ : ByteArray).size = l.length := by simp [ByteArray.size]
  have e : (⟨(l.drop (decodeL l).2).toArray⟩ : ByteArray) = (⟨l.toArray⟩ : ByteArray).extract (decodeL l).2 (⟨l.toArray⟩ : ByteArray).size := by
    apply ByteArray.ext
    apply Array.toList_inj.1
    rw [Lib.ext_list]
  unfold runeCountL
  rw [e]
  unfold runeCount
  rw [tail_size, tail_count, hz]
  obtain ⟨n, hn⟩ : ∃ n, l.length = n + 1 := ⟨l.length - 1, by omega⟩
  rw [hn]
  show (if 0 < (⟨l.toArray⟩ : ByteArray).size then _ else _) = _
  rw [if_pos (by omega)]
  congr 1
  rw [Nat.zero_add, Nat.add_zero]
  exact fuel_enough _ _ _ _ (by rw [hz]; show l.length - (decodeL l).2 ≤ n; omega) (by rw [hz]; show l.length - (decodeL l).2 ≤ _; omega)
theorem firstN_zero {l : List UInt8} (h : l ≠ []) : (firstN l).2 = 0 ↔ (decodeL l).1 = 65533 ∧ (decodeL l).2 = 1 := by
  have hw := decodeL_width l
  unfold firstN
  by_cases hc : (decodeL l).1 = 65533 ∧ (decodeL l).2 < 2
  · rw [if_pos (.inr hc)]; simp only [true_iff]; omega
  · rw [if_neg (by rintro (k | k); exact h k; exact hc k)]; omega
theorem valid_none {l : List UInt8} (h : l ≠ []) (h2 : (firstN l).2 = 0) : validD l = false := by
  rw [validD_step l h, if_pos ((firstN_zero h).1 h2)]
theorem firstN_width {l : List UInt8} (h2 : (firstN l).2 ≠ 0) : (firstN l).2 = (decodeL l).2 := by
  unfold firstN at *
  split at h2
  · exact absurd rfl h2
  · rename_i hc; rw [if_neg hc]
theorem valid_some {l : List UInt8} (h : l ≠ []) (h2 : (firstN l).2 ≠ 0) : validD l = validD (l.drop (firstN l).2) := by
  rw [firstN_width h2, validD_step l h, if_neg (fun k => h2 ((firstN_zero h).2 k))]
theorem count_some {l : List UInt8} (h : l ≠ []) (h2 : (firstN l).2 ≠ 0) : runeCountL l = 1 + runeCountL (l.drop (firstN l).2) := by
  rw [firstN_width h2]; exact runeCountL_step h
theorem firstN_le (l : List UInt8) : (firstN l).2 ≤ 4 ∧ (firstN l).2 ≤ l.length ∧ (firstN l).1 ≤ 1114111 := by
  by_cases h : ∃ n, 1 ≤ n ∧ n ≤ 4 ∧ GoodN n l
  · obtain ⟨n, a, b, g⟩ := h
    have e := firstN_good a b g
    have hd := decode_good a b g
    have := decodeL_rune l
    rw [hd] at this
    rw [e]
    exact ⟨b, g.1, this⟩
  · rw [firstN_none (fun n a b g => h ⟨n, a, b, g⟩)]
    simp
theorem count_le (l : List UInt8) : runeCountL l ≤ l.length := by
  have := runeCount_le (⟨l.toArray⟩ : ByteArray)
  have hz : (⟨l.toArray⟩ : ByteArray).size = l.length := by simp [ByteArray.size]
  rw [hz] at this
  exact this
end Go.Proofs.YtapgfapplafepaaDoor

/- creelref03.Bytes. -/
namespace Go.Proofs.YtapgfapplafepaaDoor
set_option linter.unusedVariables false
open Go.RowKit

/-- string of a new block of bytes. -/
theorem str_new (w : World) (arr : Array Value) (o : List UInt8) (n : Nat) (ha : arr = (cells (nums o)).toArray) (hn : n = o.length) : ∀ dst, Tryd.prog.underlying dst = some .string →
    (convert 31 dst (.slice (some ⟨w.heap.size, 0, none⟩) n n)).run Tryd.prog (w.alloc (.cells arr 5)) = .ok (.string (S o)) (w.alloc (.cells arr 5)) := by
  subst hn
  have h : Lies (w.alloc (.cells arr 5)) (w.heap.size + 1) (some ⟨w.heap.size, 0, none⟩) (cells (nums o)) := by
    intro i v hv
    refine ⟨w.heap.size, 0, rfl, by omega, ?_⟩
    rw [Nat.zero_add, cell_of_row _ w.heap.size i _ _ (0, 0) (heap_alloc_new w _), ha]
    simpa using hv
  by_cases h0 : 0 < (nums o).length
  · have := str_lies h h0 o.length Tryd.underlying31 Tryd.underlying5
    rw [strOfNums_nums, nums_length] at this
    exact this
  · have ho : o = [] := List.eq_nil_of_length_eq_zero (by rw [nums_length] at h0; omega)
    subst ho
    intro dst hd
    rw [run_convert_bytes_string _ _ dst 5 _ _ _ Tryd.underlying31 Tryd.underlying5 hd]
    have e : S [] = ByteArray.empty := rfl
    rw [e]
    simp [Conv.bytesToString, loadCells]
    rfl
theorem u8n {n : Nat} (h : n < 256) : ((UInt8.ofNat n).toNat : Int) = (n : Int) := by rw [u8_of h]
theorem bytesZ_neg {c : Int} (h : c < 0 ∨ 1114111 < c ∨ (55296 ≤ c ∧ c ≤ 57343)) : bytesZ c = [] := by
  unfold bytesZ bytesN
  by_cases h0 : c < 0
  · rw [if_pos h0]
  · rw [if_neg h0, if_pos (by omega)]
theorem bytesZ_1 {c : Int} (h0 : 0 ≤ c) (h1 : c < 128) : ∃ o, bytesZ c = o ∧ (cells (nums o)).toArray = #[.int .u8 c] ∧ o.length = 1 := by
  refine ⟨[UInt8.ofNat c.toNat], ?_, ?_, rfl⟩
  · unfold bytesZ bytesN; rw [if_neg (by omega), if_neg (by omega), if_pos (by omega)]
  · simp only [cells, nums, List.map_cons, List.map_nil]
    rw [u8n (by omega), show ((c.toNat : Nat) : Int) = c by omega]
theorem bytesZ_2 {c : Int} (h0 : 128 ≤ c) (h1 : c < 2048) : ∃ o, bytesZ c = o ∧ (cells (nums o)).toArray = #[.int .u8 (192 + c / 64), .int .u8 (128 + c % 64)] ∧ o.length = 2 := by
  refine ⟨[UInt8.ofNat (192 + c.toNat / 64), UInt8.ofNat (128 + c.toNat % 64)], ?_, ?_, rfl⟩
  · unfold bytesZ bytesN; rw [if_neg (by omega), if_neg (by omega), if_neg (by omega), if_pos (by omega)]
  · simp only [cells, nums, List.map_cons, List.map_nil]
    rw [u8n (by omega), u8n (by omega), show ((192 + c.toNat / 64 : Nat) : Int) = 192 + c / 64 by omega, show ((128 + c.toNat % 64 : Nat) : Int) = 128 + c % 64 by omega]
theorem bytesZ_3 {c : Int} (h0 : 2048 ≤ c) (h1 : c < 65536) (h2 : ¬ (55296 ≤ c ∧ c ≤ 57343)) : ∃ o, bytesZ c = o ∧ (cells (nums o)).toArray = #[.int .u8 (224 + c / 4096), .int .u8 (128 + c / 64 % 64), .int .u8 (128 + c % 64)] ∧ o.length = 3 := by
  refine ⟨[UInt8.ofNat (224 + c.toNat / 4096), UInt8.ofNat (128 + c.toNat / 64 % 64), UInt8.ofNat (128 + c.toNat % 64)], ?_, ?_, rfl⟩
  · unfold bytesZ bytesN; rw [if_neg (by omega), if_neg (by omega), if_neg (by omega), if_neg (by omega), if_pos (by omega)]
  · simp only [cells, nums, List.map_cons, List.map_nil]
    rw [u8n (by omega), u8n (by omega), u8n (by omega), show ((224 + c.toNat / 4096 : Nat) : Int) = 224 + c / 4096 by omega, show ((128 + c.toNat / 64 % 64 : Nat) : Int) = 128 + c / 64 % 64 by omega, show ((128 + c.toNat % 64 : Nat) : Int) = 128 + c % 64 by omega]
theorem bytesZ_4 {c : Int} (h0 : 65536 ≤ c) (h1 : c ≤ 1114111) : ∃ o, bytesZ c = o ∧ (cells (nums o)).toArray = #[.int .u8 (240 + c / 262144), .int .u8 (128 + c / 4096 % 64), .int .u8 (128 + c / 64 % 64), .int .u8 (128 + c % 64)] ∧ o.length = 4 := by
  refine ⟨[UInt8.ofNat (240 + c.toNat / 262144), UInt8.ofNat (128 + c.toNat / 4096 % 64), UInt8.ofNat (128 + c.toNat / 64 % 64), UInt8.ofNat (128 + c.toNat % 64)], ?_, ?_, rfl⟩
  · unfold bytesZ bytesN; rw [if_neg (by omega), if_neg (by omega), if_neg (by omega), if_neg (by omega), if_neg (by omega)]
  · simp only [cells, nums, List.map_cons, List.map_nil]
    rw [u8n (by omega), u8n (by omega), u8n (by omega), u8n (by omega), show ((240 + c.toNat / 262144 : Nat) : Int) = 240 + c / 262144 by omega, show ((128 + c.toNat / 4096 % 64 : Nat) : Int) = 128 + c / 4096 % 64 by omega, show ((128 + c.toNat / 64 % 64 : Nat) : Int) = 128 + c / 64 % 64 by omega, show ((128 + c.toNat % 64 : Nat) : Int) = 128 + c % 64 by omega]

def BytesOut (c : Int) (w : World) (e : Ending) (w' : World) : Prop := e = .returned (.string (S (bytesZ c))) ∧ (w' = w ∨ ∃ o, w' = w.alloc o)
theorem BytesOut.below {c : Int} {w w' : World} {e : Ending} (h : BytesOut c w e w') : Below w.heap.size w w' := by
  rcases h.2 with rfl | ⟨o, rfl⟩
  · exact Below.refl _ _
  · exact (Below.refl _ _).alloc (Nat.le_refl _) _
set_option maxHeartbeats 2000000 in
theorem bytes_any (c : Int) (w : World) : Calls Tryd.prog 110 #[.int .i64 c] w (BytesOut c w) := by
  by_cases h0 : c < 0
  · have HE := Lib.hid (bytesZ_neg (.inl h0))
    go_enter Tryd.func110, Tryd.ntmps110
    go_wp2
    go_ret
    exact ⟨by rw [HE.out]; rfl, .inl rfl⟩
  have h0' : 0 ≤ c := by omega
  have d0 : decide (c < 0) = false := by simpa using h0
  by_cases h1 : 1114111 < c
  · have HE := Lib.hid (bytesZ_neg (.inr (.inl h1)))
    go_enter Tryd.func110, Tryd.ntmps110
    go_wp2
    go_ret
    exact ⟨by rw [HE.out]; rfl, .inl rfl⟩
  have h1' : c ≤ 1114111 := by omega
  have d1 : decide (1114111 < c) = false := by simpa using h1
  by_cases h2 : 55296 ≤ c ∧ c ≤ 57343
  · obtain ⟨h2a, h2b⟩ := h2
    have HE := Lib.hid (bytesZ_neg (.inr (.inr ⟨h2a, h2b⟩)))
    go_enter Tryd.func110, Tryd.ntmps110
    go_wp2
    go_ret
    exact ⟨by rw [HE.out]; rfl, .inl rfl⟩
  by_cases h3 : c < 128
  · obtain ⟨o, ho, ha, hn⟩ := bytesZ_1 h0' h3
    have hstr := str_new w _ o _ ha.symm hn.symm
    have d2 : decide (55296 ≤ c) = false := by simp; omega
    have HE := Lib.hid ho
    clear ho ha hn h2
    go_enter Tryd.func110, Tryd.ntmps110
    go_wp2
    go_ret
    exact ⟨by rw [HE.out]; rfl, .inr ⟨_, rfl⟩⟩
  have d3 : decide (c < 128) = false := by simpa using h3
  by_cases h4 : c < 2048
  · obtain ⟨o, ho, ha, hn⟩ := bytesZ_2 (by omega) h4
    have hstr := str_new w _ o _ ha.symm hn.symm
    have d2 : decide (55296 ≤ c) = false := by simp; omega
    have HE := Lib.hid ho
    clear ho ha hn h2
    go_enter Tryd.func110, Tryd.ntmps110
    go_wp2
    go_ret
    exact ⟨by rw [HE.out]; rfl, .inr ⟨_, rfl⟩⟩
  have d4 : decide (c < 2048) = false := by simpa using h4
  have h5 : c < 55296 ∨ 57343 < c := by omega
  rcases h5 with h5 | h5
  · obtain ⟨o, ho, ha, hn⟩ := bytesZ_3 (c := c) (by omega) (by omega) h2
    have hstr := str_new w _ o _ ha.symm hn.symm
    have d2 : decide (55296 ≤ c) = false := by simp; omega
    have d5 : c < 65536 := by omega
    have HE := Lib.hid ho
    clear ho ha hn h2
    go_enter Tryd.func110, Tryd.ntmps110
    go_wp2
    go_ret
    exact ⟨by rw [HE.out]; rfl, .inr ⟨_, rfl⟩⟩
  have d5 : 55296 ≤ c := by omega
  have d6 : decide (c ≤ 57343) = false := by simp; omega
  by_cases h6 : c < 65536
  · obtain ⟨o, ho, ha, hn⟩ := bytesZ_3 (c := c) (by omega) h6 h2
    have hstr := str_new w _ o _ ha.symm hn.symm
    have HE := Lib.hid ho
    clear ho ha hn h2
    go_enter Tryd.func110, Tryd.ntmps110
    go_wp2
    go_ret
    exact ⟨by rw [HE.out]; rfl, .inr ⟨_, rfl⟩⟩
  · obtain ⟨o, ho, ha, hn⟩ := bytesZ_4 (c := c) (by omega) h1'
    have hstr := str_new w _ o _ ha.symm hn.symm
    have d7 : decide (c < 65536) = false := by simpa using h6
    have HE := Lib.hid ho
    clear ho ha hn h2
    go_enter Tryd.func110, Tryd.ntmps110
    go_wp2
    go_ret
    exact ⟨by rw [HE.out]; rfl, .inr ⟨_, rfl⟩⟩
end Go.Proofs.YtapgfapplafepaaDoor

/- creelref03.First. -/
namespace Go.Proofs.YtapgfapplafepaaDoor
set_option linter.unusedVariables false
open Go.RowKit

/-- The number out of the first byte's bits and the bytes 1 to k. -/
def part (base : Nat) (l : List UInt8) : Nat → Nat
  | 0 => base
  | k + 1 => part base l k * 64 + (l.getD (k + 1) 0).toNat % 64
theorem part_lt (base : Nat) (l : List UInt8) (h : base < 256) : ∀ k, part base l k < 256 * 64 ^ k
  | 0 => by simpa [part] using h
  | k + 1 => by
    have := part_lt base l h k
    unfold part
    rw [Nat.pow_succ]
    omega
theorem part_le {base : Nat} {l : List UInt8} {k : Nat} (h : base < 256) (hk : k ≤ 3) : part base l k ≤ 67108864 := by
  have := part_lt base l h k
  have h2 : 64 ^ k ≤ 64 ^ 3 := Nat.pow_le_pow_right (by omega) hk
  have : 256 * 64 ^ k ≤ 256 * 64 ^ 3 := Nat.mul_le_mul_left _ h2
  have : 256 * 64 ^ 3 = 67108864 := by decide
  omega
def baseOf (n : Nat) (b0 : Nat) : Nat := if n = 1 then b0 else if n = 2 then b0 % 32 else if n = 3 then b0 % 16 else b0 % 8
theorem part_val {n : Nat} {l : List UInt8} (h1 : 1 ≤ n) (h4 : n ≤ 4) : part (baseOf n (l.getD 0 0).toNat) l (n - 1) = val n l := by
  have hn : n = 1 ∨ n = 2 ∨ n = 3 ∨ n = 4 := by omega
  rcases hn with rfl | rfl | rfl | rfl <;> simp [part, baseOf, val]
theorem bytesZ_nat (n : Nat) : bytesZ (n : Int) = bytesN n := by
  unfold bytesZ
  rw [if_neg (by omega)]
  rfl
theorem good_bool {n : Nat} {l : List UInt8} (hn : n ≤ l.length) (h : GoodN n l) : ((S (bytesN (val n l))).toList == ((S l).extract 0 n).toList) = true := by
  rw [S_toList, S_extract, S_toList]
  have := h.2
  simp [this]
theorem bad_bool {n : Nat} {l : List UInt8} (hn : n ≤ l.length) (h : ¬ GoodN n l) : ((S (bytesN (val n l))).toList == ((S l).extract 0 n).toList) = false := by
  rw [S_toList, S_extract, S_toList]
  simp only [Nat.sub_zero, List.drop_zero, beq_eq_false_iff_ne]
  exact fun e => h ⟨hn, e⟩
theorem val_eq {k : IntKind} {a b : Int} (h : a = b) : Value.int k a = .int k b := by rw [h]
theorem two {B : Nat} {a w1 w2 : World} (h : Below B a w1) (hB : B ≤ a.heap.size) (k : Below w1.heap.size w1 w2) : Below B a w2 := h.trans (k.mono (Nat.le_trans hB h.size))
def FirstOut (l : List UInt8) (w : World) (e : Ending) (w' : World) : Prop := e = .returned (.tuple #[.int .i64 ((firstN l).1 : Int), .int .i64 ((firstN l).2 : Int)]) ∧ Below w.heap.size w w'
theorem firstOut_good {l : List UInt8} {n : Nat} {w w' : World} (h1 : 1 ≤ n) (h4 : n ≤ 4) (h : GoodN n l) (hb : Below w.heap.size w w') : FirstOut l w (.returned (.tuple #[.int .i64 ((val n l : Nat) : Int), .int .i64 (n : Int)])) w' := by
  unfold FirstOut
  rw [firstN_good h1 h4 h]
  exact ⟨rfl, hb⟩
theorem firstOut_none {l : List UInt8} {w w' : World} (h : ∀ n, 1 ≤ n → n ≤ 4 → ¬ GoodN n l) (hb : Below w.heap.size w w') : FirstOut l w (.returned (.tuple #[.int .i64 0, .int .i64 0])) w' := by
  unfold FirstOut
  rw [firstN_none h]
  exact ⟨rfl, hb⟩

set_option maxRecDepth 100000 in
set_option maxHeartbeats 2000000 in
theorem refFirst_any (l : List UInt8) (w : World) (hl : l.length ≤ 1000000) : Calls Tryd.prog 99 #[.string (S l)] w (FirstOut l w) := by
  obtain ⟨z, hz⟩ : ∃ z, S l = z := ⟨_, rfl⟩
  have hN : z.size = l.length := by rw [← hz, S_size]
  have hg : ∀ (i : Nat) (h : i < z.size), z[i] = l.getD i 0 := fun i h => by
    subst hz
    rw [S_get]
    rw [S_size] at h
    simp [List.getD, List.getElem?_eq_getElem h]
  rw [hz]
  have hz9 : z.size ≤ 1000000 := by omega
  have HZ := Lib.hid hz
  have HN := Lib.hid hN
  have HG := Lib.hid hg
  clear hz hN hg
  go_enter Tryd.func99, Tryd.ntmps99
  go_wp2
  go_loopw [4] (fun v wr => ∃ n : Int, v = .int .i64 n ∧ 1 ≤ n ∧ n ≤ 5 ∧ (∀ m : Nat, 1 ≤ m → (m : Int) < n → ¬ GoodN m l) ∧ Below w.heap.size w wr) (fun v _ => 5 - (intOf v).toNat)
  case atStart => exact ⟨1, rfl, by omega, by omega, fun m a b => by omega, Below.refl _ _⟩
  case round =>
    obtain ⟨n, rfl, h1, h5, hno, hbe⟩ := hrel
    have HNO := Lib.hid hno
    have HB := Lib.hid hbe
    clear hno hbe
    by_cases h4 : n ≤ 4
    · by_cases hfit : n ≤ z.size
      · have hz0 : 0 < z.size := by omega
        obtain ⟨b0, hb0⟩ : ∃ b0, z[0] = b0 := ⟨_, rfl⟩
        have lb0 := b0.toNat_lt
        have hgb : l.getD 0 0 = b0 := by rw [← hb0]; exact (HG.out 0 hz0).symm
        have HGB := Lib.hid hgb
        clear hgb
        have hn : n = 1 ∨ n = 2 ∨ n = 3 ∨ n = 4 := by omega
        rcases hn with rfl | rfl | rfl | rfl
        · have hf1 : (1 : Int) ≤ (z.size : Int) := by omega
          have hb9 : baseOf 1 b0.toNat < 256 := by unfold baseOf; simp; omega
          go_wp2
          go_loop [5, 6] (fun v i => ∃ k : Nat, i = .int .i64 ((k : Int) + 1) ∧ k + 1 ≤ 1 ∧ v = .int .i64 ((part (baseOf 1 b0.toNat) l k : Nat) : Int)) (fun _ i => 1 - (intOf i).toNat)
          case atStart => exact ⟨0, rfl, by omega, val_eq (by show _ = ((baseOf 1 b0.toNat : Nat) : Int); unfold baseOf; simp)⟩
          case round =>
            obtain ⟨k, rfl, hk, rfl⟩ := hrel
            have hp9 := part_le (l := l) hb9 (k := k) (by omega)
            by_cases hk2 : k + 1 < 1
            · omega
            · obtain rfl : k = 0 := by omega
              have hv : part (baseOf 1 b0.toNat) l 0 = val 1 l := by rw [← HGB.out]; exact part_val (n := 1) (by omega) (by omega)
              rw [hv] at hp9 ⊢
              have hk3 : decide (((0 : Nat) : Int) + 1 < 1) = false := by decide
              have hnl : 1 ≤ l.length := by have := HN.out; omega
              have hbz : bytesZ ((val 1 l : Nat) : Int) = bytesN (val 1 l) := bytesZ_nat _
              have HBZ := Lib.hid hbz
              clear hbz hv
              by_cases hg : GoodN 1 l
              · have he := good_bool hnl hg
                rw [HZ.out] at he
                have HGD := Lib.hid hg
                clear hg
                generalize hq : val 1 l = q at *
                have HQ := Lib.hid hq
                clear hq
                go_wp2_with fail
                go_region_held3 (fun _ => True) (trivial) ((go_at_call 110; refine (bytes_any _ _).mono ?_; intro e w' hb; have hb0 := hb.below; obtain ⟨rfl, _⟩ := hb; rw [HBZ.out]; have HB2 := Lib.hid hb0; clear hb0))
                all_goals
                  go_wp2
                  go_ret2
                  exact (HQ.out ▸ firstOut_good (n := 1) (by omega) (by omega) HGD.out (two HB.out.drew (Nat.le_refl _) HB2.out))
              · have he := bad_bool hnl hg
                rw [HZ.out] at he
                have F : ∀ m : Nat, 1 ≤ m → (m : Int) < 1 + 1 → ¬ GoodN m l := fun m a b g => by
                  by_cases hm : (m : Int) < 1
                  · exact HNO.out m a hm g
                  · obtain rfl : m = 1 := by omega
                    exact hg g
                have HF := Lib.hid F
                clear F hg
                generalize hq : val 1 l = q at *
                go_wp2_with fail
                go_region_held3 (fun _ => True) (trivial) ((go_at_call 110; refine (bytes_any _ _).mono ?_; intro e w' hb; have hb0 := hb.below; obtain ⟨rfl, _⟩ := hb; rw [HBZ.out]; have HB2 := Lib.hid hb0; clear hb0))
                all_goals
                  go_wp2
                  go_roundw
                  case rel => exact ⟨2, rfl, by omega, by omega, HF.out, two HB.out.drew (Nat.le_refl _) HB2.out⟩
                  case measure => simp [intOf]
        · have hf1 : (2 : Int) ≤ (z.size : Int) := by omega
          have hb9 : baseOf 2 b0.toNat < 256 := by unfold baseOf; simp; omega
          go_wp2
          go_loop [5, 6] (fun v i => ∃ k : Nat, i = .int .i64 ((k : Int) + 1) ∧ k + 1 ≤ 2 ∧ v = .int .i64 ((part (baseOf 2 b0.toNat) l k : Nat) : Int)) (fun _ i => 2 - (intOf i).toNat)
          case atStart => exact ⟨0, rfl, by omega, val_eq (by show _ = ((baseOf 2 b0.toNat : Nat) : Int); unfold baseOf; simp)⟩
          case round =>
            obtain ⟨k, rfl, hk, rfl⟩ := hrel
            have hp9 := part_le (l := l) hb9 (k := k) (by omega)
            by_cases hk2 : k + 1 < 2
            · have hkz : k + 1 < z.size := by omega
              obtain ⟨x, hx⟩ : ∃ x, z[k + 1] = x := ⟨_, rfl⟩
              have lx := x.toNat_lt
              have hpart : part (baseOf 2 b0.toNat) l (k + 1) = part (baseOf 2 b0.toNat) l k * 64 + x.toNat % 64 := by
                rw [← hx, HG.out (k + 1) hkz]; rfl
              have HP := Lib.hid hpart
              clear hpart
              generalize hq : part (baseOf 2 b0.toNat) l k = q at *
              have HQ := Lib.hid hq
              clear hq
              go_wp2
              go_round
              case rel => exact ⟨k + 1, by go_num, by omega, val_eq (by rw [HP.out]; omega)⟩
              case measure => simp [intOf]; omega
            · obtain rfl : k = 1 := by omega
              have hv : part (baseOf 2 b0.toNat) l 1 = val 2 l := by rw [← HGB.out]; exact part_val (n := 2) (by omega) (by omega)
              rw [hv] at hp9 ⊢
              have hk3 : decide (((1 : Nat) : Int) + 1 < 2) = false := by decide
              have hnl : 2 ≤ l.length := by have := HN.out; omega
              have hbz : bytesZ ((val 2 l : Nat) : Int) = bytesN (val 2 l) := bytesZ_nat _
              have HBZ := Lib.hid hbz
              clear hbz hv
              by_cases hg : GoodN 2 l
              · have he := good_bool hnl hg
                rw [HZ.out] at he
                have HGD := Lib.hid hg
                clear hg
                generalize hq : val 2 l = q at *
                have HQ := Lib.hid hq
                clear hq
                go_wp2_with fail
                go_region_held3 (fun _ => True) (trivial) ((go_at_call 110; refine (bytes_any _ _).mono ?_; intro e w' hb; have hb0 := hb.below; obtain ⟨rfl, _⟩ := hb; rw [HBZ.out]; have HB2 := Lib.hid hb0; clear hb0))
                all_goals
                  go_wp2
                  go_ret2
                  exact (HQ.out ▸ firstOut_good (n := 2) (by omega) (by omega) HGD.out (two HB.out.drew (Nat.le_refl _) HB2.out))
              · have he := bad_bool hnl hg
                rw [HZ.out] at he
                have F : ∀ m : Nat, 1 ≤ m → (m : Int) < 2 + 1 → ¬ GoodN m l := fun m a b g => by
                  by_cases hm : (m : Int) < 2
                  · exact HNO.out m a hm g
                  · obtain rfl : m = 2 := by omega
                    exact hg g
                have HF := Lib.hid F
                clear F hg
                generalize hq : val 2 l = q at *
                go_wp2_with fail
                go_region_held3 (fun _ => True) (trivial) ((go_at_call 110; refine (bytes_any _ _).mono ?_; intro e w' hb; have hb0 := hb.below; obtain ⟨rfl, _⟩ := hb; rw [HBZ.out]; have HB2 := Lib.hid hb0; clear hb0))
                all_goals
                  go_wp2
                  go_roundw
                  case rel => exact ⟨3, rfl, by omega, by omega, HF.out, two HB.out.drew (Nat.le_refl _) HB2.out⟩
                  case measure => simp [intOf]
        · have hf1 : (3 : Int) ≤ (z.size : Int) := by omega
          have hb9 : baseOf 3 b0.toNat < 256 := by unfold baseOf; simp; omega
          go_wp2
          go_loop [5, 6] (fun v i => ∃ k : Nat, i = .int .i64 ((k : Int) + 1) ∧ k + 1 ≤ 3 ∧ v = .int .i64 ((part (baseOf 3 b0.toNat) l k : Nat) : Int)) (fun _ i => 3 - (intOf i).toNat)
          case atStart => exact ⟨0, rfl, by omega, val_eq (by show _ = ((baseOf 3 b0.toNat : Nat) : Int); unfold baseOf; simp)⟩
          case round =>
            obtain ⟨k, rfl, hk, rfl⟩ := hrel
            have hp9 := part_le (l := l) hb9 (k := k) (by omega)
            by_cases hk2 : k + 1 < 3
            · have hkz : k + 1 < z.size := by omega
              obtain ⟨x, hx⟩ : ∃ x, z[k + 1] = x := ⟨_, rfl⟩
              have lx := x.toNat_lt
              have hpart : part (baseOf 3 b0.toNat) l (k + 1) = part (baseOf 3 b0.toNat) l k * 64 + x.toNat % 64 := by
                rw [← hx, HG.out (k + 1) hkz]; rfl
              have HP := Lib.hid hpart
              clear hpart
              generalize hq : part (baseOf 3 b0.toNat) l k = q at *
              have HQ := Lib.hid hq
              clear hq
              go_wp2
              go_round
              case rel => exact ⟨k + 1, by go_num, by omega, val_eq (by rw [HP.out]; omega)⟩
              case measure => simp [intOf]; omega
            · obtain rfl : k = 2 := by omega
              have hv : part (baseOf 3 b0.toNat) l 2 = val 3 l := by rw [← HGB.out]; exact part_val (n := 3) (by omega) (by omega)
              rw [hv] at hp9 ⊢
              have hk3 : decide (((2 : Nat) : Int) + 1 < 3) = false := by decide
              have hnl : 3 ≤ l.length := by have := HN.out; omega
              have hbz : bytesZ ((val 3 l : Nat) : Int) = bytesN (val 3 l) := bytesZ_nat _
              have HBZ := Lib.hid hbz
              clear hbz hv
              by_cases hg : GoodN 3 l
              · have he := good_bool hnl hg
                rw [HZ.out] at he
                have HGD := Lib.hid hg
                clear hg
                generalize hq : val 3 l = q at *
                have HQ := Lib.hid hq
                clear hq
                go_wp2_with fail
                go_region_held3 (fun _ => True) (trivial) ((go_at_call 110; refine (bytes_any _ _).mono ?_; intro e w' hb; have hb0 := hb.below; obtain ⟨rfl, _⟩ := hb; rw [HBZ.out]; have HB2 := Lib.hid hb0; clear hb0))
                all_goals
                  go_wp2
                  go_ret2
                  exact (HQ.out ▸ firstOut_good (n := 3) (by omega) (by omega) HGD.out (two HB.out.drew (Nat.le_refl _) HB2.out))
              · have he := bad_bool hnl hg
                rw [HZ.out] at he
                have F : ∀ m : Nat, 1 ≤ m → (m : Int) < 3 + 1 → ¬ GoodN m l := fun m a b g => by
                  by_cases hm : (m : Int) < 3
                  · exact HNO.out m a hm g
                  · obtain rfl : m = 3 := by omega
                    exact hg g
                have HF := Lib.hid F
                clear F hg
                generalize hq : val 3 l = q at *
                go_wp2_with fail
                go_region_held3 (fun _ => True) (trivial) ((go_at_call 110; refine (bytes_any _ _).mono ?_; intro e w' hb; have hb0 := hb.below; obtain ⟨rfl, _⟩ := hb; rw [HBZ.out]; have HB2 := Lib.hid hb0; clear hb0))
                all_goals
                  go_wp2
                  go_roundw
                  case rel => exact ⟨4, rfl, by omega, by omega, HF.out, two HB.out.drew (Nat.le_refl _) HB2.out⟩
                  case measure => simp [intOf]
        · have hf1 : (4 : Int) ≤ (z.size : Int) := by omega
          have hb9 : baseOf 4 b0.toNat < 256 := by unfold baseOf; simp; omega
          go_wp2
          go_loop [5, 6] (fun v i => ∃ k : Nat, i = .int .i64 ((k : Int) + 1) ∧ k + 1 ≤ 4 ∧ v = .int .i64 ((part (baseOf 4 b0.toNat) l k : Nat) : Int)) (fun _ i => 4 - (intOf i).toNat)
          case atStart => exact ⟨0, rfl, by omega, val_eq (by show _ = ((baseOf 4 b0.toNat : Nat) : Int); unfold baseOf; simp)⟩
          case round =>
            obtain ⟨k, rfl, hk, rfl⟩ := hrel
            have hp9 := part_le (l := l) hb9 (k := k) (by omega)
            by_cases hk2 : k + 1 < 4
            · have hkz : k + 1 < z.size := by omega
              obtain ⟨x, hx⟩ : ∃ x, z[k + 1] = x := ⟨_, rfl⟩
              have lx := x.toNat_lt
              have hpart : part (baseOf 4 b0.toNat) l (k + 1) = part (baseOf 4 b0.toNat) l k * 64 + x.toNat % 64 := by
                rw [← hx, HG.out (k + 1) hkz]; rfl
              have HP := Lib.hid hpart
              clear hpart
              generalize hq : part (baseOf 4 b0.toNat) l k = q at *
              have HQ := Lib.hid hq
              clear hq
              go_wp2
              go_round
              case rel => exact ⟨k + 1, by go_num, by omega, val_eq (by rw [HP.out]; omega)⟩
              case measure => simp [intOf]; omega
            · obtain rfl : k = 3 := by omega
              have hv : part (baseOf 4 b0.toNat) l 3 = val 4 l := by rw [← HGB.out]; exact part_val (n := 4) (by omega) (by omega)
              rw [hv] at hp9 ⊢
              have hk3 : decide (((3 : Nat) : Int) + 1 < 4) = false := by decide
              have hnl : 4 ≤ l.length := by have := HN.out; omega
              have hbz : bytesZ ((val 4 l : Nat) : Int) = bytesN (val 4 l) := bytesZ_nat _
              have HBZ := Lib.hid hbz
              clear hbz hv
              by_cases hg : GoodN 4 l
              · have he := good_bool hnl hg
                rw [HZ.out] at he
                have HGD := Lib.hid hg
                clear hg
                generalize hq : val 4 l = q at *
                have HQ := Lib.hid hq
                clear hq
                go_wp2_with fail
                go_region_held3 (fun _ => True) (trivial) ((go_at_call 110; refine (bytes_any _ _).mono ?_; intro e w' hb; have hb0 := hb.below; obtain ⟨rfl, _⟩ := hb; rw [HBZ.out]; have HB2 := Lib.hid hb0; clear hb0))
                all_goals
                  go_wp2
                  go_ret2
                  exact (HQ.out ▸ firstOut_good (n := 4) (by omega) (by omega) HGD.out (two HB.out.drew (Nat.le_refl _) HB2.out))
              · have he := bad_bool hnl hg
                rw [HZ.out] at he
                have F : ∀ m : Nat, 1 ≤ m → (m : Int) < 4 + 1 → ¬ GoodN m l := fun m a b g => by
                  by_cases hm : (m : Int) < 4
                  · exact HNO.out m a hm g
                  · obtain rfl : m = 4 := by omega
                    exact hg g
                have HF := Lib.hid F
                clear F hg
                generalize hq : val 4 l = q at *
                go_wp2_with fail
                go_region_held3 (fun _ => True) (trivial) ((go_at_call 110; refine (bytes_any _ _).mono ?_; intro e w' hb; have hb0 := hb.below; obtain ⟨rfl, _⟩ := hb; rw [HBZ.out]; have HB2 := Lib.hid hb0; clear hb0))
                all_goals
                  go_wp2
                  go_roundw
                  case rel => exact ⟨5, rfl, by omega, by omega, HF.out, two HB.out.drew (Nat.le_refl _) HB2.out⟩
                  case measure => simp [intOf]
      · have hd : decide (n ≤ (z.size : Int)) = false := by simp; omega
        have F : ∀ m, 1 ≤ m → m ≤ 4 → ¬ GoodN m l := fun m a b g => by
          by_cases hm : (m : Int) < n
          · exact HNO.out m a hm g
          · have := g.1; have := HN.out; omega
        have HF := Lib.hid F
        clear F
        go_wp2
        go_ret2
        exact firstOut_none HF.out HB.out
    · have hd : decide (n ≤ 4) = false := by simp; omega
      have F : ∀ m : Nat, 1 ≤ m → m ≤ 4 → ¬ GoodN m l := fun m a b => HNO.out m a (by omega)
      have HF := Lib.hid F
      clear F
      go_wp2
      go_ret2
      exact firstOut_none HF.out HB.out
end Go.Proofs.YtapgfapplafepaaDoor

/- creelref03.Count. -/
namespace Go.Proofs.YtapgfapplafepaaDoor
set_option linter.unusedVariables false
open Go.RowKit Go.Lib

def strLen : Value → Nat
  | .string s => s.size
  | _ => 0
theorem run_tail {n : Nat} {l : List UInt8} (h : n ≤ l.length) (w : World) : (Instr.slice 9 (.string (S l)) (some (.int .i64 (n : Int))) none none).run Tryd.prog w = .ok (.string (S (l.drop n))) w := by
  have h := run_slice_string_l (P := Tryd.prog) w 9 (S l) Tryd.underlying9 .i64 (n : Int) (by omega) (by rw [S_size]; omega)
  rw [h, S_extract, S_size, show ((n : Int)).toNat = n from rfl, List.take_of_length_le (by simp)]
theorem countZ_nil : countZ [] = 0 := by decide
theorem ret_val {k : IntKind} {a b : Int} (h : a = b) : Ending.returned (.int k a) = .returned (.int k b) := by rw [h]

set_option maxHeartbeats 1000000 in
theorem refCount_any (l : List UInt8) (w : World) (hl : l.length ≤ 1000000) : Calls Tryd.prog 72 #[.string (S l)] w fun e w' => e = .returned (.int .i64 (countZ l)) ∧ Below w.heap.size w w' := by
  go_enter Tryd.func72, Tryd.ntmps72
  go_wp2
  go_loopw [0, 3] (fun v c wr => ∃ (r : List UInt8) (k : Nat), v = .string (S r) ∧ c = .int .i64 k ∧ validD l = validD r ∧ runeCountL l = k + runeCountL r ∧ r.length ≤ 1000000 ∧ Below w.heap.size w wr) (fun v _ _ => strLen v)
  case atStart => exact ⟨l, 0, rfl, rfl, rfl, by omega, hl, Below.refl _ _⟩
  case round =>
    obtain ⟨r, k, rfl, rfl, hv, hc, hr, hbe⟩ := hrel
    have HB := Lib.hid hbe
    have hk : k ≤ 1000000 := by have := count_le l; omega
    clear hbe
    by_cases h0 : r = []
    · subst h0
      have e : countZ l = (k : Int) := by
        unfold countZ
        rw [if_pos (by rw [hv]; rfl), hc]
        have : runeCountL [] = 0 := rfl
        omega
      have HE := Lib.hid e
      have hz : (S []).size = 0 := rfl
      clear hv hc e
      go_wp2
      go_ret
      exact ⟨ret_val HE.out.symm, HB.out⟩
    · have hlen : 0 < r.length := List.length_pos_iff.2 h0
      have hz : 0 < (S r).size := by rw [S_size]; exact hlen
      have hle := firstN_le r
      by_cases hn : (firstN r).2 = 0
      · have e : countZ l = -1 := by
          unfold countZ
          rw [if_neg (by rw [hv, valid_none h0 hn]; simp)]
        have HE := Lib.hid e
        have HH := Lib.hid hn
        clear hv hc e hn
        go_wp2_with fail
        refine (refFirst_any r _ hr).mono ?_
        rintro e w1 ⟨rfl, hb1⟩
        rw [HH.out]
        have H1 := Lib.hid (two HB.out (Nat.le_refl _) hb1)
        clear hb1 HB
        go_wp2
        go_ret
        exact ⟨ret_val HE.out.symm, H1.out⟩
      · have hv2 := valid_some h0 hn
        have hc2 := count_some h0 hn
        have hsl := run_tail (n := (firstN r).2) (l := r) hle.2.1
        have hlt : strLen (.string (S (r.drop (firstN r).2))) < strLen (.string (S r)) := by
          show (S _).size < (S _).size
          rw [S_size, S_size, List.length_drop]; omega
        have hr2 : (r.drop (firstN r).2).length ≤ 1000000 := by rw [List.length_drop]; omega
        have HV := Lib.hid (hv.trans hv2)
        have HC := Lib.hid (show runeCountL l = (k + 1) + runeCountL (r.drop (firstN r).2) by omega)
        have HL := Lib.hid hlt
        have HR := Lib.hid hr2
        have hne : (((firstN r).2 : Int) == 0) = false := beq_eq_false_iff_ne.2 (by omega)
        clear hv hc hv2 hc2 hlt hr2
        go_wp2_with fail
        refine (refFirst_any r _ hr).mono ?_
        rintro e w1 ⟨rfl, hb1⟩
        have H1 := Lib.hid (two HB.out (Nat.le_refl _) hb1)
        clear hb1 HB
        generalize (firstN r).2 = n at *
        generalize (firstN r).1 = v at *
        go_wp2
        go_roundw
        case rel => exact ⟨_, k + 1, rfl, by go_num, HV.out, HC.out, HR.out, H1.out⟩
        case measure => exact HL.out
end Go.Proofs.YtapgfapplafepaaDoor

/- utf.First, utf.Count, utf.Check over the library's contracts. -/
namespace Go.Proofs.YtapgfapplafepaaDoor
set_option linter.unusedVariables false
set_option maxRecDepth 100000
open Go.RowKit Go.Lib

/-- The two tables of unicode/utf8 hold what they are laid with. -/
def Tabs (w : World) : Prop := Lib.Utf8Tabs 0 1 w
theorem Tabs.below {w wr : World} (h : Tabs w) (hb : Below w.heap.size w wr) : Tabs wr := Utf8Tabs_below h hb
theorem Tabs.on {B w wr : World} (h : Tabs B) (hB : Below B.heap.size B w) (hb : Below w.heap.size w wr) : Tabs wr := (h.below hB).below hb

theorem valid_any (l : List UInt8) (w : World) (hl : l.length ≤ 1000000) (hT : Tabs w) : Calls Tryd.prog 82 #[.string (S l)] w fun e w' => e = .returned (.bool (validD l)) ∧ Below w.heap.size w w' := by
  have h := Any.utf8_ValidString Tryd.lays196 (S l) w (by rw [S_size]; omega) hT
  rw [S_list] at h
  exact h
/-- api.ErrLong is 13, api.ErrUTF 4, api.OK 0. -/
def checkZ (l : List UInt8) : Int := if 200 < l.length then 13 else if validD l = true then 0 else 4
theorem check_any (l : List UInt8) (w : World) (hl : l.length ≤ 1000000) (hT : Tabs w) : Calls Tryd.prog 53 #[.string (S l)] w fun e w' => e = .returned (.int .i64 (checkZ l)) ∧ Below w.heap.size w w' := by
  have hs : (S l).size = l.length := S_size l
  by_cases h2 : 200 < l.length
  · have e : checkZ l = 13 := by unfold checkZ; rw [if_pos h2]
    have HE := Lib.hid e
    have hs2 : 200 < (S l).size := by omega
    clear e hs
    go_enter Tryd.func53, Tryd.ntmps53
    go_wp2
    go_ret
    exact ⟨ret_val HE.out.symm, Below.refl _ _⟩
  · have hd : decide ((200 : Int) < ((S l).size : Int)) = false := by simp; omega
    clear hs
    by_cases hv : validD l = true
    · have e : checkZ l = 0 := by unfold checkZ; rw [if_neg h2, if_pos hv]
      have HE := Lib.hid e
      clear e
      go_enter Tryd.func53, Tryd.ntmps53
      go_wp2_with (first
        | (go_at_call 82; go_must (refine (valid_any l _ hl hT).mono ?_; rintro e w1 ⟨rfl, hb1⟩; have H1 := Lib.hid hb1; clear hb1)))
      go_ret
      exact ⟨ret_val HE.out.symm, H1.out⟩
    · have hv' : validD l = false := by simpa using hv
      have e : checkZ l = 4 := by unfold checkZ; rw [if_neg h2, if_neg hv]
      have HE := Lib.hid e
      clear e hv
      go_enter Tryd.func53, Tryd.ntmps53
      go_wp2_with (first
        | (go_at_call 82; go_must (refine (valid_any l _ hl hT).mono ?_; rintro e w1 ⟨rfl, hb1⟩; have H1 := Lib.hid hb1; clear hb1)))
      go_ret
      exact ⟨ret_val HE.out.symm, H1.out⟩

/-- The bytes l lie at b, from off on. -/
def Bys (w : World) (b off : Nat) (l : List UInt8) : Prop := ∀ j (h : j < l.length), w.cell? ⟨b, off + j, none⟩ = some (.int .u8 ((l[j]'h).toNat : Int))
theorem Bys.below {w w' : World} {b off : Nat} {l : List UInt8} (h : Bys w b off l) (hb : Below w.heap.size w w') (hlt : b < w.heap.size) : Bys w' b off l := fun j hj =>
  (hb.cell (p := ⟨b, off + j, none⟩) hlt).trans (h j hj)
end Go.Proofs.YtapgfapplafepaaDoor
