/- creelref03.Bytes. -/
import Derived.Test.YtcagnlafmakebaaDoorBytes
import Derived.Test.YtcagnlafmakebaaDoorFirst
import Derived.Deep.DeepMust
namespace Go.Proofs.YtcagnlafmakebaaDoor
open Go.RowKit

/-- string of a new block of bytes. -/
theorem str_new (w : World) (arr : Array Value) (o : List UInt8) (n : Nat) (ha : arr = (cells (nums o)).toArray) (hn : n = o.length) : ∀ dst, Tryd.prog.underlying dst = some .string →
    (convert 25 dst (.slice (some ⟨w.heap.size, 0, none⟩) n n)).run Tryd.prog (w.alloc (.cells arr 5)) = .ok (.string (S o)) (w.alloc (.cells arr 5)) := by
  subst hn
  have h : Lies (w.alloc (.cells arr 5)) (w.heap.size + 1) (some ⟨w.heap.size, 0, none⟩) (cells (nums o)) := by
    intro i v hv
    refine ⟨w.heap.size, 0, rfl, by omega, ?_⟩
    rw [Nat.zero_add, cell_of_row _ w.heap.size i _ _ (0, 0) (heap_alloc_new w _), ha]
    simpa using hv
  by_cases h0 : 0 < (nums o).length
  · have := str_lies h h0 o.length Tryd.underlying25 Tryd.underlying5
    rw [strOfNums_nums, nums_length] at this
    exact this
  · have ho : o = [] := List.eq_nil_of_length_eq_zero (by rw [nums_length] at h0; omega)
    subst ho
    intro dst hd
    rw [run_convert_bytes_string _ _ dst 5 _ _ _ Tryd.underlying25 Tryd.underlying5 hd]
    have e : S [] = ByteArray.empty := rfl
    rw [e]
    simp [Conv.bytesToString, loadCells]
    rfl
theorem u8n {n : Nat} (h : n < 256) : ((UInt8.ofNat n).toNat : Int) = (n : Int) := by rw [u8_of h]
theorem bytesZ_neg {c : Int} (h : c < 0 ∨ 1114111 < c ∨ (55296 ≤ c ∧ c ≤ 57343)) : bytesZ c = [] := by
  unfold bytesZ bytesN
  by_cases h0 : c < 0
  · rw [if_pos h0]
  · rw [if_neg h0, if_pos (by omega)]
theorem bytesZ_1 {c : Int} (h0 : 0 ≤ c) (h1 : c < 128) : ∃ o, bytesZ c = o ∧ (cells (nums o)).toArray = #[.int .u8 c] ∧ o.length = 1 := by
  refine ⟨[UInt8.ofNat c.toNat], ?_, ?_, rfl⟩
  · unfold bytesZ bytesN; rw [if_neg (by omega), if_neg (by omega), if_pos (by omega)]
  · simp only [cells, nums, List.map_cons, List.map_nil]
    rw [u8n (by omega), show ((c.toNat : Nat) : Int) = c by omega]
theorem bytesZ_2 {c : Int} (h0 : 128 ≤ c) (h1 : c < 2048) : ∃ o, bytesZ c = o ∧ (cells (nums o)).toArray = #[.int .u8 (192 + c / 64), .int .u8 (128 + c % 64)] ∧ o.length = 2 := by
  refine ⟨[UInt8.ofNat (192 + c.toNat / 64), UInt8.ofNat (128 + c.toNat % 64)], ?_, ?_, rfl⟩
  · unfold bytesZ bytesN; rw [if_neg (by omega), if_neg (by omega), if_neg (by omega), if_pos (by omega)]
  · simp only [cells, nums, List.map_cons, List.map_nil]
    rw [u8n (by omega), u8n (by omega), show ((192 + c.toNat / 64 : Nat) : Int) = 192 + c / 64 by omega, show ((128 + c.toNat % 64 : Nat) : Int) = 128 + c % 64 by omega]
theorem bytesZ_3 {c : Int} (h0 : 2048 ≤ c) (h1 : c < 65536) (h2 : ¬ (55296 ≤ c ∧ c ≤ 57343)) : ∃ o, bytesZ c = o ∧ (cells (nums o)).toArray = #[.int .u8 (224 + c / 4096), .int .u8 (128 + c / 64 % 64), .int .u8 (128 + c % 64)] ∧ o.length = 3 := by
  refine ⟨[UInt8.ofNat (224 + c.toNat / 4096), UInt8.ofNat (128 + c.toNat / 64 % 64), UInt8.ofNat (128 + c.toNat % 64)], ?_, ?_, rfl⟩
  · unfold bytesZ bytesN; rw [if_neg (by omega), if_neg (by omega), if_neg (by omega), if_neg (by omega), if_pos (by omega)]
  · simp only [cells, nums, List.map_cons, List.map_nil]
    rw [u8n (by omega), u8n (by omega), u8n (by omega), show ((224 + c.toNat / 4096 : Nat) : Int) = 224 + c / 4096 by omega, show ((128 + c.toNat / 64 % 64 : Nat) : Int) = 128 + c / 64 % 64 by omega, show ((128 + c.toNat % 64 : Nat) : Int) = 128 + c % 64 by omega]
theorem bytesZ_4 {c : Int} (h0 : 65536 ≤ c) (h1 : c ≤ 1114111) : ∃ o, bytesZ c = o ∧ (cells (nums o)).toArray = #[.int .u8 (240 + c / 262144), .int .u8 (128 + c / 4096 % 64), .int .u8 (128 + c / 64 % 64), .int .u8 (128 + c % 64)] ∧ o.length = 4 := by
  refine ⟨[UInt8.ofNat (240 + c.toNat / 262144), UInt8.ofNat (128 + c.toNat / 4096 % 64), UInt8.ofNat (128 + c.toNat / 64 % 64), UInt8.ofNat (128 + c.toNat % 64)], ?_, ?_, rfl⟩
  · unfold bytesZ bytesN; rw [if_neg (by omega), if_neg (by omega), if_neg (by omega), if_neg (by omega), if_neg (by omega)]
  · simp only [cells, nums, List.map_cons, List.map_nil]
    rw [u8n (by omega), u8n (by omega), u8n (by omega), u8n (by omega), show ((240 + c.toNat / 262144 : Nat) : Int) = 240 + c / 262144 by omega, show ((128 + c.toNat / 4096 % 64 : Nat) : Int) = 128 + c / 4096 % 64 by omega, show ((128 + c.toNat / 64 % 64 : Nat) : Int) = 128 + c / 64 % 64 by omega, show ((128 + c.toNat % 64 : Nat) : Int) = 128 + c % 64 by omega]

def BytesOut (c : Int) (w : World) (e : Ending) (w' : World) : Prop := e = .returned (.string (S (bytesZ c))) ∧ (w' = w ∨ ∃ o, w' = w.alloc o)
theorem BytesOut.below {c : Int} {w w' : World} {e : Ending} (h : BytesOut c w e w') : Below w.heap.size w w' := by
  rcases h.2 with rfl | ⟨o, rfl⟩
  · exact Below.refl _ _
  · exact (Below.refl _ _).alloc (Nat.le_refl _) _
set_option maxHeartbeats 2000000 in
theorem bytes_any (c : Int) (w : World) : Calls Tryd.prog 11 #[.int .i64 c] w (BytesOut c w) := by
  by_cases h0 : c < 0
  · have HE := Lib.hid (bytesZ_neg (.inl h0))
    go_enter Tryd.func11, Tryd.ntmps11
    go_wp2
    go_ret
    exact ⟨by rw [HE.out]; rfl, .inl rfl⟩
  have h0' : 0 ≤ c := by omega
  have d0 : decide (c < 0) = false := by simpa using h0
  by_cases h1 : 1114111 < c
  · have HE := Lib.hid (bytesZ_neg (.inr (.inl h1)))
    go_enter Tryd.func11, Tryd.ntmps11
    go_wp2
    go_ret
    exact ⟨by rw [HE.out]; rfl, .inl rfl⟩
  have h1' : c ≤ 1114111 := by omega
  have d1 : decide (1114111 < c) = false := by simpa using h1
  by_cases h2 : 55296 ≤ c ∧ c ≤ 57343
  · obtain ⟨h2a, h2b⟩ := h2
    have HE := Lib.hid (bytesZ_neg (.inr (.inr ⟨h2a, h2b⟩)))
    go_enter Tryd.func11, Tryd.ntmps11
    go_wp2
    go_ret
    exact ⟨by rw [HE.out]; rfl, .inl rfl⟩
  by_cases h3 : c < 128
  · obtain ⟨o, ho, ha, hn⟩ := bytesZ_1 h0' h3
    have hstr := str_new w _ o _ ha.symm hn.symm
    have d2 : decide (55296 ≤ c) = false := by simp; omega
    have HE := Lib.hid ho
    clear ho ha hn h2
    go_enter Tryd.func11, Tryd.ntmps11
    go_wp2
    go_ret
    exact ⟨by rw [HE.out]; rfl, .inr ⟨_, rfl⟩⟩
  have d3 : decide (c < 128) = false := by simpa using h3
  by_cases h4 : c < 2048
  · obtain ⟨o, ho, ha, hn⟩ := bytesZ_2 (by omega) h4
    have hstr := str_new w _ o _ ha.symm hn.symm
    have d2 : decide (55296 ≤ c) = false := by simp; omega
    have HE := Lib.hid ho
    clear ho ha hn h2
    go_enter Tryd.func11, Tryd.ntmps11
    go_wp2
    go_ret
    exact ⟨by rw [HE.out]; rfl, .inr ⟨_, rfl⟩⟩
  have d4 : decide (c < 2048) = false := by simpa using h4
  have h5 : c < 55296 ∨ 57343 < c := by omega
  rcases h5 with h5 | h5
  · obtain ⟨o, ho, ha, hn⟩ := bytesZ_3 (c := c) (by omega) (by omega) h2
    have hstr := str_new w _ o _ ha.symm hn.symm
    have d2 : decide (55296 ≤ c) = false := by simp; omega
    have d5 : c < 65536 := by omega
    have HE := Lib.hid ho
    clear ho ha hn h2
    go_enter Tryd.func11, Tryd.ntmps11
    go_wp2
    go_ret
    exact ⟨by rw [HE.out]; rfl, .inr ⟨_, rfl⟩⟩
  have d5 : 55296 ≤ c := by omega
  have d6 : decide (c ≤ 57343) = false := by simp; omega
  by_cases h6 : c < 65536
  · obtain ⟨o, ho, ha, hn⟩ := bytesZ_3 (c := c) (by omega) h6 h2
    have hstr := str_new w _ o _ ha.symm hn.symm
    have HE := Lib.hid ho
    clear ho ha hn h2
    go_enter Tryd.func11, Tryd.ntmps11
    go_wp2
    go_ret
    exact ⟨by rw [HE.out]; rfl, .inr ⟨_, rfl⟩⟩
  · obtain ⟨o, ho, ha, hn⟩ := bytesZ_4 (c := c) (by omega) h1'
    have hstr := str_new w _ o _ ha.symm hn.symm
    have d7 : decide (c < 65536) = false := by simpa using h6
    have HE := Lib.hid ho
    clear ho ha hn h2
    go_enter Tryd.func11, Tryd.ntmps11
    go_wp2
    go_ret
    exact ⟨by rw [HE.out]; rfl, .inr ⟨_, rfl⟩⟩
end Go.Proofs.YtcagnlafmakebaaDoor
