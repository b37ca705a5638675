/- creelref03.Bytes. -/
import Derived.Test.YtohliaellefhaaaDoorQs01
import Derived.Test.YtohliaellefhaaaDoorQs06
import Derived.Deep.DeepMust
import Derived.Deep.RegionHeld3
import Derived.Lib.Strings
import Derived.Test.YtohliaellefhaaaDoorShelf
import Derived.Shelf.Unicode.WordAny
import Derived.Lib.ValidAsc
import Derived.Laws.BitsAllLaws
import Derived.Deep.QuietTactic
import Derived.BigQuiet
namespace Go.Proofs.YtohliaellefhaaaDoor
set_option linter.unusedVariables false
open Go.RowKit

/-- string of a new block of bytes. -/
theorem str_new (w : World) (arr : Array Value) (o : List UInt8) (n : Nat) (ha : arr = (cells (nums o)).toArray) (hn : n = o.length) : ∀ dst, Tryd.prog.underlying dst = some .string →
    (convert 36 dst (.slice (some ⟨w.heap.size, 0, none⟩) n n)).run Tryd.prog (w.alloc (.cells arr 5)) = .ok (.string (S o)) (w.alloc (.cells arr 5)) := by
  subst hn
  have h : Lies (w.alloc (.cells arr 5)) (w.heap.size + 1) (some ⟨w.heap.size, 0, none⟩) (cells (nums o)) := by
    intro i v hv
    refine ⟨w.heap.size, 0, rfl, by omega, ?_⟩
    rw [Nat.zero_add, cell_of_row _ w.heap.size i _ _ (0, 0) (heap_alloc_new w _), ha]
    simpa using hv
  by_cases h0 : 0 < (nums o).length
  · have := str_lies h h0 o.length Tryd.underlying36 Tryd.underlying5
    rw [strOfNums_nums, nums_length] at this
    exact this
  · have ho : o = [] := List.eq_nil_of_length_eq_zero (by rw [nums_length] at h0; omega)
    subst ho
    intro dst hd
    rw [run_convert_bytes_string _ _ dst 5 _ _ _ Tryd.underlying36 Tryd.underlying5 hd]
    have e : S [] = ByteArray.empty := rfl
    rw [e]
    simp [Conv.bytesToString, loadCells]
    rfl
theorem u8n {n : Nat} (h : n < 256) : ((UInt8.ofNat n).toNat : Int) = (n : Int) := by rw [u8_of h]
theorem bytesZ_neg {c : Int} (h : c < 0 ∨ 1114111 < c ∨ (55296 ≤ c ∧ c ≤ 57343)) : bytesZ c = [] := by
  unfold bytesZ bytesN
  by_cases h0 : c < 0
  · rw [if_pos h0]
  · rw [if_neg h0, if_pos (by omega)]
theorem bytesZ_1 {c : Int} (h0 : 0 ≤ c) (h1 : c < 128) : ∃ o, bytesZ c = o ∧ (cells (nums o)).toArray = #[.int .u8 c] ∧ o.length = 1 := by
  refine ⟨[UInt8.ofNat c.toNat], ?_, ?_, rfl⟩
  · unfold bytesZ bytesN; rw [if_neg (by omega), if_neg (by omega), if_pos (by omega)]
  · simp only [cells, nums, List.map_cons, List.map_nil]
    rw [u8n (by omega), show ((c.toNat : Nat) : Int) = c by omega]
theorem bytesZ_2 {c : Int} (h0 : 128 ≤ c) (h1 : c < 2048) : ∃ o, bytesZ c = o ∧ (cells (nums o)).toArray = #[.int .u8 (192 + c / 64), .int .u8 (128 + c % 64)] ∧ o.length = 2 := by
  refine ⟨[UInt8.ofNat (192 + c.toNat / 64), UInt8.ofNat (128 + c.toNat % 64)], ?_, ?_, rfl⟩
  · unfold bytesZ bytesN; rw [if_neg (by omega), if_neg (by omega), if_neg (by omega), if_pos (by omega)]
  · simp only [cells, nums, List.map_cons, List.map_nil]
    rw [u8n (by omega), u8n (by omega), show ((192 + c.toNat / 64 : Nat) : Int) = 192 + c / 64 by omega, show ((128 + c.toNat % 64 : Nat) : Int) = 128 + c % 64 by omega]
theorem bytesZ_3 {c : Int} (h0 : 2048 ≤ c) (h1 : c < 65536) (h2 : ¬ (55296 ≤ c ∧ c ≤ 57343)) : ∃ o, bytesZ c = o ∧ (cells (nums o)).toArray = #[.int .u8 (224 + c / 4096), .int .u8 (128 + c / 64 % 64), .int .u8 (128 + c % 64)] ∧ o.length = 3 := by
  refine ⟨[UInt8.ofNat (224 + c.toNat / 4096), UInt8.ofNat (128 + c.toNat / 64 % 64), UInt8.ofNat (128 + c.toNat % 64)], ?_, ?_, rfl⟩
  · unfold bytesZ bytesN; rw [if_neg (by omega), if_neg (by omega), if_neg (by omega), if_neg (by omega), if_pos (by omega)]
  · simp only [cells, nums, List.map_cons, List.map_nil]
    rw [u8n (by omega), u8n (by omega), u8n (by omega), show ((224 + c.toNat / 4096 : Nat) : Int) = 224 + c / 4096 by omega, show ((128 + c.toNat / 64 % 64 : Nat) : Int) = 128 + c / 64 % 64 by omega, show ((128 + c.toNat % 64 : Nat) : Int) = 128 + c % 64 by omega]
theorem bytesZ_4 {c : Int} (h0 : 65536 ≤ c) (h1 : c ≤ 1114111) : ∃ o, bytesZ c = o ∧ (cells (nums o)).toArray = #[.int .u8 (240 + c / 262144), .int .u8 (128 + c / 4096 % 64), .int .u8 (128 + c / 64 % 64), .int .u8 (128 + c % 64)] ∧ o.length = 4 := by
  refine ⟨[UInt8.ofNat (240 + c.toNat / 262144), UInt8.ofNat (128 + c.toNat / 4096 % 64), UInt8.ofNat (128 + c.toNat / 64 % 64), UInt8.ofNat (128 + c.toNat % 64)], ?_, ?_, rfl⟩
  · unfold bytesZ bytesN; rw [if_neg (by omega), if_neg (by omega), if_neg (by omega), if_neg (by omega), if_neg (by omega)]
  · simp only [cells, nums, List.map_cons, List.map_nil]
    rw [u8n (by omega), u8n (by omega), u8n (by omega), u8n (by omega), show ((240 + c.toNat / 262144 : Nat) : Int) = 240 + c / 262144 by omega, show ((128 + c.toNat / 4096 % 64 : Nat) : Int) = 128 + c / 4096 % 64 by omega, show ((128 + c.toNat / 64 % 64 : Nat) : Int) = 128 + c / 64 % 64 by omega, show ((128 + c.toNat % 64 : Nat) : Int) = 128 + c % 64 by omega]

def BytesOut (c : Int) (w : World) (e : Ending) (w' : World) : Prop := e = .returned (.string (S (bytesZ c))) ∧ (w' = w ∨ ∃ o, w' = w.alloc o)
theorem BytesOut.below {c : Int} {w w' : World} {e : Ending} (h : BytesOut c w e w') : Below w.heap.size w w' := by
  rcases h.2 with rfl | ⟨o, rfl⟩
  · exact Below.refl _ _
  · exact (Below.refl _ _).alloc (Nat.le_refl _) _
set_option maxHeartbeats 2000000 in
theorem bytes_any (c : Int) (w : World) : Calls Tryd.prog 41 #[.int .i64 c] w (BytesOut c w) := by
  by_cases h0 : c < 0
  · have HE := Lib.hid (bytesZ_neg (.inl h0))
    go_enter Tryd.func41, Tryd.ntmps41
    go_wp2
    go_ret
    exact ⟨by rw [HE.out]; rfl, .inl rfl⟩
  have h0' : 0 ≤ c := by omega
  have d0 : decide (c < 0) = false := by simpa using h0
  by_cases h1 : 1114111 < c
  · have HE := Lib.hid (bytesZ_neg (.inr (.inl h1)))
    go_enter Tryd.func41, Tryd.ntmps41
    go_wp2
    go_ret
    exact ⟨by rw [HE.out]; rfl, .inl rfl⟩
  have h1' : c ≤ 1114111 := by omega
  have d1 : decide (1114111 < c) = false := by simpa using h1
  by_cases h2 : 55296 ≤ c ∧ c ≤ 57343
  · obtain ⟨h2a, h2b⟩ := h2
    have HE := Lib.hid (bytesZ_neg (.inr (.inr ⟨h2a, h2b⟩)))
    go_enter Tryd.func41, Tryd.ntmps41
    go_wp2
    go_ret
    exact ⟨by rw [HE.out]; rfl, .inl rfl⟩
  by_cases h3 : c < 128
  · obtain ⟨o, ho, ha, hn⟩ := bytesZ_1 h0' h3
    have hstr := str_new w _ o _ ha.symm hn.symm
    have d2 : decide (55296 ≤ c) = false := by simp; omega
    have HE := Lib.hid ho
    clear ho ha hn h2
    go_enter Tryd.func41, Tryd.ntmps41
    go_wp2
    go_ret
    exact ⟨by rw [HE.out]; rfl, .inr ⟨_, rfl⟩⟩
  have d3 : decide (c < 128) = false := by simpa using h3
  by_cases h4 : c < 2048
  · obtain ⟨o, ho, ha, hn⟩ := bytesZ_2 (by omega) h4
    have hstr := str_new w _ o _ ha.symm hn.symm
    have d2 : decide (55296 ≤ c) = false := by simp; omega
    have HE := Lib.hid ho
    clear ho ha hn h2
    go_enter Tryd.func41, Tryd.ntmps41
    go_wp2
    go_ret
    exact ⟨by rw [HE.out]; rfl, .inr ⟨_, rfl⟩⟩
  have d4 : decide (c < 2048) = false := by simpa using h4
  have h5 : c < 55296 ∨ 57343 < c := by omega
  rcases h5 with h5 | h5
  · obtain ⟨o, ho, ha, hn⟩ := bytesZ_3 (c := c) (by omega) (by omega) h2
    have hstr := str_new w _ o _ ha.symm hn.symm
    have d2 : decide (55296 ≤ c) = false := by simp; omega
    have d5 : c < 65536 := by omega
    have HE := Lib.hid ho
    clear ho ha hn h2
    go_enter Tryd.func41, Tryd.ntmps41
    go_wp2
    go_ret
    exact ⟨by rw [HE.out]; rfl, .inr ⟨_, rfl⟩⟩
  have d5 : 55296 ≤ c := by omega
  have d6 : decide (c ≤ 57343) = false := by simp; omega
  by_cases h6 : c < 65536
  · obtain ⟨o, ho, ha, hn⟩ := bytesZ_3 (c := c) (by omega) h6 h2
    have hstr := str_new w _ o _ ha.symm hn.symm
    have HE := Lib.hid ho
    clear ho ha hn h2
    go_enter Tryd.func41, Tryd.ntmps41
    go_wp2
    go_ret
    exact ⟨by rw [HE.out]; rfl, .inr ⟨_, rfl⟩⟩
  · obtain ⟨o, ho, ha, hn⟩ := bytesZ_4 (c := c) (by omega) h1'
    have hstr := str_new w _ o _ ha.symm hn.symm
    have d7 : decide (c < 65536) = false := by simpa using h6
    have HE := Lib.hid ho
    clear ho ha hn h2
    go_enter Tryd.func41, Tryd.ntmps41
    go_wp2
    go_ret
    exact ⟨by rw [HE.out]; rfl, .inr ⟨_, rfl⟩⟩
end Go.Proofs.YtohliaellefhaaaDoor

/- creelref03.First. -/
namespace Go.Proofs.YtohliaellefhaaaDoor
set_option linter.unusedVariables false
open Go.RowKit

/-- The number out of the first byte's bits and the bytes 1 to k. -/
def part (base : Nat) (l : List UInt8) : Nat → Nat
  | 0 => base
  | k + 1 => part base l k * 64 + (l.getD (k + 1) 0).toNat % 64
theorem part_lt (base : Nat) (l : List UInt8) (h : base < 256) : ∀ k, part base l k < 256 * 64 ^ k
  | 0 => by simpa [part] using h
  | k + 1 => by
    have := part_lt base l h k
    unfold part
    rw [Nat.pow_succ]
    omega
theorem part_le {base : Nat} {l : List UInt8} {k : Nat} (h : base < 256) (hk : k ≤ 3) : part base l k ≤ 67108864 := by
  have := part_lt base l h k
  have h2 : 64 ^ k ≤ 64 ^ 3 := Nat.pow_le_pow_right (by omega) hk
  have : 256 * 64 ^ k ≤ 256 * 64 ^ 3 := Nat.mul_le_mul_left _ h2
  have : 256 * 64 ^ 3 = 67108864 := by decide
  omega
def baseOf (n : Nat) (b0 : Nat) : Nat := if n = 1 then b0 else if n = 2 then b0 % 32 else if n = 3 then b0 % 16 else b0 % 8
theorem part_val {n : Nat} {l : List UInt8} (h1 : 1 ≤ n) (h4 : n ≤ 4) : part (baseOf n (l.getD 0 0).toNat) l (n - 1) = val n l := by
  have hn : n = 1 ∨ n = 2 ∨ n = 3 ∨ n = 4 := by omega
  rcases hn with rfl | rfl | rfl | rfl <;> simp [part, baseOf, val]
theorem bytesZ_nat (n : Nat) : bytesZ (n : Int) = bytesN n := by
  unfold bytesZ
  rw [if_neg (by omega)]
  rfl
theorem good_bool {n : Nat} {l : List UInt8} (hn : n ≤ l.length) (h : GoodN n l) : ((S (bytesN (val n l))).toList == ((S l).extract 0 n).toList) = true := by
  rw [S_toList, S_extract, S_toList]
  have := h.2
  simp [this]
theorem bad_bool {n : Nat} {l : List UInt8} (hn : n ≤ l.length) (h : ¬ GoodN n l) : ((S (bytesN (val n l))).toList == ((S l).extract 0 n).toList) = false := by
  rw [S_toList, S_extract, S_toList]
  simp only [Nat.sub_zero, List.drop_zero, beq_eq_false_iff_ne]
  exact fun e => h ⟨hn, e⟩
theorem val_eq {k : IntKind} {a b : Int} (h : a = b) : Value.int k a = .int k b := by rw [h]
theorem two {B : Nat} {a w1 w2 : World} (h : Below B a w1) (hB : B ≤ a.heap.size) (k : Below w1.heap.size w1 w2) : Below B a w2 := h.trans (k.mono (Nat.le_trans hB h.size))
def FirstOut (l : List UInt8) (w : World) (e : Ending) (w' : World) : Prop := e = .returned (.tuple #[.int .i64 ((firstN l).1 : Int), .int .i64 ((firstN l).2 : Int)]) ∧ Below w.heap.size w w'
theorem firstOut_good {l : List UInt8} {n : Nat} {w w' : World} (h1 : 1 ≤ n) (h4 : n ≤ 4) (h : GoodN n l) (hb : Below w.heap.size w w') : FirstOut l w (.returned (.tuple #[.int .i64 ((val n l : Nat) : Int), .int .i64 (n : Int)])) w' := by
  unfold FirstOut
  rw [firstN_good h1 h4 h]
  exact ⟨rfl, hb⟩
theorem firstOut_none {l : List UInt8} {w w' : World} (h : ∀ n, 1 ≤ n → n ≤ 4 → ¬ GoodN n l) (hb : Below w.heap.size w w') : FirstOut l w (.returned (.tuple #[.int .i64 0, .int .i64 0])) w' := by
  unfold FirstOut
  rw [firstN_none h]
  exact ⟨rfl, hb⟩

set_option maxRecDepth 100000 in
set_option maxHeartbeats 2000000 in
theorem refFirst_any (l : List UInt8) (w : World) (hl : l.length ≤ 1000000) : Calls Tryd.prog 24 #[.string (S l)] w (FirstOut l w) := by
  obtain ⟨z, hz⟩ : ∃ z, S l = z := ⟨_, rfl⟩
  have hN : z.size = l.length := by rw [← hz, S_size]
  have hg : ∀ (i : Nat) (h : i < z.size), z[i] = l.getD i 0 := fun i h => by
    subst hz
    rw [S_get]
    rw [S_size] at h
    simp [List.getD, List.getElem?_eq_getElem h]
  rw [hz]
  have hz9 : z.size ≤ 1000000 := by omega
  have HZ := Lib.hid hz
  have HN := Lib.hid hN
  have HG := Lib.hid hg
  clear hz hN hg
  go_enter Tryd.func24, Tryd.ntmps24
  go_wp2
  go_loopw [4] (fun v wr => ∃ n : Int, v = .int .i64 n ∧ 1 ≤ n ∧ n ≤ 5 ∧ (∀ m : Nat, 1 ≤ m → (m : Int) < n → ¬ GoodN m l) ∧ Below w.heap.size w wr) (fun v _ => 5 - (intOf v).toNat)
  case atStart => exact ⟨1, rfl, by omega, by omega, fun m a b => by omega, Below.refl _ _⟩
  case round =>
    obtain ⟨n, rfl, h1, h5, hno, hbe⟩ := hrel
    have HNO := Lib.hid hno
    have HB := Lib.hid hbe
    clear hno hbe
    by_cases h4 : n ≤ 4
    · by_cases hfit : n ≤ z.size
      · have hz0 : 0 < z.size := by omega
        obtain ⟨b0, hb0⟩ : ∃ b0, z[0] = b0 := ⟨_, rfl⟩
        have lb0 := b0.toNat_lt
        have hgb : l.getD 0 0 = b0 := by rw [← hb0]; exact (HG.out 0 hz0).symm
        have HGB := Lib.hid hgb
        clear hgb
        have hn : n = 1 ∨ n = 2 ∨ n = 3 ∨ n = 4 := by omega
        rcases hn with rfl | rfl | rfl | rfl
        · have hf1 : (1 : Int) ≤ (z.size : Int) := by omega
          have hb9 : baseOf 1 b0.toNat < 256 := by unfold baseOf; simp; omega
          go_wp2
          go_loop [5, 6] (fun v i => ∃ k : Nat, i = .int .i64 ((k : Int) + 1) ∧ k + 1 ≤ 1 ∧ v = .int .i64 ((part (baseOf 1 b0.toNat) l k : Nat) : Int)) (fun _ i => 1 - (intOf i).toNat)
          case atStart => exact ⟨0, rfl, by omega, val_eq (by show _ = ((baseOf 1 b0.toNat : Nat) : Int); unfold baseOf; simp)⟩
          case round =>
            obtain ⟨k, rfl, hk, rfl⟩ := hrel
            have hp9 := part_le (l := l) hb9 (k := k) (by omega)
            by_cases hk2 : k + 1 < 1
            · omega
            · obtain rfl : k = 0 := by omega
              have hv : part (baseOf 1 b0.toNat) l 0 = val 1 l := by rw [← HGB.out]; exact part_val (n := 1) (by omega) (by omega)
              rw [hv] at hp9 ⊢
              have hk3 : decide (((0 : Nat) : Int) + 1 < 1) = false := by decide
              have hnl : 1 ≤ l.length := by have := HN.out; omega
              have hbz : bytesZ ((val 1 l : Nat) : Int) = bytesN (val 1 l) := bytesZ_nat _
              have HBZ := Lib.hid hbz
              clear hbz hv
              by_cases hg : GoodN 1 l
              · have he := good_bool hnl hg
                rw [HZ.out] at he
                have HGD := Lib.hid hg
                clear hg
                generalize hq : val 1 l = q at *
                have HQ := Lib.hid hq
                clear hq
                go_wp2_with fail
                go_region_held3 (fun _ => True) (trivial) ((go_at_call 41; refine (bytes_any _ _).mono ?_; intro e w' hb; have hb0 := hb.below; obtain ⟨rfl, _⟩ := hb; rw [HBZ.out]; have HB2 := Lib.hid hb0; clear hb0))
                all_goals
                  go_wp2
                  go_ret2
                  exact (HQ.out ▸ firstOut_good (n := 1) (by omega) (by omega) HGD.out (two HB.out.drew (Nat.le_refl _) HB2.out))
              · have he := bad_bool hnl hg
                rw [HZ.out] at he
                have F : ∀ m : Nat, 1 ≤ m → (m : Int) < 1 + 1 → ¬ GoodN m l := fun m a b g => by
                  by_cases hm : (m : Int) < 1
                  · exact HNO.out m a hm g
                  · obtain rfl : m = 1 := by omega
                    exact hg g
                have HF := Lib.hid F
                clear F hg
                generalize hq : val 1 l = q at *
                go_wp2_with fail
                go_region_held3 (fun _ => True) (trivial) ((go_at_call 41; refine (bytes_any _ _).mono ?_; intro e w' hb; have hb0 := hb.below; obtain ⟨rfl, _⟩ := hb; rw [HBZ.out]; have HB2 := Lib.hid hb0; clear hb0))
                all_goals
                  go_wp2
                  go_roundw
                  case rel => exact ⟨2, rfl, by omega, by omega, HF.out, two HB.out.drew (Nat.le_refl _) HB2.out⟩
                  case measure => simp [intOf]
        · have hf1 : (2 : Int) ≤ (z.size : Int) := by omega
          have hb9 : baseOf 2 b0.toNat < 256 := by unfold baseOf; simp; omega
          go_wp2
          go_loop [5, 6] (fun v i => ∃ k : Nat, i = .int .i64 ((k : Int) + 1) ∧ k + 1 ≤ 2 ∧ v = .int .i64 ((part (baseOf 2 b0.toNat) l k : Nat) : Int)) (fun _ i => 2 - (intOf i).toNat)
          case atStart => exact ⟨0, rfl, by omega, val_eq (by show _ = ((baseOf 2 b0.toNat : Nat) : Int); unfold baseOf; simp)⟩
          case round =>
            obtain ⟨k, rfl, hk, rfl⟩ := hrel
            have hp9 := part_le (l := l) hb9 (k := k) (by omega)
            by_cases hk2 : k + 1 < 2
            · have hkz : k + 1 < z.size := by omega
              obtain ⟨x, hx⟩ : ∃ x, z[k + 1] = x := ⟨_, rfl⟩
              have lx := x.toNat_lt
              have hpart : part (baseOf 2 b0.toNat) l (k + 1) = part (baseOf 2 b0.toNat) l k * 64 + x.toNat % 64 := by
                rw [← hx, HG.out (k + 1) hkz]; rfl
              have HP := Lib.hid hpart
              clear hpart
              generalize hq : part (baseOf 2 b0.toNat) l k = q at *
              have HQ := Lib.hid hq
              clear hq
              go_wp2
              go_round
              case rel => exact ⟨k + 1, by go_num, by omega, val_eq (by rw [HP.out]; omega)⟩
              case measure => simp [intOf]; omega
            · obtain rfl : k = 1 := by omega
              have hv : part (baseOf 2 b0.toNat) l 1 = val 2 l := by rw [← HGB.out]; exact part_val (n := 2) (by omega) (by omega)
              rw [hv] at hp9 ⊢
              have hk3 : decide (((1 : Nat) : Int) + 1 < 2) = false := by decide
              have hnl : 2 ≤ l.length := by have := HN.out; omega
              have hbz : bytesZ ((val 2 l : Nat) : Int) = bytesN (val 2 l) := bytesZ_nat _
              have HBZ := Lib.hid hbz
              clear hbz hv
              by_cases hg : GoodN 2 l
              · have he := good_bool hnl hg
                rw [HZ.out] at he
                have HGD := Lib.hid hg
                clear hg
                generalize hq : val 2 l = q at *
                have HQ := Lib.hid hq
                clear hq
                go_wp2_with fail
                go_region_held3 (fun _ => True) (trivial) ((go_at_call 41; refine (bytes_any _ _).mono ?_; intro e w' hb; have hb0 := hb.below; obtain ⟨rfl, _⟩ := hb; rw [HBZ.out]; have HB2 := Lib.hid hb0; clear hb0))
                all_goals
                  go_wp2
                  go_ret2
                  exact (HQ.out ▸ firstOut_good (n := 2) (by omega) (by omega) HGD.out (two HB.out.drew (Nat.le_refl _) HB2.out))
              · have he := bad_bool hnl hg
                rw [HZ.out] at he
                have F : ∀ m : Nat, 1 ≤ m → (m : Int) < 2 + 1 → ¬ GoodN m l := fun m a b g => by
                  by_cases hm : (m : Int) < 2
                  · exact HNO.out m a hm g
                  · obtain rfl : m = 2 := by omega
                    exact hg g
                have HF := Lib.hid F
                clear F hg
                generalize hq : val 2 l = q at *
                go_wp2_with fail
                go_region_held3 (fun _ => True) (trivial) ((go_at_call 41; refine (bytes_any _ _).mono ?_; intro e w' hb; have hb0 := hb.below; obtain ⟨rfl, _⟩ := hb; rw [HBZ.out]; have HB2 := Lib.hid hb0; clear hb0))
                all_goals
                  go_wp2
                  go_roundw
                  case rel => exact ⟨3, rfl, by omega, by omega, HF.out, two HB.out.drew (Nat.le_refl _) HB2.out⟩
                  case measure => simp [intOf]
        · have hf1 : (3 : Int) ≤ (z.size : Int) := by omega
          have hb9 : baseOf 3 b0.toNat < 256 := by unfold baseOf; simp; omega
          go_wp2
          go_loop [5, 6] (fun v i => ∃ k : Nat, i = .int .i64 ((k : Int) + 1) ∧ k + 1 ≤ 3 ∧ v = .int .i64 ((part (baseOf 3 b0.toNat) l k : Nat) : Int)) (fun _ i => 3 - (intOf i).toNat)
          case atStart => exact ⟨0, rfl, by omega, val_eq (by show _ = ((baseOf 3 b0.toNat : Nat) : Int); unfold baseOf; simp)⟩
          case round =>
            obtain ⟨k, rfl, hk, rfl⟩ := hrel
            have hp9 := part_le (l := l) hb9 (k := k) (by omega)
            by_cases hk2 : k + 1 < 3
            · have hkz : k + 1 < z.size := by omega
              obtain ⟨x, hx⟩ : ∃ x, z[k + 1] = x := ⟨_, rfl⟩
              have lx := x.toNat_lt
              have hpart : part (baseOf 3 b0.toNat) l (k + 1) = part (baseOf 3 b0.toNat) l k * 64 + x.toNat % 64 := by
                rw [← hx, HG.out (k + 1) hkz]; rfl
              have HP := Lib.hid hpart
              clear hpart
              generalize hq : part (baseOf 3 b0.toNat) l k = q at *
              have HQ := Lib.hid hq
              clear hq
              go_wp2
              go_round
              case rel => exact ⟨k + 1, by go_num, by omega, val_eq (by rw [HP.out]; omega)⟩
              case measure => simp [intOf]; omega
            · obtain rfl : k = 2 := by omega
              have hv : part (baseOf 3 b0.toNat) l 2 = val 3 l := by rw [← HGB.out]; exact part_val (n := 3) (by omega) (by omega)
              rw [hv] at hp9 ⊢
              have hk3 : decide (((2 : Nat) : Int) + 1 < 3) = false := by decide
              have hnl : 3 ≤ l.length := by have := HN.out; omega
              have hbz : bytesZ ((val 3 l : Nat) : Int) = bytesN (val 3 l) := bytesZ_nat _
              have HBZ := Lib.hid hbz
              clear hbz hv
              by_cases hg : GoodN 3 l
              · have he := good_bool hnl hg
                rw [HZ.out] at he
                have HGD := Lib.hid hg
                clear hg
                generalize hq : val 3 l = q at *
                have HQ := Lib.hid hq
                clear hq
                go_wp2_with fail
                go_region_held3 (fun _ => True) (trivial) ((go_at_call 41; refine (bytes_any _ _).mono ?_; intro e w' hb; have hb0 := hb.below; obtain ⟨rfl, _⟩ := hb; rw [HBZ.out]; have HB2 := Lib.hid hb0; clear hb0))
                all_goals
                  go_wp2
                  go_ret2
                  exact (HQ.out ▸ firstOut_good (n := 3) (by omega) (by omega) HGD.out (two HB.out.drew (Nat.le_refl _) HB2.out))
              · have he := bad_bool hnl hg
                rw [HZ.out] at he
                have F : ∀ m : Nat, 1 ≤ m → (m : Int) < 3 + 1 → ¬ GoodN m l := fun m a b g => by
                  by_cases hm : (m : Int) < 3
                  · exact HNO.out m a hm g
                  · obtain rfl : m = 3 := by omega
                    exact hg g
                have HF := Lib.hid F
                clear F hg
                generalize hq : val 3 l = q at *
                go_wp2_with fail
                go_region_held3 (fun _ => True) (trivial) ((go_at_call 41; refine (bytes_any _ _).mono ?_; intro e w' hb; have hb0 := hb.below; obtain ⟨rfl, _⟩ := hb; rw [HBZ.out]; have HB2 := Lib.hid hb0; clear hb0))
                all_goals
                  go_wp2
                  go_roundw
                  case rel => exact ⟨4, rfl, by omega, by omega, HF.out, two HB.out.drew (Nat.le_refl _) HB2.out⟩
                  case measure => simp [intOf]
        · have hf1 : (4 : Int) ≤ (z.size : Int) := by omega
          have hb9 : baseOf 4 b0.toNat < 256 := by unfold baseOf; simp; omega
          go_wp2
          go_loop [5, 6] (fun v i => ∃ k : Nat, i = .int .i64 ((k : Int) + 1) ∧ k + 1 ≤ 4 ∧ v = .int .i64 ((part (baseOf 4 b0.toNat) l k : Nat) : Int)) (fun _ i => 4 - (intOf i).toNat)
          case atStart => exact ⟨0, rfl, by omega, val_eq (by show _ = ((baseOf 4 b0.toNat : Nat) : Int); unfold baseOf; simp)⟩
          case round =>
            obtain ⟨k, rfl, hk, rfl⟩ := hrel
            have hp9 := part_le (l := l) hb9 (k := k) (by omega)
            by_cases hk2 : k + 1 < 4
            · have hkz : k + 1 < z.size := by omega
              obtain ⟨x, hx⟩ : ∃ x, z[k + 1] = x := ⟨_, rfl⟩
              have lx := x.toNat_lt
              have hpart : part (baseOf 4 b0.toNat) l (k + 1) = part (baseOf 4 b0.toNat) l k * 64 + x.toNat % 64 := by
                rw [← hx, HG.out (k + 1) hkz]; rfl
              have HP := Lib.hid hpart
              clear hpart
              generalize hq : part (baseOf 4 b0.toNat) l k = q at *
              have HQ := Lib.hid hq
              clear hq
              go_wp2
              go_round
              case rel => exact ⟨k + 1, by go_num, by omega, val_eq (by rw [HP.out]; omega)⟩
              case measure => simp [intOf]; omega
            · obtain rfl : k = 3 := by omega
              have hv : part (baseOf 4 b0.toNat) l 3 = val 4 l := by rw [← HGB.out]; exact part_val (n := 4) (by omega) (by omega)
              rw [hv] at hp9 ⊢
              have hk3 : decide (((3 : Nat) : Int) + 1 < 4) = false := by decide
              have hnl : 4 ≤ l.length := by have := HN.out; omega
              have hbz : bytesZ ((val 4 l : Nat) : Int) = bytesN (val 4 l) := bytesZ_nat _
              have HBZ := Lib.hid hbz
              clear hbz hv
              by_cases hg : GoodN 4 l
              · have he := good_bool hnl hg
                rw [HZ.out] at he
                have HGD := Lib.hid hg
                clear hg
                generalize hq : val 4 l = q at *
                have HQ := Lib.hid hq
                clear hq
                go_wp2_with fail
                go_region_held3 (fun _ => True) (trivial) ((go_at_call 41; refine (bytes_any _ _).mono ?_; intro e w' hb; have hb0 := hb.below; obtain ⟨rfl, _⟩ := hb; rw [HBZ.out]; have HB2 := Lib.hid hb0; clear hb0))
                all_goals
                  go_wp2
                  go_ret2
                  exact (HQ.out ▸ firstOut_good (n := 4) (by omega) (by omega) HGD.out (two HB.out.drew (Nat.le_refl _) HB2.out))
              · have he := bad_bool hnl hg
                rw [HZ.out] at he
                have F : ∀ m : Nat, 1 ≤ m → (m : Int) < 4 + 1 → ¬ GoodN m l := fun m a b g => by
                  by_cases hm : (m : Int) < 4
                  · exact HNO.out m a hm g
                  · obtain rfl : m = 4 := by omega
                    exact hg g
                have HF := Lib.hid F
                clear F hg
                generalize hq : val 4 l = q at *
                go_wp2_with fail
                go_region_held3 (fun _ => True) (trivial) ((go_at_call 41; refine (bytes_any _ _).mono ?_; intro e w' hb; have hb0 := hb.below; obtain ⟨rfl, _⟩ := hb; rw [HBZ.out]; have HB2 := Lib.hid hb0; clear hb0))
                all_goals
                  go_wp2
                  go_roundw
                  case rel => exact ⟨5, rfl, by omega, by omega, HF.out, two HB.out.drew (Nat.le_refl _) HB2.out⟩
                  case measure => simp [intOf]
      · have hd : decide (n ≤ (z.size : Int)) = false := by simp; omega
        have F : ∀ m, 1 ≤ m → m ≤ 4 → ¬ GoodN m l := fun m a b g => by
          by_cases hm : (m : Int) < n
          · exact HNO.out m a hm g
          · have := g.1; have := HN.out; omega
        have HF := Lib.hid F
        clear F
        go_wp2
        go_ret2
        exact firstOut_none HF.out HB.out
    · have hd : decide (n ≤ 4) = false := by simp; omega
      have F : ∀ m : Nat, 1 ≤ m → m ≤ 4 → ¬ GoodN m l := fun m a b => HNO.out m a (by omega)
      have HF := Lib.hid F
      clear F
      go_wp2
      go_ret2
      exact firstOut_none HF.out HB.out
end Go.Proofs.YtohliaellefhaaaDoor

/- creelref03.Count. -/
namespace Go.Proofs.YtohliaellefhaaaDoor
set_option linter.unusedVariables false
open Go.RowKit Go.Lib

def strLen : Value → Nat
  | .string s => s.size
  | _ => 0
theorem run_tail {n : Nat} {l : List UInt8} (h : n ≤ l.length) (w : World) : (Instr.slice 9 (.string (S l)) (some (.int .i64 (n : Int))) none none).run Tryd.prog w = .ok (.string (S (l.drop n))) w := by
  have h := run_slice_string_l (P := Tryd.prog) w 9 (S l) Tryd.underlying9 .i64 (n : Int) (by omega) (by rw [S_size]; omega)
  rw [h, S_extract, S_size, show ((n : Int)).toNat = n from rfl, List.take_of_length_le (by simp)]
theorem countZ_nil : countZ [] = 0 := by decide
theorem ret_val {k : IntKind} {a b : Int} (h : a = b) : Ending.returned (.int k a) = .returned (.int k b) := by rw [h]

set_option maxHeartbeats 1000000 in
theorem refCount_any (l : List UInt8) (w : World) (hl : l.length ≤ 1000000) : Calls Tryd.prog 13 #[.string (S l)] w fun e w' => e = .returned (.int .i64 (countZ l)) ∧ Below w.heap.size w w' := by
  go_enter Tryd.func13, Tryd.ntmps13
  go_wp2
  go_loopw [0, 3] (fun v c wr => ∃ (r : List UInt8) (k : Nat), v = .string (S r) ∧ c = .int .i64 k ∧ validD l = validD r ∧ runeCountL l = k + runeCountL r ∧ r.length ≤ 1000000 ∧ Below w.heap.size w wr) (fun v _ _ => strLen v)
  case atStart => exact ⟨l, 0, rfl, rfl, rfl, by omega, hl, Below.refl _ _⟩
  case round =>
    obtain ⟨r, k, rfl, rfl, hv, hc, hr, hbe⟩ := hrel
    have HB := Lib.hid hbe
    have hk : k ≤ 1000000 := by have := count_le l; omega
    clear hbe
    by_cases h0 : r = []
    · subst h0
      have e : countZ l = (k : Int) := by
        unfold countZ
        rw [if_pos (by rw [hv]; rfl), hc]
        have : runeCountL [] = 0 := rfl
        omega
      have HE := Lib.hid e
      have hz : (S []).size = 0 := rfl
      clear hv hc e
      go_wp2
      go_ret
      exact ⟨ret_val HE.out.symm, HB.out⟩
    · have hlen : 0 < r.length := List.length_pos_iff.2 h0
      have hz : 0 < (S r).size := by rw [S_size]; exact hlen
      have hle := firstN_le r
      by_cases hn : (firstN r).2 = 0
      · have e : countZ l = -1 := by
          unfold countZ
          rw [if_neg (by rw [hv, valid_none h0 hn]; simp)]
        have HE := Lib.hid e
        have HH := Lib.hid hn
        clear hv hc e hn
        go_wp2_with fail
        refine (refFirst_any r _ hr).mono ?_
        rintro e w1 ⟨rfl, hb1⟩
        rw [HH.out]
        have H1 := Lib.hid (two HB.out (Nat.le_refl _) hb1)
        clear hb1 HB
        go_wp2
        go_ret
        exact ⟨ret_val HE.out.symm, H1.out⟩
      · have hv2 := valid_some h0 hn
        have hc2 := count_some h0 hn
        have hsl := run_tail (n := (firstN r).2) (l := r) hle.2.1
        have hlt : strLen (.string (S (r.drop (firstN r).2))) < strLen (.string (S r)) := by
          show (S _).size < (S _).size
          rw [S_size, S_size, List.length_drop]; omega
        have hr2 : (r.drop (firstN r).2).length ≤ 1000000 := by rw [List.length_drop]; omega
        have HV := Lib.hid (hv.trans hv2)
        have HC := Lib.hid (show runeCountL l = (k + 1) + runeCountL (r.drop (firstN r).2) by omega)
        have HL := Lib.hid hlt
        have HR := Lib.hid hr2
        have hne : (((firstN r).2 : Int) == 0) = false := beq_eq_false_iff_ne.2 (by omega)
        clear hv hc hv2 hc2 hlt hr2
        go_wp2_with fail
        refine (refFirst_any r _ hr).mono ?_
        rintro e w1 ⟨rfl, hb1⟩
        have H1 := Lib.hid (two HB.out (Nat.le_refl _) hb1)
        clear hb1 HB
        generalize (firstN r).2 = n at *
        generalize (firstN r).1 = v at *
        go_wp2
        go_roundw
        case rel => exact ⟨_, k + 1, rfl, by go_num, HV.out, HC.out, HR.out, H1.out⟩
        case measure => exact HL.out
end Go.Proofs.YtohliaellefhaaaDoor

/- utf.First, utf.Count, utf.Check over the library's contracts. -/
namespace Go.Proofs.YtohliaellefhaaaDoor
set_option linter.unusedVariables false
set_option maxRecDepth 100000
open Go.RowKit Go.Lib

/-- The two tables of unicode/utf8 hold what they are laid with. -/
def Tabs (w : World) : Prop := Lib.Utf8Tabs 1 2 w
theorem Tabs.below {w wr : World} (h : Tabs w) (hb : Below w.heap.size w wr) : Tabs wr := Utf8Tabs_below h hb
theorem Tabs.on {B w wr : World} (h : Tabs B) (hB : Below B.heap.size B w) (hb : Below w.heap.size w wr) : Tabs wr := (h.below hB).below hb

/-- api.ErrLong is 13, api.ErrUTF 4, api.OK 0. -/
def checkZ (l : List UInt8) : Int := if 200 < l.length then 13 else if validD l = true then 0 else 4
/-- The bytes l lie at b, from off on. -/
def Bys (w : World) (b off : Nat) (l : List UInt8) : Prop := ∀ j (h : j < l.length), w.cell? ⟨b, off + j, none⟩ = some (.int .u8 ((l[j]'h).toNat : Int))
theorem Bys.below {w w' : World} {b off : Nat} {l : List UInt8} (h : Bys w b off l) (hb : Below w.heap.size w w') (hlt : b < w.heap.size) : Bys w' b off l := fun j hj =>
  (hb.cell (p := ⟨b, off + j, none⟩) hlt).trans (h j hj)
end Go.Proofs.YtohliaellefhaaaDoor

/- unicode/utf8.word at a slice of bytes; cuts of a slice whose capacity is its length; what is left of a text. -/
namespace Go.Proofs.YtohliaellefhaaaDoor
set_option linter.unusedVariables false
set_option maxRecDepth 100000
open Go.RowKit Go.Lib

/-- The bytes of s lie at b, from off on. -/
def Bya (w : World) (b off : Nat) (s : ByteArray) : Prop := ∀ j, j < s.size → w.cell? ⟨b, off + j, none⟩ = some (.int .u8 ((s.get! j).toNat : Int))
theorem Bya.of_bys {w : World} {b off : Nat} {l : List UInt8} (h : Bys w b off l) : Bya w b off (S l) := fun j hj => by
  have hj' : j < l.length := by rw [S_size] at hj; exact hj
  rw [h j hj', show (S l).get! j = (S l)[j]'hj from Utf8W.get!_of_lt (S l) j hj, S_get]
theorem Bya.below {w w' : World} {b off : Nat} {s : ByteArray} (h : Bya w b off s) (hb : Below w.heap.size w w') (hlt : b < w.heap.size) : Bya w' b off s := fun j hj =>
  (hb.cell (p := ⟨b, off + j, none⟩) hlt).trans (h j hj)
theorem cell_heap {w w' : World} (h : w'.heap = w.heap) (p : Addr) : w'.cell? p = w.cell? p := by unfold World.cell?; rw [h]
/-- One byte, as a number. -/
theorem Bya.byte {w : World} {b off : Nat} {s : ByteArray} (h : Bya w b off s) (j : Nat) (hj : j < s.size) : ∃ a : Nat, a < 256 ∧ (s.get! j).toNat = a ∧ w.cell? ⟨b, off + j, none⟩ = some (.int .u8 (a : Int)) :=
  ⟨_, (s.get! j).toNat_lt, rfl, h j hj⟩

theorem elemB : Tryd.prog.elem 36 = 5 := by kernel_rfl
/-- p[k:] where the capacity is the length. -/
theorem run_cut (s : ByteArray) (k : Nat) (c : Int) (hc : c = (k : Int)) (hk : k ≤ s.size) (b o : Nat) :
    ∃ o', (∀ w, (Instr.slice 36 (.slice (some ⟨b, o, none⟩) s.size s.size) (some (.int .i64 c)) none none).run Tryd.prog w = .ok (.slice (some ⟨b, o', none⟩) (s.extract k s.size).size (s.extract k s.size).size) w) ∧
      ∀ w, Bya w b o s → Bya w b o' (s.extract k s.size) := by
  subst hc
  have hz : (s.extract k s.size).size = s.size - k := Lib.ext_size s k
  have h : ∀ w, _ := fun w => run_slice_l (P := Tryd.prog) w 36 (some ⟨b, o, none⟩) s.size s.size Tryd.underlying36 .i64 (k : Int) (by omega) (by omega)
  by_cases hks : s.size = k
  · refine ⟨o, fun w => ?_, fun w _ j hj => by rw [hz] at hj; omega⟩
    rw [h w, elemB, Tryd.sizeOf5]
    simp [sliced, hks]
  · refine ⟨o + k, fun w => ?_, fun w hp j hj => ?_⟩
    · rw [h w, elemB, Tryd.sizeOf5]
      simp [sliced, hks, hz, Go.WideShapes.add_plain]
    · rw [hz] at hj
      rw [Nat.add_assoc, hp (k + j) (by omega), Lib.tail_get!]
theorem run_full (n cap b o : Nat) (hn : n ≤ cap) (w : World) : (Instr.slice 36 (.slice (some ⟨b, o, none⟩) n cap) none (some (.int .i64 (n : Int))) (some (.int .i64 (n : Int)))).run Tryd.prog w = .ok (.slice (some ⟨b, o, none⟩) n n) w := by
  have h := run_slice_hm (P := Tryd.prog) w 36 (some ⟨b, o, none⟩) n cap Tryd.underlying36 .i64 .i64 (n : Int) (n : Int) (by omega) (by omega) (by omega)
  rw [h, elemB, Tryd.sizeOf5]
  simp [sliced, Go.WideShapes.add_plain]

/-- The number that the first eight bytes spell. -/
def spell (s : ByteArray) : Nat := leNat [s.get! 0, s.get! 1, s.get! 2, s.get! 3, s.get! 4, s.get! 5, s.get! 6, s.get! 7]
set_option maxHeartbeats 8000000 in
set_option maxRecDepth 100000 in
theorem word_any (s : ByteArray) (b off cap : Nat) (w : World) (hs : 8 ≤ s.size) (hp : Bya w b off s) :
    Calls Tryd.prog 97 #[.slice (some ⟨b, off, none⟩) s.size cap] w fun e w' => e = .returned (.int .u64 (spell s : Int)) ∧ ∃ q, w' = w.drewN q := by
  obtain ⟨a0, l0, e0, c0⟩ := hp.byte 0 (by omega)
  obtain ⟨a1, l1, e1, c1⟩ := hp.byte 1 (by omega)
  obtain ⟨a2, l2, e2, c2⟩ := hp.byte 2 (by omega)
  obtain ⟨a3, l3, e3, c3⟩ := hp.byte 3 (by omega)
  obtain ⟨a4, l4, e4, c4⟩ := hp.byte 4 (by omega)
  obtain ⟨a5, l5, e5, c5⟩ := hp.byte 5 (by omega)
  obtain ⟨a6, l6, e6, c6⟩ := hp.byte 6 (by omega)
  obtain ⟨a7, l7, e7, c7⟩ := hp.byte 7 (by omega)
  have hv : (spell s : Int) = (a0 : Int) + (a1 : Int) * 256 + (a2 : Int) * 65536 + (a3 : Int) * 16777216 + (a4 : Int) * 4294967296 + (a5 : Int) * 1099511627776 + (a6 : Int) * 281474976710656 + (a7 : Int) * 72057594037927936 := by
    simp only [spell, leNat, e0, e1, e2, e3, e4, e5, e6, e7]
    omega
  rw [Nat.add_zero] at c0
  have HV := Lib.hid hv
  clear hv hp e0 e1 e2 e3 e4 e5 e6 e7
  have i0 : (0 : Int) < (s.size : Int) := by omega
  have i1 : (1 : Int) < (s.size : Int) := by omega
  have i2 : (2 : Int) < (s.size : Int) := by omega
  have i3 : (3 : Int) < (s.size : Int) := by omega
  have i4 : (4 : Int) < (s.size : Int) := by omega
  have i5 : (5 : Int) < (s.size : Int) := by omega
  have i6 : (6 : Int) < (s.size : Int) := by omega
  have i7 : (7 : Int) < (s.size : Int) := by omega
  go_enter Tryd.func97, Tryd.ntmps97
  go_wp2
  go_quiet (fail)
  go_wp2
  go_ret
  exact ⟨by rw [HV.out]; simp (disch := omega) only [u64_or8, u64_or16, u64_or24, u64_or32, u64_or40, u64_or48, u64_or56]; rfl, _, rfl⟩

/-- What is left to read: t, at o; and what it answers. -/
structure Rest (w : World) (b o : Nat) (t : ByteArray) (ans : Bool) : Prop where
  lies : Bya w b o t
  same : validD t.data.toList = ans
  most : t.size ≤ 1000000
/-- The call of word at t, in every world that has this heap. -/
abbrev Words (wq : World) (b o : Nat) (t : ByteArray) (A : Nat) : Prop := ∀ W : World, W.heap = wq.heap → Calls Tryd.prog 97 #[.slice (some ⟨b, o, none⟩) t.size t.size] W fun e w' => e = .returned (.int .u64 (A : Int)) ∧ ∃ q, w' = W.drewN q
/-- p[k:] at t is t2, at o2. -/
abbrev Cuts (b o : Nat) (t : ByteArray) (k : Int) (o2 : Nat) (t2 : ByteArray) : Prop := ∀ w, (Instr.slice 36 (.slice (some ⟨b, o, none⟩) t.size t.size) (some (.int .i64 k)) none none).run Tryd.prog w = .ok (.slice (some ⟨b, o2, none⟩) t2.size t2.size) w

section
variable {w wq : World} {b o : Nat} {t : ByteArray} {ans : Bool}
theorem Rest.cut (h : Rest w b o t ans) (k : Nat) (c : Int) (hc : c = (k : Int)) (hk : k ≤ t.size) (hv : validD (t.extract k t.size).data.toList = validD t.data.toList) :
    ∃ o' t', Cuts b o t c o' t' ∧ Rest w b o' t' ans ∧ t'.size + k = t.size := by
  obtain ⟨o', h1, h2⟩ := run_cut t k c hc hk b o
  have hz : (t.extract k t.size).size = t.size - k := Lib.ext_size t k
  exact ⟨o', _, h1, ⟨h2 w h.lies, hv.trans h.same, by have := h.most; omega⟩, by omega⟩
theorem Rest.skip (h : Rest w b o t ans) (k : Nat) (c : Int) (hc : c = (k : Int)) (hk : k ≤ t.size) (ha : Asc t k) : ∃ o' t', Cuts b o t c o' t' ∧ Rest w b o' t' ans ∧ t'.size + k = t.size :=
  h.cut k c hc hk (valid_skip t k ha)
theorem words_of (hp : Bya w b o t) (hlt : b < w.heap.size) (hb : Below w.heap.size w wq) (h8 : 8 ≤ t.size) : Words wq b o t (spell t) := fun W hW =>
  word_any t b o t.size W h8 fun j hj => (cell_heap hW _).trans (hp.below hb hlt j hj)
theorem mask_int {A : Nat} (h : A < 18446744073709551616) : bits .and .u64 (A : Int) 9259542123273814144 = ((A &&& 9259542123273814144 : Nat) : Int) := u64_and_nat A 9259542123273814144 h (by omega)
/-- One word: its test says that eight bytes are below 128. -/
theorem Rest.one (h : Rest w b o t ans) (hlt : b < w.heap.size) (hb : Below w.heap.size w wq) (h8 : 8 ≤ t.size) :
    ∃ A Z, Words wq b o t A ∧ bits .and .u64 (A : Int) 9259542123273814144 = ((Z : Nat) : Int) ∧ (Z = 0 → Asc t 8) :=
  ⟨spell t, _, words_of h.lies hlt hb h8, mask_int (word_lt t), (word_asc t h8).1⟩
/-- Two words. -/
theorem Rest.two (h : Rest w b o t ans) (hlt : b < w.heap.size) (hb : Below w.heap.size w wq) (h8 : 16 ≤ t.size) :
    ∃ o2 t2 A B O Z, Cuts b o t 8 o2 t2 ∧ Words wq b o t A ∧ Words wq b o2 t2 B ∧ bits .or .u64 (A : Int) (B : Int) = ((O : Nat) : Int) ∧ bits .and .u64 (O : Int) 9259542123273814144 = ((Z : Nat) : Int) ∧ (Z = 0 → Asc t 16) ∧ t2.size + 8 = t.size ∧ (A < 18446744073709551616 ∧ B < 18446744073709551616 ∧ O < 18446744073709551616) ∧ O &&& 9259542123273814144 = Z := by
  obtain ⟨o2, h1, h2⟩ := run_cut t 8 8 rfl (by omega) b o
  have hz : (t.extract 8 t.size).size = t.size - 8 := Lib.ext_size t 8
  have hO := Nat.or_lt_two_pow (n := 64) (word_lt t) (word_lt (t.extract 8 t.size))
  refine ⟨o2, _, spell t, spell (t.extract 8 t.size), _, _, h1, words_of h.lies hlt hb (by omega), words_of (h2 w h.lies) hlt hb (by omega), u64_or_nat _ _ (word_lt _) (word_lt _), mask_int hO, fun h0 => ?_, by omega, ⟨word_lt _, word_lt _, hO⟩, rfl⟩
  obtain ⟨e1, e2⟩ := (or_mask _ _ _).1 h0
  exact asc_add t 8 8 ((word_asc t (by omega)).1 e1) ((word_asc _ (by omega)).1 e2)
/-- Four words. -/
theorem Rest.four (h : Rest w b o t ans) (hlt : b < w.heap.size) (hb : Below w.heap.size w wq) (h8 : 32 ≤ t.size) :
    ∃ o2 t2 o3 t3 o4 t4 A B C D O1 O2 O3 Z, (Cuts b o t 8 o2 t2 ∧ Cuts b o t 16 o3 t3 ∧ Cuts b o t 24 o4 t4) ∧ (Words wq b o t A ∧ Words wq b o2 t2 B ∧ Words wq b o3 t3 C ∧ Words wq b o4 t4 D) ∧
      (bits .or .u64 (A : Int) (B : Int) = ((O1 : Nat) : Int) ∧ bits .or .u64 (C : Int) (D : Int) = ((O2 : Nat) : Int) ∧ bits .or .u64 (O1 : Int) (O2 : Int) = ((O3 : Nat) : Int) ∧ bits .and .u64 (O3 : Int) 9259542123273814144 = ((Z : Nat) : Int)) ∧
      (Z = 0 → Asc t 32) ∧ (t2.size + 8 = t.size ∧ t3.size + 16 = t.size ∧ t4.size + 24 = t.size) := by
  obtain ⟨o2, t2, A, B, O, Z, h1, h2, h3, h4, _, h6, h7, ⟨_, _, h10⟩, e1⟩ := h.two hlt hb (by omega)
  obtain ⟨o3, k1, k2⟩ := run_cut t 16 16 rfl (by omega) b o
  obtain ⟨o4, m1, m2⟩ := run_cut t 24 24 rfl (by omega) b o
  have z3 : (t.extract 16 t.size).size = t.size - 16 := Lib.ext_size t 16
  have z4 : (t.extract 24 t.size).size = t.size - 24 := Lib.ext_size t 24
  have hO2 := Nat.or_lt_two_pow (n := 64) (word_lt (t.extract 16 t.size)) (word_lt (t.extract 24 t.size))
  refine ⟨o2, t2, o3, _, o4, _, A, B, spell (t.extract 16 t.size), spell (t.extract 24 t.size), O, _, _, _, ⟨h1, k1, m1⟩, ⟨h2, h3, words_of (k2 w h.lies) hlt hb (by omega), words_of (m2 w h.lies) hlt hb (by omega)⟩,
    ⟨h4, u64_or_nat _ _ (word_lt _) (word_lt _), u64_or_nat _ _ h10 hO2, mask_int (Nat.or_lt_two_pow (n := 64) h10 hO2)⟩, fun h0 => ?_, h7, by omega, by omega⟩
  obtain ⟨f1, f2⟩ := (or_mask _ _ _).1 h0
  obtain ⟨f3, f4⟩ := (or_mask _ _ _).1 f2
  have a16 : Asc t 16 := h6 (e1.symm.trans f1)
  have a24 : Asc t 24 := asc_add t 16 8 a16 ((word_asc _ (by omega)).1 f3)
  exact asc_add t 24 8 a24 ((word_asc _ (by omega)).1 f4)
end
end Go.Proofs.YtohliaellefhaaaDoor
