/- add, not, less, turned, shift, rotate of creelref18. (By gen/genBt.py.) -/
import Derived.Test.YtfjlknanaempdaaDoorZb02
namespace Go.Proofs.YtfjlknanaempdaaDoor
open Go.RowKit
set_option linter.unusedVariables false
set_option maxRecDepth 100000

end Go.Proofs.YtfjlknanaempdaaDoor

/- shift, rotate, times of creelref18. (By gen/genBt.py.) -/
namespace Go.Proofs.YtfjlknanaempdaaDoor
open Go.RowKit
set_option linter.unusedVariables false
set_option maxRecDepth 100000

end Go.Proofs.YtfjlknanaempdaaDoor

/- divide of creelref18. (By gen/genBt.py.) -/
namespace Go.Proofs.YtfjlknanaempdaaDoor
open Go.RowKit
set_option linter.unusedVariables false
set_option maxRecDepth 100000

end Go.Proofs.YtfjlknanaempdaaDoor

/- signed, quotient, bit of creelref18. (By gen/genBt.py.) -/
namespace Go.Proofs.YtfjlknanaempdaaDoor
open Go.RowKit
set_option linter.unusedVariables false
set_option maxRecDepth 100000

end Go.Proofs.YtfjlknanaempdaaDoor

/- One of creelref18. (By gen/genBt.py.) -/
namespace Go.Proofs.YtfjlknanaempdaaDoor
open Go.RowKit
set_option linter.unusedVariables false
set_option maxRecDepth 100000

set_option maxHeartbeats 2000000 in
theorem oneNot {w : World} (op : Int) (v : Nat) (hv : v < 18446744073709551616) (h0 : op ≠ 69) (h1 : op ≠ 103) (h2 : op ≠ 104) (h3 : op ≠ 105) :
    Calls Tryd.prog 6 #[.int .i64 op, .int .u64 v] w fun e w' => e = .returned (.tuple #[.int .u64 0, .bool false]) ∧ Below w.heap.size w w' := by
  have d0 : (op == 69) = false := by simpa using h0
  have d1 : (op == 103) = false := by simpa using h1
  have d2 : (op == 104) = false := by simpa using h2
  have d3 : (op == 105) = false := by simpa using h3
  have HBa := Lib.hid (bitst v w hv)
  have na := bitsL_len 32 v
  obtain ⟨a, ha⟩ : ∃ a, a = bitsL 32 v := ⟨_, rfl⟩
  rw [← ha] at HBa na
  unfold Ownt at HBa
  clear ha h0 h1 h2 h3
  go_enter Tryd.func6, Tryd.ntmps6
  go_wp2_with (go_at_call 12; (with_reducible refine HBa.out.mono ?_); rintro e w1 ⟨A1, c1, rfl, ho1, hb1⟩; have HO1 := Lib.hid ho1.lb; have HB1 := Lib.hid hb1; clear ho1 hb1)
  go_loop [8, 9] (fun o i => ∃ k : Nat, k ≤ 32 ∧ i = .int .i64 k ∧ o = .int .u64 (cntL (a.take k))) (fun _ i => 32 - (intOf i).toNat)
  case atStart => exact ⟨0, Nat.zero_le _, rfl, rfl⟩
  case round =>
    obtain ⟨k, hk, rfl, rfl⟩ := hrel
    by_cases hlt : k < 32
    · obtain ⟨x, hx⟩ : ∃ x, a[k]? = some x := ⟨_, List.getElem?_eq_getElem (by omega)⟩
      obtain ⟨bl, off, rfl, _, hc1⟩ := HO1.out.at hx
      have HS := Lib.hid (cntL_snoc hx)
      have hc9 := cntL_le (a.take k)
      rw [List.length_take] at hc9
      have hx1 : x.toNat ≤ 1 := by cases x <;> decide
      have HT := Lib.hid (trutht x w1)
      obtain ⟨o, ho⟩ : ∃ o, o = cntL (a.take k) := ⟨_, rfl⟩
      rw [← ho] at HS hc9 ⊢
      obtain ⟨xn, hxn⟩ : ∃ xn, xn = x.toNat := ⟨_, rfl⟩
      rw [← hxn] at HT HS hx1
      have q1 : IntKind.u64.wrap ((o : Int) + (xn : Int)) = ((o + xn : Nat) : Int) := by simp only [IntKind.wrap, IntKind.bits, IntKind.signed]; simp; omega
      clear hx ho hxn
      go_wp2_with (go_at_call 13; (with_reducible refine HT.out.mono ?_); rintro e w2 ⟨rfl, rfl⟩)
      go_round
      case rel => exact ⟨k + 1, by omega, by go_num, by rw [HS.out]; exact congrArg (Value.int .u64) (by omega)⟩
      case measure => simp [intOf]; omega
    · obtain rfl : k = 32 := by omega
      rw [List.take_of_length_le (by omega)]
      go_wp2
      go_ret2
      exact ⟨rfl, HB1.out⟩
set_option maxHeartbeats 2000000 in
theorem onet0 {w : World} (v : Nat) (hv : v < 18446744073709551616) :
    Calls Tryd.prog 6 #[.int .i64 69, .int .u64 v] w fun e w' => e = .returned (.tuple #[.int .u64 ((cntL (bitsL 32 v) == 0).toNat : Nat), .bool true]) ∧ Below w.heap.size w w' := by
  have HBa := Lib.hid (bitst v w hv)
  have na := bitsL_len 32 v
  obtain ⟨a, ha⟩ : ∃ a, a = bitsL 32 v := ⟨_, rfl⟩
  rw [← ha] at HBa na
  unfold Ownt at HBa
  rw [← ha]
  clear ha
  obtain ⟨z, hz⟩ : ∃ z, z = (cntL a == 0) := ⟨_, rfl⟩
  rw [← hz]
  have HZ := Lib.hid hz
  clear hz
  go_enter Tryd.func6, Tryd.ntmps6
  go_wp2_with (go_at_call 12; (with_reducible refine HBa.out.mono ?_); rintro e w1 ⟨A1, c1, rfl, ho1, hb1⟩; have HO1 := Lib.hid ho1.lb; have HB1 := Lib.hid hb1; clear ho1 hb1)
  go_loop [8, 9] (fun o i => ∃ k : Nat, k ≤ 32 ∧ i = .int .i64 k ∧ o = .int .u64 (cntL (a.take k))) (fun _ i => 32 - (intOf i).toNat)
  case atStart => exact ⟨0, Nat.zero_le _, rfl, rfl⟩
  case round =>
    obtain ⟨k, hk, rfl, rfl⟩ := hrel
    by_cases hlt : k < 32
    · obtain ⟨x, hx⟩ : ∃ x, a[k]? = some x := ⟨_, List.getElem?_eq_getElem (by omega)⟩
      obtain ⟨bl, off, rfl, _, hc1⟩ := HO1.out.at hx
      have HS := Lib.hid (cntL_snoc hx)
      have hc9 := cntL_le (a.take k)
      rw [List.length_take] at hc9
      have hx1 : x.toNat ≤ 1 := by cases x <;> decide
      have HT := Lib.hid (trutht x w1)
      obtain ⟨o, ho⟩ : ∃ o, o = cntL (a.take k) := ⟨_, rfl⟩
      rw [← ho] at HS hc9 ⊢
      obtain ⟨xn, hxn⟩ : ∃ xn, xn = x.toNat := ⟨_, rfl⟩
      rw [← hxn] at HT HS hx1
      have q1 : IntKind.u64.wrap ((o : Int) + (xn : Int)) = ((o + xn : Nat) : Int) := by simp only [IntKind.wrap, IntKind.bits, IntKind.signed]; simp; omega
      clear hx ho hxn
      go_wp2_with (go_at_call 13; (with_reducible refine HT.out.mono ?_); rintro e w2 ⟨rfl, rfl⟩)
      go_round
      case rel => exact ⟨k + 1, by omega, by go_num, by rw [HS.out]; exact congrArg (Value.int .u64) (by omega)⟩
      case measure => simp [intOf]; omega
    · obtain rfl : k = 32 := by omega
      rw [List.take_of_length_le (by omega)]
      have ds : ((cntL a : Int) == 0) = z := by rw [HZ.out]; exact int_beq _ 0
      go_wp2_with (go_at_call 13; (with_reducible refine (trutht _ _).mono ?_); rintro e w2 ⟨rfl, rfl⟩)
      go_ret2
      exact ⟨rfl, HB1.out⟩
set_option maxHeartbeats 2000000 in
theorem onet3 {w : World} (v : Nat) (hv : v < 18446744073709551616) :
    Calls Tryd.prog 6 #[.int .i64 105, .int .u64 v] w fun e w' => e = .returned (.tuple #[.int .u64 (cntL (bitsL 32 v)), .bool true]) ∧ Below w.heap.size w w' := by
  have HBa := Lib.hid (bitst v w hv)
  have na := bitsL_len 32 v
  obtain ⟨a, ha⟩ : ∃ a, a = bitsL 32 v := ⟨_, rfl⟩
  rw [← ha] at HBa na
  unfold Ownt at HBa
  rw [← ha]
  clear ha
  go_enter Tryd.func6, Tryd.ntmps6
  go_wp2_with (go_at_call 12; (with_reducible refine HBa.out.mono ?_); rintro e w1 ⟨A1, c1, rfl, ho1, hb1⟩; have HO1 := Lib.hid ho1.lb; have HB1 := Lib.hid hb1; clear ho1 hb1)
  go_loop [8, 9] (fun o i => ∃ k : Nat, k ≤ 32 ∧ i = .int .i64 k ∧ o = .int .u64 (cntL (a.take k))) (fun _ i => 32 - (intOf i).toNat)
  case atStart => exact ⟨0, Nat.zero_le _, rfl, rfl⟩
  case round =>
    obtain ⟨k, hk, rfl, rfl⟩ := hrel
    by_cases hlt : k < 32
    · obtain ⟨x, hx⟩ : ∃ x, a[k]? = some x := ⟨_, List.getElem?_eq_getElem (by omega)⟩
      obtain ⟨bl, off, rfl, _, hc1⟩ := HO1.out.at hx
      have HS := Lib.hid (cntL_snoc hx)
      have hc9 := cntL_le (a.take k)
      rw [List.length_take] at hc9
      have hx1 : x.toNat ≤ 1 := by cases x <;> decide
      have HT := Lib.hid (trutht x w1)
      obtain ⟨o, ho⟩ : ∃ o, o = cntL (a.take k) := ⟨_, rfl⟩
      rw [← ho] at HS hc9 ⊢
      obtain ⟨xn, hxn⟩ : ∃ xn, xn = x.toNat := ⟨_, rfl⟩
      rw [← hxn] at HT HS hx1
      have q1 : IntKind.u64.wrap ((o : Int) + (xn : Int)) = ((o + xn : Nat) : Int) := by simp only [IntKind.wrap, IntKind.bits, IntKind.signed]; simp; omega
      clear hx ho hxn
      go_wp2_with (go_at_call 13; (with_reducible refine HT.out.mono ?_); rintro e w2 ⟨rfl, rfl⟩)
      go_round
      case rel => exact ⟨k + 1, by omega, by go_num, by rw [HS.out]; exact congrArg (Value.int .u64) (by omega)⟩
      case measure => simp [intOf]; omega
    · obtain rfl : k = 32 := by omega
      rw [List.take_of_length_le (by omega)]
      go_wp2
      go_ret2
      exact ⟨rfl, HB1.out⟩
set_option maxHeartbeats 4000000 in
theorem onet1 {w : World} (v : Nat) (hv : v < 18446744073709551616) :
    Calls Tryd.prog 6 #[.int .i64 103, .int .u64 v] w fun e w' => e = .returned (.tuple #[.int .u64 (tzL (bitsL 32 v).reverse), .bool true]) ∧ Below w.heap.size w w' := by
  have HBa := Lib.hid (bitst v w hv)
  have na := bitsL_len 32 v
  obtain ⟨a, ha⟩ : ∃ a, a = bitsL 32 v := ⟨_, rfl⟩
  rw [← ha] at HBa na
  unfold Ownt at HBa
  rw [← ha]
  obtain ⟨R, hR⟩ : ∃ R, R = a.reverse := ⟨_, rfl⟩
  have nR : R.length = 32 := by rw [hR]; rw [List.length_reverse]; exact na
  rw [← hR]
  have HRg := Lib.hid (fun (t : Nat) (x : Bool) (ht : t < 32) (h : R[t]? = some x) => show a[32 - 1 - t]? = some x by
    rw [hR] at h
    rw [List.getElem?_reverse (by omega), na] at h
    exact h)
  clear ha hR
  go_enter Tryd.func6, Tryd.ntmps6
  go_wp2_with (go_at_call 12; (with_reducible refine HBa.out.mono ?_); rintro e w1 ⟨A1, c1, rfl, ho1, hb1⟩; have HO1 := Lib.hid ho1.lb; have HB1 := Lib.hid hb1; clear ho1 hb1)
  go_loop [8, 9] (fun o i => ∃ k : Nat, k ≤ 32 ∧ i = .int .i64 k ∧ o = .int .u64 (cntL (a.take k))) (fun _ i => 32 - (intOf i).toNat)
  case atStart => exact ⟨0, Nat.zero_le _, rfl, rfl⟩
  case round =>
    obtain ⟨k, hk, rfl, rfl⟩ := hrel
    by_cases hlt : k < 32
    · obtain ⟨x, hx⟩ : ∃ x, a[k]? = some x := ⟨_, List.getElem?_eq_getElem (by omega)⟩
      obtain ⟨bl, off, rfl, _, hc1⟩ := HO1.out.at hx
      have HS := Lib.hid (cntL_snoc hx)
      have hc9 := cntL_le (a.take k)
      rw [List.length_take] at hc9
      have hx1 : x.toNat ≤ 1 := by cases x <;> decide
      have HT := Lib.hid (trutht x w1)
      obtain ⟨o, ho⟩ : ∃ o, o = cntL (a.take k) := ⟨_, rfl⟩
      rw [← ho] at HS hc9 ⊢
      obtain ⟨xn, hxn⟩ : ∃ xn, xn = x.toNat := ⟨_, rfl⟩
      rw [← hxn] at HT HS hx1
      have q1 : IntKind.u64.wrap ((o : Int) + (xn : Int)) = ((o + xn : Nat) : Int) := by simp only [IntKind.wrap, IntKind.bits, IntKind.signed]; simp; omega
      clear hx ho hxn
      go_wp2_with (go_at_call 13; (with_reducible refine HT.out.mono ?_); rintro e w2 ⟨rfl, rfl⟩)
      go_round
      case rel => exact ⟨k + 1, by omega, by go_num, by rw [HS.out]; exact congrArg (Value.int .u64) (by omega)⟩
      case measure => simp [intOf]; omega
    · obtain rfl : k = 32 := by omega
      rw [List.take_of_length_le (by omega)]
      go_wp2
      go_loop [7, 10] (fun n i => ∃ t : Nat, t ≤ 32 ∧ i = .int .i64 (32 - 1 - (t : Int)) ∧ n = .int .u64 t ∧ tzL R = t + tzL (R.drop t)) (fun _ i => (intOf i + 1).toNat)
      case atStart => exact ⟨0, Nat.zero_le _, rfl, rfl, by simp⟩
      case round =>
        obtain ⟨t, ht, rfl, rfl, hz⟩ := hrel
        by_cases htl : t < 32
        · obtain ⟨x, hx⟩ : ∃ x, R[t]? = some x := ⟨_, List.getElem?_eq_getElem (by omega)⟩
          obtain ⟨j, hj⟩ : ∃ j : Nat, (32 - 1 - (t : Int)) = (j : Int) := ⟨32 - 1 - t, by omega⟩
          have hxa := HRg.out t x htl hx
          rw [show 32 - 1 - t = j by omega] at hxa
          rw [hj]
          have hjn : j < 32 := by omega
          obtain ⟨bl, off, rfl, _, hc1⟩ := HO1.out.at hxa
          rw [drop_atB hx] at hz
          have HZ := Lib.hid hz
          have q1 : IntKind.u64.wrap ((t : Int) + 1) = ((t + 1 : Nat) : Int) := by simp only [IntKind.wrap, IntKind.bits, IntKind.signed]; simp; omega
          clear hz hx hxa
          cases x
          · go_wp2
            go_round
            case rel => exact ⟨t + 1, by omega, congrArg (Value.int .i64) (by omega), congrArg (Value.int .u64) (by omega), by rw [HZ.out]; simp [tzL]; omega⟩
            case measure => (simp [intOf]; try omega)
          · go_wp2
            go_ret2
            exact ⟨by rw [HZ.out]; simp [tzL] <;> omega, HB1.out⟩
        · obtain rfl : t = 32 := by omega
          rw [List.drop_of_length_le (by omega)] at hz
          have HZ := Lib.hid hz
          clear hz
          go_wp2
          go_ret2
          exact ⟨by rw [HZ.out]; rfl, HB1.out⟩
set_option maxHeartbeats 4000000 in
theorem onet2 {w : World} (v : Nat) (hv : v < 18446744073709551616) :
    Calls Tryd.prog 6 #[.int .i64 104, .int .u64 v] w fun e w' => e = .returned (.tuple #[.int .u64 (tzL (bitsL 32 v)), .bool true]) ∧ Below w.heap.size w w' := by
  have HBa := Lib.hid (bitst v w hv)
  have na := bitsL_len 32 v
  obtain ⟨a, ha⟩ : ∃ a, a = bitsL 32 v := ⟨_, rfl⟩
  rw [← ha] at HBa na
  unfold Ownt at HBa
  rw [← ha]
  obtain ⟨R, hR⟩ : ∃ R, R = a := ⟨_, rfl⟩
  have nR : R.length = 32 := by rw [hR]; exact na
  rw [← hR]
  have HRg := Lib.hid (fun (t : Nat) (x : Bool) (ht : t < 32) (h : R[t]? = some x) => show a[t]? = some x by
    rw [hR] at h
    exact h)
  clear ha hR
  go_enter Tryd.func6, Tryd.ntmps6
  go_wp2_with (go_at_call 12; (with_reducible refine HBa.out.mono ?_); rintro e w1 ⟨A1, c1, rfl, ho1, hb1⟩; have HO1 := Lib.hid ho1.lb; have HB1 := Lib.hid hb1; clear ho1 hb1)
  go_loop [8, 9] (fun o i => ∃ k : Nat, k ≤ 32 ∧ i = .int .i64 k ∧ o = .int .u64 (cntL (a.take k))) (fun _ i => 32 - (intOf i).toNat)
  case atStart => exact ⟨0, Nat.zero_le _, rfl, rfl⟩
  case round =>
    obtain ⟨k, hk, rfl, rfl⟩ := hrel
    by_cases hlt : k < 32
    · obtain ⟨x, hx⟩ : ∃ x, a[k]? = some x := ⟨_, List.getElem?_eq_getElem (by omega)⟩
      obtain ⟨bl, off, rfl, _, hc1⟩ := HO1.out.at hx
      have HS := Lib.hid (cntL_snoc hx)
      have hc9 := cntL_le (a.take k)
      rw [List.length_take] at hc9
      have hx1 : x.toNat ≤ 1 := by cases x <;> decide
      have HT := Lib.hid (trutht x w1)
      obtain ⟨o, ho⟩ : ∃ o, o = cntL (a.take k) := ⟨_, rfl⟩
      rw [← ho] at HS hc9 ⊢
      obtain ⟨xn, hxn⟩ : ∃ xn, xn = x.toNat := ⟨_, rfl⟩
      rw [← hxn] at HT HS hx1
      have q1 : IntKind.u64.wrap ((o : Int) + (xn : Int)) = ((o + xn : Nat) : Int) := by simp only [IntKind.wrap, IntKind.bits, IntKind.signed]; simp; omega
      clear hx ho hxn
      go_wp2_with (go_at_call 13; (with_reducible refine HT.out.mono ?_); rintro e w2 ⟨rfl, rfl⟩)
      go_round
      case rel => exact ⟨k + 1, by omega, by go_num, by rw [HS.out]; exact congrArg (Value.int .u64) (by omega)⟩
      case measure => simp [intOf]; omega
    · obtain rfl : k = 32 := by omega
      rw [List.take_of_length_le (by omega)]
      go_wp2
      go_loop [7, 11] (fun n i => ∃ t : Nat, t ≤ 32 ∧ i = .int .i64 (t : Int) ∧ n = .int .u64 t ∧ tzL R = t + tzL (R.drop t)) (fun _ i => 32 - (intOf i).toNat)
      case atStart => exact ⟨0, Nat.zero_le _, rfl, rfl, by simp⟩
      case round =>
        obtain ⟨t, ht, rfl, rfl, hz⟩ := hrel
        by_cases htl : t < 32
        · obtain ⟨x, hx⟩ : ∃ x, R[t]? = some x := ⟨_, List.getElem?_eq_getElem (by omega)⟩
          obtain ⟨j, hj⟩ : ∃ j : Nat, (t : Int) = (j : Int) := ⟨t, by omega⟩
          have hxa := HRg.out t x htl hx
          rw [show t = j by omega] at hxa
          rw [hj]
          have hjn : j < 32 := by omega
          obtain ⟨bl, off, rfl, _, hc1⟩ := HO1.out.at hxa
          rw [drop_atB hx] at hz
          have HZ := Lib.hid hz
          have q1 : IntKind.u64.wrap ((t : Int) + 1) = ((t + 1 : Nat) : Int) := by simp only [IntKind.wrap, IntKind.bits, IntKind.signed]; simp; omega
          clear hz hx hxa
          cases x
          · go_wp2
            go_round
            case rel => exact ⟨t + 1, by omega, congrArg (Value.int .i64) (by omega), congrArg (Value.int .u64) (by omega), by rw [HZ.out]; simp [tzL]; omega⟩
            case measure => (simp [intOf]; try omega)
          · go_wp2
            go_ret2
            exact ⟨by rw [HZ.out]; simp [tzL] <;> omega, HB1.out⟩
        · obtain rfl : t = 32 := by omega
          rw [List.drop_of_length_le (by omega)] at hz
          have HZ := Lib.hid hz
          clear hz
          go_wp2
          go_ret2
          exact ⟨by rw [HZ.out]; rfl, HB1.out⟩
end Go.Proofs.YtfjlknanaempdaaDoor
