/- signed, lower, length of package leb. -/
import Derived.Test.YtohliaellefhaaaDoorQs03
import Derived.Test.YtohliaellefhaaaDoorQs02
import Derived.Test.YtohliaellefhaaaDoorQs01
import Derived.Deep.QuietTactic
import Derived.BigQuiet
import Derived.StillTailTactics
import Derived.Deep.DeepMust
namespace Go.Proofs.YtohliaellefhaaaDoor
open Go.RowKit
set_option linter.unusedVariables false

set_option maxHeartbeats 800000 in
theorem lower_any (l : List Int) (A : Option Addr) (cap B : Nat) (w : World) (hl : Lies w B A (cells l)) (h9 : l.length ≤ 9) (hb : ∀ c ∈ l, 0 ≤ c ∧ c ≤ 255) :
    Calls Tryd.prog 102 #[.slice A l.length cap] w fun e w' => e = .returned (.tuple #[.int .u64 (low l), .int .i64 ((7 * l.length : Nat) : Int)]) ∧ w = w' := by
  have HL := Lib.hid hl
  have HC := Lib.hid hb
  clear hl hb
  go_enter Tryd.func102, Tryd.ntmps102
  go_wp2
  go_loop [2, 3, 8] (fun v s i => ∃ k : Nat, k ≤ l.length ∧ i = .int .i64 k ∧ s = .int .i64 ((7 * k : Nat) : Int) ∧ v = .int .u64 (low (l.take k))) (fun _ _ i => l.length - (intOf i).toNat)
  case atStart => exact ⟨0, by omega, rfl, rfl, rfl⟩
  case round =>
    obtain ⟨k, hk, rfl, rfl, rfl⟩ := hrel
    by_cases hlt : k < l.length
    · obtain ⟨c, hc⟩ : ∃ c, l[k]? = some c := ⟨_, List.getElem?_eq_getElem hlt⟩
      obtain ⟨b, off, rfl, hbB, hcell⟩ := HL.out.byte hc
      obtain ⟨c0, c1⟩ := HC.out c (List.mem_of_getElem? hc)
      have hbd := low_bd (l.take k)
      have hsn : low (l.take (k + 1)) = low (l.take k) + c % 128 * 2 ^ (7 * k) := by rw [take_snoc hc, low_snoc, List.length_take_of_le hk]
      rw [List.length_take_of_le hk] at hbd
      obtain ⟨v0, v1⟩ := hbd
      generalize low (l.take k) = v at *
      have hn := not128 c c0 (by omega)
      obtain ⟨x, hx⟩ : ∃ x, x = c % 128 := ⟨_, rfl⟩
      rw [← hx] at hn hsn
      have x0 : 0 ≤ x := by omega
      have x1 : x ≤ 127 := by omega
      have hsc := scale (a := 7) (b := 7 * k) x0 (by show x < 128; omega)
      have hm := mono2 (a := 7 + 7 * k) (b := 63) (by omega)
      have hm2 := mono2 (a := 7 * k) (b := 56) (by omega)
      have hor := or_u64 v x (7 * k) (by omega) v0 v1 x0 (by
        have e1 : (2 : Int) ^ 63 = 9223372036854775808 := rfl
        have e2 : (2 : Int) ^ 56 = 72057594037927936 := rfl
        omega)
      have hwr : IntKind.u64.wrap (x * 2 ^ (7 * k)) = x * 2 ^ (7 * k) := by
        have e1 : (2 : Int) ^ 63 = 9223372036854775808 := rfl
        simp only [IntKind.wrap, IntKind.bits, IntKind.signed]
        generalize x * 2 ^ (7 * k) = z at *
        simp
        omega
      obtain ⟨s, hs⟩ : ∃ s, s = 7 * k := ⟨_, rfl⟩
      rw [← hs] at hsn hor hwr ⊢
      have HS := Lib.hid hs
      have HX := Lib.hid hx
      have HN := Lib.hid hsn
      have s1 : s ≤ 56 := by omega
      clear hs hx hsn hc hsc hm hm2 v1
      go_wp2
      go_round
      case rel => exact ⟨k + 1, by omega, by go_num, by rw [show ((7 * (k + 1) : Nat) : Int) = (s : Int) + 7 by have := HS.out; omega], by rw [HN.out]⟩
      case measure => simp [intOf]; omega
    · obtain rfl : k = l.length := by omega
      have ht : low (l.take l.length) = low l := by rw [List.take_length]
      rw [ht]
      clear ht
      go_wp2
      go_ret2
      exact ⟨rfl, rfl⟩

theorem Lies.add {w : World} {B : Nat} {A : Option Addr} {vs : List Value} (h : Lies w B A vs) (k : Nat) : Lies w B (Option.map (fun x => x.add k) A) (vs.drop k) := fun i v hv => by
  rw [List.getElem?_drop] at hv
  obtain ⟨b, off, rfl, h1, h2⟩ := h _ v hv
  exact ⟨b, off + k, by simp [Addr.add], h1, by rw [Nat.add_assoc]; exact h2⟩
theorem lies_if {w : World} {B cap k : Nat} {A : Option Addr} {r : List Int} (h : Lies w B A (cells r)) (hc : r.length ≤ cap) :
    Lies w B (if cap = k then A else Option.map (fun x => x.add k) A) (cells (r.drop k)) := by
  split
  · rw [List.drop_eq_nil_of_le (by omega)]; exact Lies.nil
  · have e : cells (r.drop k) = (cells r).drop k := by simp [cells, List.map_drop]
    rw [e]; exact h.add k

/-- What length answers: how many bytes, or why not. -/
def lenN (M L p : Nat) : Int := if p = M then 0 else if p = L then 0 else (p : Int) + 1
def lenE (M L p : Nat) : Int := if p = M then 3 else if p = L then 2 else 0

set_option maxHeartbeats 800000 in
theorem length_wrong (r : List Int) (A : Option Addr) (cap : Nat) (at_ n : Int) (w : World) (h : n < 1 ∨ 64 < n ∨ at_ < 0 ∨ (r.length : Int) < at_) :
    Calls Tryd.prog 101 #[.slice A r.length cap, .int .i64 at_, .int .i64 n] w fun e w' => e = .returned (.tuple #[.int .i64 0, .int .i64 1]) ∧ w = w' := by
  by_cases hn : n < 1 ∨ 64 < n
  · go_enter Tryd.func101, Tryd.ntmps101
    go_wp2_with (go_at_call 94; go_must (refine (right_out _ _ hn).mono ?_; rintro e w' ⟨rfl, rfl⟩))
    go_ret2
    exact ⟨rfl, rfl⟩
  · have n1 : 1 ≤ n := by omega
    have n2 : n ≤ 64 := by omega
    by_cases ha : at_ < 0
    · go_enter Tryd.func101, Tryd.ntmps101
      go_wp2_with (go_at_call 94; go_must (refine (right_in _ _ n1 n2).mono ?_; rintro e w' ⟨rfl, rfl⟩))
      go_ret2
      exact ⟨rfl, rfl⟩
    · have hd : decide (at_ < 0) = false := by simpa using ha
      have hl : (r.length : Int) < at_ := by omega
      go_enter Tryd.func101, Tryd.ntmps101
      go_wp2_with (go_at_call 94; go_must (refine (right_in _ _ n1 n2).mono ?_; rintro e w' ⟨rfl, rfl⟩))
      go_ret2
      exact ⟨rfl, rfl⟩

set_option maxHeartbeats 800000 in
theorem length_right (r : List Int) (A : Option Addr) (cap B : Nat) (k n p : Nat) (w : World) (hl : Lies w B A (cells r)) (hb : ∀ c ∈ r, 0 ≤ c ∧ c ≤ 255) (hc : r.length ≤ cap) (hm : cap ≤ maxLen)
    (hk : k ≤ r.length) (n1 : 1 ≤ n) (n2 : n ≤ 64) (hp : Stop ((n + 6) / 7) (r.drop k) p) :
    Calls Tryd.prog 101 #[.slice A r.length cap, .int .i64 k, .int .i64 n] w fun e w' => e = .returned (.tuple #[.int .i64 (lenN ((n + 6) / 7) (r.length - k) p), .int .i64 (lenE ((n + 6) / 7) (r.length - k) p)]) ∧ w = w' := by
  unfold maxLen at hm
  have hpM := hp.leM
  have hpR := hp.leR
  rw [List.length_drop] at hpR
  have HL8 := Lib.hid (lies_if (k := k) hl hc)
  have hlen : (r.drop k).length = r.length - k := List.length_drop
  have hbyte : ∀ c ∈ r.drop k, 0 ≤ c ∧ c ≤ 255 := fun c hcm => hb c (List.mem_of_mem_drop hcm)
  generalize r.drop k = q at *
  have HC := Lib.hid hbyte
  have HP := Lib.hid hp
  obtain ⟨L, hL⟩ : ∃ L, r.length - k = L := ⟨_, rfl⟩
  rw [hL] at hlen hpR
  rw [hL]
  have HQ := Lib.hid hlen
  clear hl hb hp hbyte hlen
  have hd : decide (r.length < k) = false := by simpa using hk
  have hd2 : ¬ r.length < k := by omega
  go_enter Tryd.func101, Tryd.ntmps101
  go_wp2_with (first
    | (go_at_call 94; go_must (refine (right_in _ _ (by omega) (by omega)).mono ?_; rintro e w' ⟨rfl, rfl⟩))
    | (go_at_call 83; go_must (refine (most_in _ _ (by omega) (by omega)).mono ?_; rintro e w' ⟨rfl, rfl⟩)))
  · rw [if_pos (by assumption)] at HL8
    clear hd hd2 hL
    go_loop [28] (fun i => ∃ j : Nat, j ≤ p ∧ i = .int .i64 j) (fun i => p - (intOf i).toNat)
    case atStart => exact ⟨0, by omega, rfl⟩
    case round =>
      obtain ⟨j, hj, rfl⟩ := hrel
      by_cases hjp : j < p
      · obtain ⟨c, hcj⟩ : ∃ c, q[j]? = some c := ⟨_, List.getElem?_eq_getElem (by have := HQ.out; omega)⟩
        obtain ⟨b, off, rfl, hbB, hcell⟩ := HL8.out.byte hcj
        obtain ⟨c0, c1⟩ := HC.out c (List.mem_of_getElem? hcj)
        have c2 := HP.out.on j c hjp hcj
        clear hcj
        have t1 : (j : Int) < ((n : Int) + 6) / 7 := by omega
        have t2 : ((j : Int) == (L : Int)) = false := by simp; omega
        go_wp2
        go_round
        case rel => exact ⟨j + 1, by omega, by go_num⟩
        case measure => simp [intOf]; omega
      · obtain rfl : j = p := by omega
        by_cases hpM2 : j = (n + 6) / 7
        · have t1 : ¬ (j : Int) < ((n : Int) + 6) / 7 := by omega
          have F : Hid (lenN ((n + 6) / 7) L j = 0 ∧ lenE ((n + 6) / 7) L j = 3) := by unfold lenN lenE; rw [if_pos hpM2, if_pos hpM2]; exact ⟨rfl, rfl⟩
          clear hpM2
          go_wp2
          go_ret2
          exact ⟨by rw [F.out.1, F.out.2]; rfl, rfl⟩
        · have t1 : (j : Int) < ((n : Int) + 6) / 7 := by omega
          by_cases hpL : j = L
          · have t2 : ((j : Int) == (L : Int)) = true := by simp; omega
            have F : Hid (lenN ((n + 6) / 7) L j = 0 ∧ lenE ((n + 6) / 7) L j = 2) := by unfold lenN lenE; rw [if_neg hpM2, if_neg hpM2, if_pos hpL, if_pos hpL]; exact ⟨rfl, rfl⟩
            clear hpM2 hpL
            go_wp2
            go_ret2
            exact ⟨by rw [F.out.1, F.out.2]; rfl, rfl⟩
          · have t2 : ((j : Int) == (L : Int)) = false := by simp; omega
            have F : Hid (lenN ((n + 6) / 7) L j = (j : Int) + 1 ∧ lenE ((n + 6) / 7) L j = 0) := by unfold lenN lenE; rw [if_neg hpM2, if_neg hpM2, if_neg hpL, if_neg hpL]; exact ⟨rfl, rfl⟩
            obtain ⟨c, hcj⟩ : ∃ c, q[j]? = some c := ⟨_, List.getElem?_eq_getElem (by have := HQ.out; omega)⟩
            obtain ⟨b, off, rfl, hbB, hcell⟩ := HL8.out.byte hcj
            obtain ⟨c0, c1⟩ := HC.out c (List.mem_of_getElem? hcj)
            have c2 := HP.out.off c (by omega) hcj
            have hjL : j < L := by omega
            clear hcj hpM2 hpL
            go_wp2
            go_ret2
            exact ⟨by rw [F.out.1, F.out.2]; rfl, rfl⟩
  · rw [if_neg (by assumption)] at HL8
    generalize Option.map (fun x => x.add k) A = A8 at *
    clear hd hd2 hL
    go_loop [28] (fun i => ∃ j : Nat, j ≤ p ∧ i = .int .i64 j) (fun i => p - (intOf i).toNat)
    case atStart => exact ⟨0, by omega, rfl⟩
    case round =>
      obtain ⟨j, hj, rfl⟩ := hrel
      by_cases hjp : j < p
      · obtain ⟨c, hcj⟩ : ∃ c, q[j]? = some c := ⟨_, List.getElem?_eq_getElem (by have := HQ.out; omega)⟩
        obtain ⟨b, off, rfl, hbB, hcell⟩ := HL8.out.byte hcj
        obtain ⟨c0, c1⟩ := HC.out c (List.mem_of_getElem? hcj)
        have c2 := HP.out.on j c hjp hcj
        clear hcj
        have t1 : (j : Int) < ((n : Int) + 6) / 7 := by omega
        have t2 : ((j : Int) == (L : Int)) = false := by simp; omega
        go_wp2
        go_round
        case rel => exact ⟨j + 1, by omega, by go_num⟩
        case measure => simp [intOf]; omega
      · obtain rfl : j = p := by omega
        by_cases hpM2 : j = (n + 6) / 7
        · have t1 : ¬ (j : Int) < ((n : Int) + 6) / 7 := by omega
          have F : Hid (lenN ((n + 6) / 7) L j = 0 ∧ lenE ((n + 6) / 7) L j = 3) := by unfold lenN lenE; rw [if_pos hpM2, if_pos hpM2]; exact ⟨rfl, rfl⟩
          clear hpM2
          go_wp2
          go_ret2
          exact ⟨by rw [F.out.1, F.out.2]; rfl, rfl⟩
        · have t1 : (j : Int) < ((n : Int) + 6) / 7 := by omega
          by_cases hpL : j = L
          · have t2 : ((j : Int) == (L : Int)) = true := by simp; omega
            have F : Hid (lenN ((n + 6) / 7) L j = 0 ∧ lenE ((n + 6) / 7) L j = 2) := by unfold lenN lenE; rw [if_neg hpM2, if_neg hpM2, if_pos hpL, if_pos hpL]; exact ⟨rfl, rfl⟩
            clear hpM2 hpL
            go_wp2
            go_ret2
            exact ⟨by rw [F.out.1, F.out.2]; rfl, rfl⟩
          · have t2 : ((j : Int) == (L : Int)) = false := by simp; omega
            have F : Hid (lenN ((n + 6) / 7) L j = (j : Int) + 1 ∧ lenE ((n + 6) / 7) L j = 0) := by unfold lenN lenE; rw [if_neg hpM2, if_neg hpM2, if_neg hpL, if_neg hpL]; exact ⟨rfl, rfl⟩
            obtain ⟨c, hcj⟩ : ∃ c, q[j]? = some c := ⟨_, List.getElem?_eq_getElem (by have := HQ.out; omega)⟩
            obtain ⟨b, off, rfl, hbB, hcell⟩ := HL8.out.byte hcj
            obtain ⟨c0, c1⟩ := HC.out c (List.mem_of_getElem? hcj)
            have c2 := HP.out.off c (by omega) hcj
            have hjL : j < L := by omega
            clear hcj hpM2 hpL
            go_wp2
            go_ret2
            exact ⟨by rw [F.out.1, F.out.2]; rfl, rfl⟩
end Go.Proofs.YtohliaellefhaaaDoor

/- Shifts by a count that is a variable; bounds of a number off its groups. -/
namespace Go.Proofs.YtohliaellefhaaaDoor
set_option linter.unusedVariables false
open Go.RowKit

theorem shr8 (c : Int) (t : Nat) (h0 : 0 ≤ c) (h1 : c < 128) : Op.shift .shr .u8 c .i64 (t : Int) = pure (.int .u8 (c / 2 ^ t)) := by
  rw [shift_shr_any _ _ _ _ (by omega)]
  have e : c / 2 ^ min (t : Int).toNat IntKind.u8.bits = c / 2 ^ t := by
    show c / 2 ^ min (t : Int).toNat 8 = c / 2 ^ t
    rw [Int.toNat_natCast]
    rcases Nat.le_total t 8 with g | g
    · rw [Nat.min_eq_left g]
    · rw [Nat.min_eq_right g]
      have hm := mono2 g
      have e8 : (2 : Int) ^ 8 = 256 := rfl
      rw [Int.ediv_eq_zero_of_lt h0 (by omega), Int.ediv_eq_zero_of_lt h0 (by omega)]
  rw [e]
theorem shr64 (c : Int) (t : Nat) (ht : t ≤ 64) : Op.shift .shr .i64 c .i64 (t : Int) = pure (.int .i64 (c / 2 ^ t)) := by
  rw [shift_shr_any _ _ _ _ (by omega)]
  show pure (Value.int .i64 (c / 2 ^ min (t : Int).toNat 64)) = _
  rw [Int.toNat_natCast, Nat.min_eq_left ht]
theorem shl64u (c : Int) (t : Nat) (ht : t ≤ 64) (h0 : 0 ≤ c * 2 ^ t) (h1 : c * 2 ^ t < 18446744073709551616) : Op.shift .shl .u64 c .i64 (t : Int) = pure (.int .u64 (c * 2 ^ t)) := by
  rw [shift_shl_any _ _ _ _ (by omega)]
  show pure (Value.int .u64 (IntKind.u64.wrap (c * 2 ^ min (t : Int).toNat 64))) = _
  rw [Int.toNat_natCast, Nat.min_eq_left ht]
  generalize c * 2 ^ t = z at *
  have e : IntKind.u64.wrap z = z := by simp only [IntKind.wrap, IntKind.bits, IntKind.signed]; simp; omega
  rw [e]
theorem shl64i (c : Int) (t : Nat) (ht : t ≤ 64) (h0 : -9223372036854775808 ≤ c * 2 ^ t) (h1 : c * 2 ^ t < 9223372036854775808) : Op.shift .shl .i64 c .i64 (t : Int) = pure (.int .i64 (c * 2 ^ t)) := by
  rw [shift_shl_any _ _ _ _ (by omega)]
  show pure (Value.int .i64 (IntKind.i64.wrap (c * 2 ^ min (t : Int).toNat 64))) = _
  rw [Int.toNat_natCast, Nat.min_eq_left ht]
  generalize c * 2 ^ t = z at *
  have e : IntKind.i64.wrap z = z := by rw [IntKind.wrap_i64]; omega
  rw [e]

/-- v + c * 2^a, v below 2^a: over 2^a it is c. -/
theorem over_low {v c : Int} {a : Nat} (h0 : 0 ≤ v) (h1 : v < 2 ^ a) : (v + c * 2 ^ a) / 2 ^ a = c := by
  rw [Int.add_mul_ediv_right _ _ (Int.ne_of_gt (p2 a)), Int.ediv_eq_zero_of_lt h0 h1]; omega
theorem over_more {v c : Int} {a b : Nat} (h0 : 0 ≤ v) (h1 : v < 2 ^ a) (hab : a ≤ b) : (v + c * 2 ^ a) / 2 ^ b = c / 2 ^ (b - a) := by
  have e : b = a + (b - a) := by omega
  rw [e, ← div_pow, over_low h0 h1]
  congr 2
  omega
theorem bdU {v c : Int} {a b : Nat} (h0 : 0 ≤ v) (h1 : v < 2 ^ a) (hc : 0 ≤ c) (hab : a ≤ b) (hf : c / 2 ^ (b - a) = 0) : 0 ≤ v + c * 2 ^ a ∧ v + c * 2 ^ a < 2 ^ b := by
  have hz : 0 ≤ c * 2 ^ a := Int.mul_nonneg hc (Int.le_of_lt (p2 a))
  have hq := over_more (c := c) h0 h1 hab
  rw [hf] at hq
  refine ⟨by omega, ?_⟩
  rcases Int.lt_or_le (v + c * 2 ^ a) (2 ^ b) with g | g
  · exact g
  · have := (Int.le_ediv_iff_mul_le (p2 b)).2 (show 1 * 2 ^ b ≤ v + c * 2 ^ a by omega)
    omega
theorem bdS {v c : Int} {a b : Nat} (h0 : 0 ≤ v) (h1 : v < 2 ^ a) (hab : a ≤ b) (hf : c / 2 ^ (b - a) = 0 ∨ c / 2 ^ (b - a) = -1) : -2 ^ b ≤ v + c * 2 ^ a ∧ v + c * 2 ^ a < 2 ^ b ∧ -2 ^ b ≤ c * 2 ^ a := by
  have hq := over_more (c := c) h0 h1 hab
  have hb := p2 b
  have e1 := Int.emod_add_mul_ediv (v + c * 2 ^ a) (2 ^ b)
  have e2 := Int.emod_nonneg (v + c * 2 ^ a) (Int.ne_of_gt hb)
  have e3 := Int.emod_lt_of_pos (v + c * 2 ^ a) hb
  have hq2 := over_more (v := 0) (c := c) (Int.le_refl 0) (p2 a) hab
  rw [Int.zero_add] at hq2
  have f1 := Int.emod_add_mul_ediv (c * 2 ^ a) (2 ^ b)
  have f2 := Int.emod_nonneg (c * 2 ^ a) (Int.ne_of_gt hb)
  rcases hf with hf | hf
  · rw [hq, hf] at e1
    rw [hq2, hf] at f1
    omega
  · rw [hq, hf] at e1
    rw [hq2, hf] at f1
    omega
end Go.Proofs.YtohliaellefhaaaDoor

/- leb.ReadUint and leb.ReadInt. -/
namespace Go.Proofs.YtohliaellefhaaaDoor
open Go.RowKit
set_option linter.unusedVariables false

set_option maxHeartbeats 800000 in
/-- No varint: the error that length tells. -/
theorem ru_fail (sl a_ n_ : Value) (e : Int) (w : World) (he : e = 1 ∨ e = 2 ∨ e = 3)
    (h : Calls Tryd.prog 101 #[sl, a_, n_] w fun x w' => x = .returned (.tuple #[.int .i64 0, .int .i64 e]) ∧ w = w') :
    Calls Tryd.prog 96 #[sl, a_, n_] w fun x w' => x = .returned (.tuple #[.int .u64 0, .int .i64 0, .int .i64 e]) ∧ w = w' := by
  have H := Lib.hid h
  clear h
  have e1 : (e != 0) = true := by simp; omega
  have e2 : (e == 0) = false := by simp; omega
  go_enter Tryd.func96, Tryd.ntmps96
  go_wp2_with (go_at_call 101; go_must (refine (Calls.mono H.out ?_); rintro x w' ⟨rfl, rfl⟩))
  go_ret3
  exact ⟨rfl, rfl⟩
theorem rcells {r : List Int} {k p : Nat} : cells ((r.drop k).take p) = ((cells r).drop k).take p := by simp [cells, List.map_drop, List.map_take]
theorem Lies.part {w : World} {B b off : Nat} {r : List Int} (h : Lies w B (some ⟨b, off, none⟩) (cells r)) (k p : Nat) : Lies w B (some ⟨b, off + k, none⟩) (cells ((r.drop k).take p)) := by
  rw [rcells]
  have g := (h.add k).take p
  have e : Option.map (fun x : Addr => x.add k) (some ⟨b, off, none⟩) = some ⟨b, off + k, none⟩ := by
    unfold Addr.add
    by_cases hk : k = 0 <;> simp [hk]
  rw [e] at g
  exact g

theorem wrapU {z : Int} (h0 : 0 ≤ z) (h1 : z < 18446744073709551616) : IntKind.u64.wrap z = z := by simp only [IntKind.wrap, IntKind.bits, IntKind.signed]; simp; omega
theorem wrapI {z : Int} (h0 : -9223372036854775808 ≤ z) (h1 : z < 9223372036854775808) : IntKind.i64.wrap z = z := by rw [IntKind.wrap_i64]; omega

/-- The numbers of a varint: p bytes that go on and the last one, c. -/
def numU (l : List Int) (c : Int) : Int := low l + c * 2 ^ (7 * l.length)
def numS (l : List Int) (c : Int) : Int := low l + sg c * 2 ^ (7 * l.length)

set_option maxHeartbeats 1600000 in
theorem ru_ok (r : List Int) (A : Option Addr) (cap B : Nat) (k n p : Nat) (c : Int) (w : World)
    (hl : Lies w B A (cells r)) (hb : ∀ c ∈ r, 0 ≤ c ∧ c ≤ 255) (hc : r.length ≤ cap) (hm : cap ≤ maxLen)
    (hk : k ≤ r.length) (n1 : 1 ≤ n) (n2 : n ≤ 64) (hp : Stop ((n + 6) / 7) (r.drop k) p) (hpM : p < (n + 6) / 7) (hpc : (r.drop k)[p]? = some c) (hf : c / 2 ^ (n - 7 * p) = 0) :
    Calls Tryd.prog 96 #[.slice A r.length cap, .int .i64 k, .int .i64 n] w fun x w' => x = .returned (.tuple #[.int .u64 (numU ((r.drop k).take p) c), .int .i64 ((k : Int) + (p + 1)), .int .i64 0]) ∧ w = w' := by
  have CL := Lib.hid (length_right r A cap B k n p w hl hb hc hm hk n1 n2 hp)
  unfold maxLen at hm
  have hrp : k + p < r.length := by
    have := (List.getElem?_eq_some_iff.1 hpc).1
    rw [List.length_drop] at this; omega
  have hlt : ((r.drop k).take p).length = p := by rw [List.length_take, List.length_drop]; omega
  have hN : lenN ((n + 6) / 7) (r.length - k) p = (p : Int) + 1 := by unfold lenN; rw [if_neg (by omega), if_neg (by omega)]
  have hE : lenE ((n + 6) / 7) (r.length - k) p = 0 := by unfold lenE; rw [if_neg (by omega), if_neg (by omega)]
  rw [hN, hE] at CL
  obtain ⟨b, off, rfl, hbB, hcell⟩ := hl.byte (i := k + p) (c := c) (by rw [← hpc, List.getElem?_drop])
  have hpart := hl.part k p
  obtain ⟨c0, c1⟩ := hb c (List.mem_of_mem_drop (List.mem_of_getElem? hpc))
  have c2 := hp.off c hpM hpc
  have CW := Lib.hid (lower_any _ _ (cap - k) B w hpart (by omega) (fun d hd => hb d (List.mem_of_mem_drop (List.mem_of_mem_take hd))))
  have hbd := low_bd ((r.drop k).take p)
  have hnum : numU ((r.drop k).take p) c = low ((r.drop k).take p) + c * 2 ^ (7 * p) := by unfold numU; rw [hlt]
  rw [hnum]
  rw [hlt] at hbd CW
  obtain ⟨v, hv⟩ : ∃ v, v = low ((r.drop k).take p) := ⟨_, rfl⟩
  rw [← hv] at CW hbd ⊢
  obtain ⟨v0, v1⟩ := hbd
  have p9 : p ≤ 9 := by omega
  have pn : 7 * p < n := by omega
  have e56 := mono2 (a := 7 * p) (b := 63) (by omega)
  have e63 : (2 : Int) ^ 63 = 9223372036854775808 := rfl
  have hbu := bdU v0 v1 c0 (b := n) (by omega) hf
  have e64 := mono2 (a := n) (b := 64) n2
  have e18 : (2 : Int) ^ 64 = 18446744073709551616 := rfl
  have hz0 : 0 ≤ c * 2 ^ (7 * p) := Int.mul_nonneg c0 (Int.le_of_lt (p2 _))
  have hs1 : Op.shift .shr .u8 c .i64 ((n : Int) - 7 * p) = pure (.int .u8 0) := by rw [show (n : Int) - 7 * p = ((n - 7 * p : Nat) : Int) by omega, shr8 _ _ c0 c2, hf]
  have hs2 : Op.shift .shl .u64 c .i64 (7 * (p : Int)) = pure (.int .u64 (c * 2 ^ (7 * p))) := by rw [show 7 * (p : Int) = ((7 * p : Nat) : Int) by omega, shl64u _ _ (by omega) hz0 (by omega)]
  have hor := or_u64 v c (7 * p) (by omega) v0 v1 c0 (by omega)
  have hw : IntKind.u64.wrap (c * 2 ^ (7 * p)) = c * 2 ^ (7 * p) := wrapU hz0 (by omega)
  obtain ⟨z, hz⟩ : ∃ z, z = c * 2 ^ (7 * p) := ⟨_, rfl⟩
  have hw2 : IntKind.u64.wrap (c * 2 ^ (7 * p)) = z := by rw [hz]; exact hw
  rw [← hz] at hor hs2 ⊢
  clear hl hb hp hpart hN hE hv hpc hlt e56 e63 v1 hpM hnum hbu e64 e18 hf hw hz0 hz
  go_enter Tryd.func96, Tryd.ntmps96
  go_wp2_with (first
    | (go_at_call 101; go_must (refine (Calls.mono CL.out ?_); rintro x w' ⟨rfl, rfl⟩))
    | (go_at_call 102; go_must (refine (Calls.mono CW.out ?_); rintro x w' ⟨rfl, rfl⟩)))
  go_ret3
  exact ⟨rfl, rfl⟩
set_option maxHeartbeats 1600000 in
theorem ru_far (r : List Int) (A : Option Addr) (cap B : Nat) (k n p : Nat) (c : Int) (w : World)
    (hl : Lies w B A (cells r)) (hb : ∀ c ∈ r, 0 ≤ c ∧ c ≤ 255) (hc : r.length ≤ cap) (hm : cap ≤ maxLen)
    (hk : k ≤ r.length) (n1 : 1 ≤ n) (n2 : n ≤ 64) (hp : Stop ((n + 6) / 7) (r.drop k) p) (hpM : p < (n + 6) / 7) (hpc : (r.drop k)[p]? = some c) (hf : ¬ c / 2 ^ (n - 7 * p) = 0) :
    Calls Tryd.prog 96 #[.slice A r.length cap, .int .i64 k, .int .i64 n] w fun x w' => x = .returned (.tuple #[.int .u64 0, .int .i64 0, .int .i64 3]) ∧ w = w' := by
  have CL := Lib.hid (length_right r A cap B k n p w hl hb hc hm hk n1 n2 hp)
  unfold maxLen at hm
  have hrp : k + p < r.length := by
    have := (List.getElem?_eq_some_iff.1 hpc).1
    rw [List.length_drop] at this; omega
  have hlt : ((r.drop k).take p).length = p := by rw [List.length_take, List.length_drop]; omega
  have hN : lenN ((n + 6) / 7) (r.length - k) p = (p : Int) + 1 := by unfold lenN; rw [if_neg (by omega), if_neg (by omega)]
  have hE : lenE ((n + 6) / 7) (r.length - k) p = 0 := by unfold lenE; rw [if_neg (by omega), if_neg (by omega)]
  rw [hN, hE] at CL
  obtain ⟨b, off, rfl, hbB, hcell⟩ := hl.byte (i := k + p) (c := c) (by rw [← hpc, List.getElem?_drop])
  have hpart := hl.part k p
  obtain ⟨c0, c1⟩ := hb c (List.mem_of_mem_drop (List.mem_of_getElem? hpc))
  have c2 := hp.off c hpM hpc
  have CW := Lib.hid (lower_any _ _ (cap - k) B w hpart (by omega) (fun d hd => hb d (List.mem_of_mem_drop (List.mem_of_mem_take hd))))
  have hbd := low_bd ((r.drop k).take p)
  rw [hlt] at hbd CW
  obtain ⟨v, hv⟩ : ∃ v, v = low ((r.drop k).take p) := ⟨_, rfl⟩
  rw [← hv] at CW hbd
  obtain ⟨v0, v1⟩ := hbd
  have p9 : p ≤ 9 := by omega
  have pn : 7 * p < n := by omega
  have e56 := mono2 (a := 7 * p) (b := 63) (by omega)
  have e63 : (2 : Int) ^ 63 = 9223372036854775808 := rfl
  have hs1 : Op.shift .shr .u8 c .i64 ((n : Int) - 7 * p) = pure (.int .u8 (c / 2 ^ (n - 7 * p))) := by rw [show (n : Int) - 7 * p = ((n - 7 * p : Nat) : Int) by omega, shr8 _ _ c0 c2]
  generalize c / 2 ^ (n - 7 * p) = z at *
  have hz : (z != 0) = true := by simpa using hf
  have hz2 : (z == 0) = false := by simpa using hf
  clear hl hb hp hpart hN hE hv hpc hlt e56 e63 v1 hpM hf
  go_enter Tryd.func96, Tryd.ntmps96
  go_wp2_with (first
    | (go_at_call 101; go_must (refine (Calls.mono CL.out ?_); rintro x w' ⟨rfl, rfl⟩))
    | (go_at_call 102; go_must (refine (Calls.mono CW.out ?_); rintro x w' ⟨rfl, rfl⟩)))
  go_ret3
  exact ⟨rfl, rfl⟩
end Go.Proofs.YtohliaellefhaaaDoor

/- A scanner: what it holds; what a reading is. Left, Done. -/
namespace Go.Proofs.YtohliaellefhaaaDoor
set_option maxRecDepth 100000
open Go.RowKit
set_option linter.unusedVariables false

/-- What is read of bytes from a place on: a value and the next place, or an error and its place. -/
inductive Res (α : Type) where
  | ok (v : α) (k : Nat)
  | err (c a : Int)
def Res.bind {α β : Type} (r : Res α) (f : α → Nat → Res β) : Res β := match r with
  | .ok v k => f v k
  | .err c a => .err c a

/-- A scanner at block p: it reads the bytes l, k of them are read. -/
def Sc (w : World) (p : Nat) (l : List UInt8) (k : Nat) : Prop :=
  ∃ A cap, Whole w p 91 #[.slice A l.length cap, .int .i64 k] ∧ Lies w p A (cells (nums l)) ∧ l.length ≤ cap ∧ cap ≤ maxLen ∧ k ≤ l.length
theorem Sc.grown {w w' : World} {p : Nat} {l : List UInt8} {k : Nat} {row : Option Nat} (h : Sc w p l k) (hg : w.grownBy w' row) (hr : some p ≠ row) (hr2 : ∀ g, row = some g → p ≤ g) : Sc w' p l k := by
  obtain ⟨A, cap, h1, h2, h3⟩ := h
  exact ⟨A, cap, h1.grown hg hr, h2.grown hg (Nat.le_of_lt h1.lt) hr2, h3⟩
theorem Sc.below {w w' : World} {p : Nat} {l : List UInt8} {k : Nat} (h : Sc w p l k) (hb : Below w.heap.size w w') : Sc w' p l k :=
  h.grown (gb_of_below none hb) (by simp) (fun g e => by cases e)
theorem Sc.drewN {w : World} {p : Nat} {l : List UInt8} {k : Nat} (h : Sc w p l k) (n : Nat) : Sc (w.drewN n) p l k := h
theorem Sc.alloc {w : World} {p : Nat} {l : List UInt8} {k : Nat} (h : Sc w p l k) (o : Obj) : Sc (w.alloc o) p l k := h.below ((Below.refl _ _).alloc (Nat.le_refl _) _)
theorem Sc.lt {w : World} {p : Nat} {l : List UInt8} {k : Nat} (h : Sc w p l k) : p < w.heap.size := by
  obtain ⟨A, cap, h1, _⟩ := h
  exact h1.lt
theorem Sc.le {w : World} {p : Nat} {l : List UInt8} {k : Nat} (h : Sc w p l k) : k ≤ l.length ∧ (l.length : Int) ≤ 9223372036854775807 := by
  obtain ⟨A, cap, _, _, h3, h4, h5⟩ := h
  unfold maxLen at h4
  omega
theorem Sc.at {w : World} {p : Nat} {l : List UInt8} {k : Nat} (h : Sc w p l k) : w.cell? ⟨p, 1, none⟩ = some (.int .i64 k) := by
  obtain ⟨A, cap, h1, _⟩ := h
  exact h1.cell 1
theorem gb_drewN {w w1 : World} {row : Option Nat} (h : w.grownBy w1 row) (n : Nat) : w.grownBy (w1.drewN n) row := ⟨h.os, h.tape, h.output, h.size, h.block⟩
/-- What a reading leaves behind. -/
def Did {α : Type} (enc : α → Value) (p : Nat) (l : List UInt8) (w : World) (r : Res α) (e : Ending) (w' : World) : Prop := match r with
  | .ok v k => e = .returned (enc v) ∧ Sc w' p l k ∧ w.grownBy w' (some p)
  | .err c a => e = .panicked (stopP c a) ∧ w.grownBy w' (some p)

/-- The place is written. -/
theorem Sc.moved {w : World} {p : Nat} {l : List UInt8} {k : Nat} (h : Sc w p l k) (n : Nat) (v : Int) (k' : Nat) (hv : v = k') (hk : k' ≤ l.length) :
    Sc ((w.drewN n).setCell ⟨p, 1, none⟩ (.int .i64 v)) p l k' ∧ w.grownBy ((w.drewN n).setCell ⟨p, 1, none⟩ (.int .i64 v)) (some p) := by
  subst hv
  have hlt := h.lt
  obtain ⟨A, cap, h1, h2, h3, h4, _⟩ := h
  have hg : w.grownBy ((w.drewN n).setCell ⟨p, 1, none⟩ (.int .i64 k')) (some p) := gb_put (p := ⟨p, 1, none⟩) (gb_drewN (gb_refl w _) n) (.inl rfl) _
  have hw : Whole (w.drewN n) p 91 #[.slice A l.length cap, .int .i64 k] := h1
  exact ⟨⟨A, cap, by simpa using hw.put 1 (.int .i64 k'), h2.grown hg (Nat.le_of_lt hlt) (fun g e => by injection e with e; omega), h3, h4, hk⟩, hg⟩
theorem Sc.data {w : World} {p : Nat} {l : List UInt8} {k : Nat} (h : Sc w p l k) : ∃ A cap, w.cell? ⟨p, 0, none⟩ = some (.slice A l.length cap) ∧ Lies w p A (cells (nums l)) ∧ l.length ≤ cap ∧ cap ≤ maxLen := by
  obtain ⟨A, cap, h1, h2, h3, h4, _⟩ := h
  exact ⟨A, cap, h1.cell 0, h2, h3, h4⟩
theorem Sc.free {w : World} {p : Nat} {l : List UInt8} {k : Nat} (h : Sc w p l k) : w.frozen? ⟨p, 1, none⟩ = false := by
  obtain ⟨A, cap, h1, _⟩ := h
  exact h1.frozen 1
/-- abort.Unless: nothing is wrong. -/
theorem unlessT (c a : Int) (w : World) : Calls Tryd.prog 29 #[.bool true, .int .i64 c, .int .i64 a] w fun e w' => e = .returned (.tuple #[]) ∧ w = w' :=
  (unless_true c a w).mono fun _ _ h => ⟨h.1, h.2.symm⟩
theorem unlessF (c a : Int) (w : World) : Calls Tryd.prog 29 #[.bool false, .int .i64 c, .int .i64 a] w fun e w' => e = .panicked (stopP c a) ∧ w = w' :=
  (unless_false c a w).mono fun _ _ h => ⟨h.1, h.2.symm⟩

/-- A scanner's own block alone: it has n bytes, k of them are read. -/
def Hd (w : World) (p n k : Nat) : Prop := ∃ A cap, Whole w p 91 #[.slice A n cap, .int .i64 k] ∧ n ≤ cap ∧ cap ≤ maxLen ∧ k ≤ n
theorem Sc.hd {w : World} {p : Nat} {l : List UInt8} {k : Nat} (h : Sc w p l k) : Hd w p l.length k := by
  obtain ⟨A, cap, h1, _, h3, h4, h5⟩ := h
  exact ⟨A, cap, h1, h3, h4, h5⟩
theorem Hd.grown {w w' : World} {p n k : Nat} {row : Option Nat} (h : Hd w p n k) (hg : w.grownBy w' row) (hr : some p ≠ row) : Hd w' p n k := by
  obtain ⟨A, cap, h1, h2⟩ := h
  exact ⟨A, cap, h1.grown hg hr, h2⟩
theorem Hd.drewN {w : World} {p n k : Nat} (h : Hd w p n k) (m : Nat) : Hd (w.drewN m) p n k := h
theorem left_hd {w : World} {p n k : Nat} (h : Hd w p n k) :
    Calls Tryd.prog 60 #[.pointer (some ⟨p, 0, none⟩)] w fun e w' => e = .returned (.int .i64 ((n : Int) - k)) ∧ ∃ m, w' = w.drewN m := by
  obtain ⟨A, cap, h1, h2, h3, h4⟩ := h
  unfold maxLen at h3
  have c0 := h1.cell 0
  have c1 := h1.cell 1
  simp only [List.getElem?_toArray, List.getElem?_cons_zero, List.getElem?_cons_succ] at c0 c1
  clear h1
  go_enter Tryd.func60, Tryd.ntmps60
  go_wp2
  go_quiet (fail)
  go_wp2
  go_ret
  exact ⟨rfl, _, rfl⟩
theorem left_any {w : World} {p : Nat} {l : List UInt8} {k : Nat} (h : Sc w p l k) :
    Calls Tryd.prog 60 #[.pointer (some ⟨p, 0, none⟩)] w fun e w' => e = .returned (.int .i64 ((l.length : Int) - k)) ∧ ∃ m, w' = w.drewN m := left_hd h.hd
theorem done_hd {w : World} {p n k : Nat} (h : Hd w p n k) :
    Calls Tryd.prog 46 #[.pointer (some ⟨p, 0, none⟩)] w fun e w' => e = .returned (.bool ((n : Int) - k == 0)) ∧ ∃ m, w' = w.drewN m := by
  have HL := Lib.hid (left_hd h)
  have hle : k ≤ n ∧ (n : Int) ≤ 9223372036854775807 := by
    obtain ⟨A, cap, _, h2, h3, h4⟩ := h
    unfold maxLen at h3
    omega
  clear h
  go_enter Tryd.func46, Tryd.ntmps46
  go_wp2_with (go_at_call 60; go_must ((with_reducible refine HL.out.mono ?_); rintro e w' ⟨rfl, m, rfl⟩))
  go_ret
  exact ⟨rfl, _, rfl⟩
theorem done_any {w : World} {p : Nat} {l : List UInt8} {k : Nat} (h : Sc w p l k) :
    Calls Tryd.prog 46 #[.pointer (some ⟨p, 0, none⟩)] w fun e w' => e = .returned (.bool ((l.length : Int) - k == 0)) ∧ ∃ m, w' = w.drewN m := done_hd h.hd
end Go.Proofs.YtohliaellefhaaaDoor

/- take. -/
namespace Go.Proofs.YtohliaellefhaaaDoor
set_option maxRecDepth 100000
open Go.RowKit
set_option linter.unusedVariables false

/-- s[k:k+n]. -/
theorem cut_run (A : Option Addr) (len cap k n : Nat) (h1 : k + n ≤ len) (h2 : len ≤ cap) :
    ∃ A', (∀ w, (Instr.slice 36 (.slice A len cap) (some (.int .i64 (k : Int))) (some (.int .i64 ((k : Int) + n))) none).run Tryd.prog w = .ok (.slice A' n (cap - k)) w) ∧
      (∀ w B (l : List Int), Lies w B A (cells l) → Lies w B A' (cells ((l.drop k).take n))) := by
  have hr : ∀ w, _ := fun w => run_slice_lh (P := Tryd.prog) w 36 A len cap Tryd.underlying36 .i64 .i64 (k : Int) ((k : Int) + n) (by omega) (by omega) (by omega)
  have hz : ∀ w, (sizeOf (Tryd.prog.elem 36)).run Tryd.prog w = .ok 1 w := fun w => by kernel_rfl
  have e1 : (k : Int).toNat = k := by omega
  have e2 : ((k : Int) + n).toNat = k + n := by omega
  have e3 : k + n - k = n := by omega
  by_cases hk : cap = k
  · refine ⟨A, fun w => ?_, fun w B l _ => ?_⟩
    · rw [hr w, hz w, e1, e2]
      simp [Result.andThen, sliced, e3, hk]
    · have : n = 0 := by omega
      subst this
      simp [cells]
      exact Lies.nil
  · refine ⟨A.map (·.add k), fun w => ?_, fun w B l hl => ?_⟩
    · rw [hr w, hz w, e1, e2]
      simp [Result.andThen, sliced, e3, hk]
    · have hc := (hl.cut k).take n
      have e : A.map (·.add k) = A.map (fun a => ⟨a.block, a.off + k, none⟩) ∨ (cells l).length = 0 := by
        by_cases h0 : (cells l).length = 0
        · exact .inr h0
        · obtain ⟨b, off, rfl, _⟩ := hl.at_ (i := 0) (by omega)
          left
          simp [Go.WideShapes.add_plain]
      have ec : cells ((l.drop k).take n) = ((cells l).drop k).take n := by simp [cells, List.map_drop, List.map_take]
      rw [ec]
      rcases e with e | e
      · rw [e]; exact hc
      · have : cells l = [] := List.eq_nil_of_length_eq_zero e
        rw [this]; simp
        exact Lies.nil

/-- What take hands back: n bytes that lie below the scanner. -/
def Took (p : Nat) (l : List UInt8) (k n : Nat) (w : World) (e : Ending) (w' : World) : Prop :=
  ∃ A c, e = .returned (.slice A n c) ∧ n ≤ c ∧ c ≤ maxLen ∧ Lies w' p A (cells (nums ((l.drop k).take n))) ∧ Sc w' p l (k + n) ∧ w.grownBy w' (some p)

set_option maxHeartbeats 800000 in
theorem take_ok {w : World} {p : Nat} {l : List UInt8} {k : Nat} (h : Sc w p l k) (n : Nat) (hn : k + n ≤ l.length) :
    Calls Tryd.prog 45 #[.pointer (some ⟨p, 0, none⟩), .int .i64 n] w (Took p l k n w) := by
  have hle := h.le
  have HL := Lib.hid (fun m => left_any (h.drewN m))
  have HS := Lib.hid h
  have c1 := h.at
  have f1 := h.free
  clear h
  have d1 : (0 : Int) ≤ n := by omega
  have d2 : (n : Int) ≤ (l.length : Int) - k := by omega
  have d3 : (k : Int) + n ≤ 9223372036854775807 := by omega
  go_enter Tryd.func45, Tryd.ntmps45
  go_wp2_with (go_at_call 29; go_must ((with_reducible refine (unlessT _ _ _).mono ?_); rintro e w' ⟨rfl, rfl⟩))
  go_quiet (first
    | (go_at_call 60; exact Calls.quiet_of (HL.out _))
    | (go_at_call 29; exact (unlessT _ _ _).mono fun _ _ h => ⟨h.1, _, h.2.symm⟩))
  go_wp2
  obtain ⟨hs2, hg2⟩ := HS.out.moved nq ((k : Int) + n) (k + n) (by omega) hn
  generalize (w.drewN nq).setCell ⟨p, 1, none⟩ (.int .i64 ((k : Int) + n)) = W at *
  obtain ⟨A, cap, c0', hlies, hc, hm⟩ := hs2.data
  have c1' := hs2.at
  rw [show ((k + n : Nat) : Int) = (k : Int) + n by omega] at c1'
  obtain ⟨A', hcut, hcl⟩ := cut_run A l.length cap k n hn hc
  have HLI := Lib.hid (hcl W p (nums l) hlies)
  have HS2 := Lib.hid hs2
  have HG2 := Lib.hid hg2
  clear hlies hs2 hg2 c1 f1 hcl
  go_quiet (fail)
  go_wp2
  go_ret
  exact ⟨A', cap - k, rfl, by omega, by omega, by have := HLI.out; unfold nums at *; rw [List.map_take, List.map_drop]; exact this, HS2.out.drewN _, gb_drewN HG2.out _⟩
/-- An error that take tells. -/
def Failed (p : Nat) (c : Int) (k : Nat) (w : World) (e : Ending) (w' : World) : Prop := e = .panicked (stopP c k) ∧ w.grownBy w' (some p)
theorem take_neg {w : World} {p : Nat} {l : List UInt8} {k : Nat} (h : Sc w p l k) (n : Int) (hn : n < 0) :
    Calls Tryd.prog 45 #[.pointer (some ⟨p, 0, none⟩), .int .i64 n] w (Failed p 1 k w) := by
  have c1 := h.at
  have d1 : ¬ 0 ≤ n := by omega
  have d2 : decide (0 ≤ n) = false := by simpa using hn
  clear h
  go_enter Tryd.func45, Tryd.ntmps45
  go_wp2_with (go_at_call 29; go_must ((with_reducible refine (unlessF _ _ _).mono ?_); rintro e w' ⟨rfl, rfl⟩))
  exact ⟨rfl, rfl, gb_refl _ _⟩
theorem left_held {w W : World} {p : Nat} {l : List UInt8} {k : Nat} (h : (Sc W p l k ∧ w.grownBy W (some p)) ∧ W.cell? ⟨p, 1, none⟩ = some (.int .i64 k)) :
    Calls Tryd.prog 60 #[.pointer (some ⟨p, 0, none⟩)] W fun e w' => e = .returned (.int .i64 ((l.length : Int) - k)) ∧ (Sc w' p l k ∧ w.grownBy w' (some p)) ∧ w'.cell? ⟨p, 1, none⟩ = some (.int .i64 k) :=
  (left_any h.1.1).mono fun _ _ ⟨h1, m, h2⟩ => ⟨h1, by subst h2; exact ⟨⟨h.1.1.drewN m, gb_drewN h.1.2 m⟩, h.2⟩⟩
set_option maxHeartbeats 800000 in
theorem take_short {w : World} {p : Nat} {l : List UInt8} {k : Nat} (h : Sc w p l k) (n : Nat) (hn : l.length < k + n) :
    Calls Tryd.prog 45 #[.pointer (some ⟨p, 0, none⟩), .int .i64 n] w (Failed p 2 k w) := by
  have hle := h.le
  have HS := Lib.hid h
  have c1 := h.at
  clear h
  have d1 : (0 : Int) ≤ n := by omega
  have d2 : ¬ (n : Int) ≤ (l.length : Int) - k := by omega
  have d3 : decide ((n : Int) ≤ (l.length : Int) - k) = false := by simpa using d2
  go_enter Tryd.func45, Tryd.ntmps45
  go_wp2_with (go_at_call 29; go_must ((with_reducible refine (unlessT _ _ _).mono ?_); rintro e w' ⟨rfl, rfl⟩))
  refine wp_region_held_drew (S := fun W => (Sc W p l k ∧ w.grownBy W (some p)) ∧ W.cell? ⟨p, 1, none⟩ = some (.int .i64 k)) (by kernel_rfl) ⟨⟨HS.out, gb_drew (gb_refl _ _)⟩, c1⟩ (fun hHeld => ?_)
  (refine wpAnyH_take (i := 0) (oi := { dst := some 13, op := Op.move (Operand.tmp 1), type := 3, pos := "scan.go:44", after := #[], guard := none }) (v := ?_) rfl (by kernel_rfl) (by kernel_rfl) (by kernel_rfl) (fun _ _ _ h => h) ?_ (by assumption) ?_; rotate_left; focus (refine .inl ⟨by kernel_rfl, ?_⟩; intro w hSw; (try dsimp only at hSw); go_simp; (try with_reducible rfl)); (try simp only [Act.put, List.setIfInBounds_toArray, List.set_cons_zero, List.set_cons_succ]))
  (refine wpAnyH_take (i := 1) (oi := { dst := some 14, op := Op.move (Operand.tmp 0), type := 75, pos := "scan.go:44", after := #[], guard := none }) (v := ?_) rfl (by kernel_rfl) (by kernel_rfl) (by kernel_rfl) (fun _ _ _ h => h) ?_ (by assumption) ?_; rotate_left; focus (refine .inl ⟨by kernel_rfl, ?_⟩; intro w hSw; (try dsimp only at hSw); go_simp; (try with_reducible rfl)); (try simp only [Act.put, List.setIfInBounds_toArray, List.set_cons_zero, List.set_cons_succ]))
  (refine wpAnyH_take (i := 4) (oi := { dst := some 17, op := Op.move (Operand.tmp 0), type := 75, pos := "scan.go:44", after := #[], guard := none }) (v := ?_) rfl (by kernel_rfl) (by kernel_rfl) (by kernel_rfl) (fun _ _ _ h => h) ?_ (by assumption) ?_; rotate_left; focus (refine .inl ⟨by kernel_rfl, ?_⟩; intro w hSw; (try dsimp only at hSw); go_simp; (try with_reducible rfl)); (try simp only [Act.put, List.setIfInBounds_toArray, List.set_cons_zero, List.set_cons_succ]))
  (refine wpAnyH_take (i := 5) (oi := { dst := some 18, op := Op.nilCheck (Operand.tmp 17), type := 0, pos := "scan.go:44", after := #[{ on := 4, ground := Ground.data }], guard := none }) (v := ?_) rfl (by kernel_rfl) (by kernel_rfl) (by kernel_rfl) (fun _ _ _ h => h) ?_ (by assumption) ?_; rotate_left; focus (refine .inl ⟨by kernel_rfl, ?_⟩; intro w hSw; (try dsimp only at hSw); go_simp; (try with_reducible rfl)); (try simp only [Act.put, List.setIfInBounds_toArray, List.set_cons_zero, List.set_cons_succ]))
  (refine wpAnyH_take (i := 6) (oi := { dst := some 19, op := Op.fieldAddr 91 (Operand.tmp 18) 1, type := 0, pos := "scan.go:44", after := #[{ on := 5, ground := Ground.data }], guard := none }) (v := ?_) rfl (by kernel_rfl) (by kernel_rfl) (by kernel_rfl) (fun _ _ _ h => h) ?_ (by assumption) ?_; rotate_left; focus (refine .inl ⟨by kernel_rfl, ?_⟩; intro w hSw; (try dsimp only at hSw); go_simp; (try with_reducible rfl)); (try simp only [Act.put, List.setIfInBounds_toArray, List.set_cons_zero, List.set_cons_succ]))
  (refine wpAnyH_take (i := 7) (oi := { dst := some 20, op := Op.load 3 (Operand.tmp 19), type := 3, pos := "scan.go:44", after := #[{ on := 6, ground := Ground.data }], guard := none }) (v := ?_) rfl (by kernel_rfl) (by kernel_rfl) (by kernel_rfl) (fun _ _ _ h => h) ?_ (by assumption) ?_; rotate_left; focus (refine .inl ⟨by kernel_rfl, ?_⟩; intro w hSw; (try dsimp only at hSw); go_simp; (try with_reducible rfl)); (try simp only [Act.put, List.setIfInBounds_toArray, List.set_cons_zero, List.set_cons_succ]))
  refine wpAnyH_ready (rs := [2]) (by kernel_rfl) (by simp) ?_
  refine AllReadyH.cons (o := { dst := some 15, op := Op.call { callee := Callee.value (Operand.func 60), args := #[Operand.tmp 14], argTypes := #[75] }, type := 3, pos := "scan.go:44", after := #[{ on := 1, ground := Ground.data }], guard := none }) rfl (fun K hK => ?_) AllReadyH.nil
  go_simp
  (go_at_call 60; (with_reducible refine (left_held hHeld).mono ?_); rintro e w' ⟨rfl, hk⟩)
  refine hK.out _ _ hk (fun hHeld2 => ?_)
  clear hK K hHeld
  (try simp only [Act.put, List.setIfInBounds_toArray, List.set_cons_zero, List.set_cons_succ])
  (refine wpAnyH_take (i := 3) (oi := { dst := some 16, op := Op.binOp BinOp.leq 3 (Operand.tmp 13) (Operand.tmp 15) 3, type := 4, pos := "scan.go:44", after := #[{ on := 0, ground := Ground.data }, { on := 2, ground := Ground.data }], guard := none }) (v := ?_) rfl (by kernel_rfl) (by kernel_rfl) (by kernel_rfl) (fun _ _ _ h => h) ?_ (by assumption) ?_; rotate_left; focus (refine .inl ⟨by kernel_rfl, ?_⟩; intro w hSw; (try dsimp only at hSw); go_simp; (try with_reducible rfl)); (try simp only [Act.put, List.setIfInBounds_toArray, List.set_cons_zero, List.set_cons_succ]))
  refine wpAnyH_ready (rs := [8]) (by kernel_rfl) (by simp) ?_
  refine AllReadyH.cons (o := { dst := some 21, op := Op.call { callee := Callee.value (Operand.func 29), args := #[Operand.tmp 16, Operand.const (Value.int IntKind.i64 2), Operand.tmp 20], argTypes := #[4, 26, 3] }, type := 0, pos := "scan.go:44", after := #[{ on := 3, ground := Ground.data }, { on := 7, ground := Ground.data }, { on := 2, ground := Ground.chain }], guard := none }) rfl (fun K hK => ?_) AllReadyH.nil
  go_simp
  (go_at_call 29; (with_reducible refine (unlessF _ _ _).mono ?_); rintro e w' ⟨rfl, rfl⟩; exact ⟨rfl, rfl, hHeld2.1.2⟩)
end Go.Proofs.YtohliaellefhaaaDoor
