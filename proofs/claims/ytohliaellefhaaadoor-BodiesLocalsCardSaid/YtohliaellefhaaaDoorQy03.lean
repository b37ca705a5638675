/- Plain mathematics: where a varint stops, the number of its lower bytes. -/
import Derived.Test.YtohliaellefhaaaDoorQy02
namespace Go.Proofs.YtohliaellefhaaaDoor
set_option linter.unusedVariables false
open Go.RowKit

/-- Of the first M of the bytes r, the first p go on; the next one, if there is one, does not. -/
structure Stop (M : Nat) (r : List Int) (p : Nat) : Prop where
  leM : p ≤ M
  leR : p ≤ r.length
  on : ∀ i c, i < p → r[i]? = some c → 128 ≤ c
  off : ∀ c, p < M → r[p]? = some c → c < 128

theorem stop_ex (r : List Int) : ∀ M, ∃ p, Stop M r p
  | 0 => ⟨0, Nat.le_refl _, Nat.zero_le _, fun i c h => by omega, fun c h => by omega⟩
  | M + 1 => by
    obtain ⟨p, h⟩ := stop_ex r M
    have hM := h.leM
    have hR := h.leR
    rcases Nat.lt_or_ge p M with g | g
    · exact ⟨p, by omega, hR, h.on, fun c _ hc => h.off c g hc⟩
    · obtain rfl : p = M := by omega
      by_cases hr : p < r.length
      · by_cases hb : 128 ≤ r[p]
        · refine ⟨p + 1, by omega, by omega, fun i c hi hc => ?_, fun c h1 => by omega⟩
          rcases Nat.lt_or_ge i p with k | k
          · exact h.on i c k hc
          · obtain rfl : i = p := by omega
            rw [List.getElem?_eq_getElem hr] at hc
            injection hc with hc
            omega
        · refine ⟨p, by omega, hR, h.on, fun c _ hc => ?_⟩
          rw [List.getElem?_eq_getElem hr] at hc
          injection hc with hc
          omega
      · exact ⟨p, by omega, hR, h.on, fun c _ hc => by rw [List.getElem?_eq_none (by omega)] at hc; cases hc⟩

/-- The number of the lower seven bits of bytes. -/
def low : List Int → Int
  | [] => 0
  | c :: r => c % 128 + 128 * low r
theorem low_snoc : ∀ (l : List Int) (c : Int), low (l ++ [c]) = low l + c % 128 * 2 ^ (7 * l.length)
  | [], c => by simp [low]
  | d :: r, c => by
    have ih := low_snoc r c
    show d % 128 + 128 * low (r ++ [c]) = d % 128 + 128 * low r + c % 128 * 2 ^ (7 * (r.length + 1))
    have e : (2 : Int) ^ (7 * (r.length + 1)) = 128 * 2 ^ (7 * r.length) := by rw [show 7 * (r.length + 1) = 7 * r.length + 7 by omega, Int.pow_add, Int.mul_comm]; rfl
    rw [ih, e]
    generalize (2 : Int) ^ (7 * r.length) = t
    grind
theorem low_bd : ∀ l : List Int, 0 ≤ low l ∧ low l < 2 ^ (7 * l.length)
  | [] => by simp [low]
  | d :: r => by
    obtain ⟨h1, h2⟩ := low_bd r
    have e : (2 : Int) ^ (7 * (r.length + 1)) = 128 * 2 ^ (7 * r.length) := by rw [show 7 * (r.length + 1) = 7 * r.length + 7 by omega, Int.pow_add, Int.mul_comm]; rfl
    show 0 ≤ d % 128 + 128 * low r ∧ d % 128 + 128 * low r < 2 ^ (7 * (r.length + 1))
    rw [e]
    omega
/-- A last byte, with its sign. -/
def sg (c : Int) : Int := if 64 ≤ c then c - 128 else c
theorem take_snoc {l : List Int} {k : Nat} {c : Int} (h : l[k]? = some c) : l.take (k + 1) = l.take k ++ [c] := by
  obtain ⟨hk, e⟩ := List.getElem?_eq_some_iff.1 h
  rw [List.take_succ_eq_append_getElem hk, e]
theorem scale {a b : Nat} {x : Int} (hx : 0 ≤ x) (h : x < 2 ^ a) : 0 ≤ x * 2 ^ b ∧ x * 2 ^ b < 2 ^ (a + b) := by
  refine ⟨Int.mul_nonneg hx (Int.le_of_lt (p2 b)), ?_⟩
  rw [Int.pow_add]
  exact Int.mul_lt_mul_of_pos_right h (p2 b)
end Go.Proofs.YtohliaellefhaaaDoor

/- signed, lower, length of package leb. -/
namespace Go.Proofs.YtohliaellefhaaaDoor
open Go.RowKit
set_option linter.unusedVariables false

set_option maxHeartbeats 800000 in
theorem lower_any (l : List Int) (A : Option Addr) (cap B : Nat) (w : World) (hl : Lies w B A (cells l)) (h9 : l.length ≤ 9) (hb : ∀ c ∈ l, 0 ≤ c ∧ c ≤ 255) :
    Calls Tryd.prog 102 #[.slice A l.length cap] w fun e w' => e = .returned (.tuple #[.int .u64 (low l), .int .i64 ((7 * l.length : Nat) : Int)]) ∧ w = w' := by
  have HL := Lib.hid hl
  have HC := Lib.hid hb
  clear hl hb
  go_enter Tryd.func102, Tryd.ntmps102
  go_wp2
  go_loop [2, 3, 8] (fun v s i => ∃ k : Nat, k ≤ l.length ∧ i = .int .i64 k ∧ s = .int .i64 ((7 * k : Nat) : Int) ∧ v = .int .u64 (low (l.take k))) (fun _ _ i => l.length - (intOf i).toNat)
  case atStart => exact ⟨0, by omega, rfl, rfl, rfl⟩
  case round =>
    obtain ⟨k, hk, rfl, rfl, rfl⟩ := hrel
    by_cases hlt : k < l.length
    · obtain ⟨c, hc⟩ : ∃ c, l[k]? = some c := ⟨_, List.getElem?_eq_getElem hlt⟩
      obtain ⟨b, off, rfl, hbB, hcell⟩ := HL.out.byte hc
      obtain ⟨c0, c1⟩ := HC.out c (List.mem_of_getElem? hc)
      have hbd := low_bd (l.take k)
      have hsn : low (l.take (k + 1)) = low (l.take k) + c % 128 * 2 ^ (7 * k) := by rw [take_snoc hc, low_snoc, List.length_take_of_le hk]
      rw [List.length_take_of_le hk] at hbd
      obtain ⟨v0, v1⟩ := hbd
      generalize low (l.take k) = v at *
      have hn := not128 c c0 (by omega)
      obtain ⟨x, hx⟩ : ∃ x, x = c % 128 := ⟨_, rfl⟩
      rw [← hx] at hn hsn
      have x0 : 0 ≤ x := by omega
      have x1 : x ≤ 127 := by omega
      have hsc := scale (a := 7) (b := 7 * k) x0 (by show x < 128; omega)
      have hm := mono2 (a := 7 + 7 * k) (b := 63) (by omega)
      have hm2 := mono2 (a := 7 * k) (b := 56) (by omega)
      have hor := or_u64 v x (7 * k) (by omega) v0 v1 x0 (by
        have e1 : (2 : Int) ^ 63 = 9223372036854775808 := rfl
        have e2 : (2 : Int) ^ 56 = 72057594037927936 := rfl
        omega)
      have hwr : IntKind.u64.wrap (x * 2 ^ (7 * k)) = x * 2 ^ (7 * k) := by
        have e1 : (2 : Int) ^ 63 = 9223372036854775808 := rfl
        simp only [IntKind.wrap, IntKind.bits, IntKind.signed]
        generalize x * 2 ^ (7 * k) = z at *
        simp
        omega
      obtain ⟨s, hs⟩ : ∃ s, s = 7 * k := ⟨_, rfl⟩
      rw [← hs] at hsn hor hwr ⊢
      have HS := Lib.hid hs
      have HX := Lib.hid hx
      have HN := Lib.hid hsn
      have s1 : s ≤ 56 := by omega
      clear hs hx hsn hc hsc hm hm2 v1
      go_wp2
      go_round
      case rel => exact ⟨k + 1, by omega, by go_num, by rw [show ((7 * (k + 1) : Nat) : Int) = (s : Int) + 7 by have := HS.out; omega], by rw [HN.out]⟩
      case measure => simp [intOf]; omega
    · obtain rfl : k = l.length := by omega
      have ht : low (l.take l.length) = low l := by rw [List.take_length]
      rw [ht]
      clear ht
      go_wp2
      go_ret2
      exact ⟨rfl, rfl⟩

theorem Lies.add {w : World} {B : Nat} {A : Option Addr} {vs : List Value} (h : Lies w B A vs) (k : Nat) : Lies w B (Option.map (fun x => x.add k) A) (vs.drop k) := fun i v hv => by
  rw [List.getElem?_drop] at hv
  obtain ⟨b, off, rfl, h1, h2⟩ := h _ v hv
  exact ⟨b, off + k, by simp [Addr.add], h1, by rw [Nat.add_assoc]; exact h2⟩
theorem lies_if {w : World} {B cap k : Nat} {A : Option Addr} {r : List Int} (h : Lies w B A (cells r)) (hc : r.length ≤ cap) :
    Lies w B (if cap = k then A else Option.map (fun x => x.add k) A) (cells (r.drop k)) := by
  split
  · rw [List.drop_eq_nil_of_le (by omega)]; exact Lies.nil
  · have e : cells (r.drop k) = (cells r).drop k := by simp [cells, List.map_drop]
    rw [e]; exact h.add k

/-- What length answers: how many bytes, or why not. -/
def lenN (M L p : Nat) : Int := if p = M then 0 else if p = L then 0 else (p : Int) + 1
def lenE (M L p : Nat) : Int := if p = M then 3 else if p = L then 2 else 0

set_option maxHeartbeats 800000 in
theorem length_wrong (r : List Int) (A : Option Addr) (cap : Nat) (at_ n : Int) (w : World) (h : n < 1 ∨ 64 < n ∨ at_ < 0 ∨ (r.length : Int) < at_) :
    Calls Tryd.prog 101 #[.slice A r.length cap, .int .i64 at_, .int .i64 n] w fun e w' => e = .returned (.tuple #[.int .i64 0, .int .i64 1]) ∧ w = w' := by
  by_cases hn : n < 1 ∨ 64 < n
  · go_enter Tryd.func101, Tryd.ntmps101
    go_wp2_with (go_at_call 94; go_must (refine (right_out _ _ hn).mono ?_; rintro e w' ⟨rfl, rfl⟩))
    go_ret2
    exact ⟨rfl, rfl⟩
  · have n1 : 1 ≤ n := by omega
    have n2 : n ≤ 64 := by omega
    by_cases ha : at_ < 0
    · go_enter Tryd.func101, Tryd.ntmps101
      go_wp2_with (go_at_call 94; go_must (refine (right_in _ _ n1 n2).mono ?_; rintro e w' ⟨rfl, rfl⟩))
      go_ret2
      exact ⟨rfl, rfl⟩
    · have hd : decide (at_ < 0) = false := by simpa using ha
      have hl : (r.length : Int) < at_ := by omega
      go_enter Tryd.func101, Tryd.ntmps101
      go_wp2_with (go_at_call 94; go_must (refine (right_in _ _ n1 n2).mono ?_; rintro e w' ⟨rfl, rfl⟩))
      go_ret2
      exact ⟨rfl, rfl⟩

set_option maxHeartbeats 800000 in
theorem length_right (r : List Int) (A : Option Addr) (cap B : Nat) (k n p : Nat) (w : World) (hl : Lies w B A (cells r)) (hb : ∀ c ∈ r, 0 ≤ c ∧ c ≤ 255) (hc : r.length ≤ cap) (hm : cap ≤ maxLen)
    (hk : k ≤ r.length) (n1 : 1 ≤ n) (n2 : n ≤ 64) (hp : Stop ((n + 6) / 7) (r.drop k) p) :
    Calls Tryd.prog 101 #[.slice A r.length cap, .int .i64 k, .int .i64 n] w fun e w' => e = .returned (.tuple #[.int .i64 (lenN ((n + 6) / 7) (r.length - k) p), .int .i64 (lenE ((n + 6) / 7) (r.length - k) p)]) ∧ w = w' := by
  unfold maxLen at hm
  have hpM := hp.leM
  have hpR := hp.leR
  rw [List.length_drop] at hpR
  have HL8 := Lib.hid (lies_if (k := k) hl hc)
  have hlen : (r.drop k).length = r.length - k := List.length_drop
  have hbyte : ∀ c ∈ r.drop k, 0 ≤ c ∧ c ≤ 255 := fun c hcm => hb c (List.mem_of_mem_drop hcm)
  generalize r.drop k = q at *
  have HC := Lib.hid hbyte
  have HP := Lib.hid hp
  obtain ⟨L, hL⟩ : ∃ L, r.length - k = L := ⟨_, rfl⟩
  rw [hL] at hlen hpR
  rw [hL]
  have HQ := Lib.hid hlen
  clear hl hb hp hbyte hlen
  have hd : decide (r.length < k) = false := by simpa using hk
  have hd2 : ¬ r.length < k := by omega
  go_enter Tryd.func101, Tryd.ntmps101
  go_wp2_with (first
    | (go_at_call 94; go_must (refine (right_in _ _ (by omega) (by omega)).mono ?_; rintro e w' ⟨rfl, rfl⟩))
    | (go_at_call 83; go_must (refine (most_in _ _ (by omega) (by omega)).mono ?_; rintro e w' ⟨rfl, rfl⟩)))
  · rw [if_pos (by assumption)] at HL8
    clear hd hd2 hL
    go_loop [28] (fun i => ∃ j : Nat, j ≤ p ∧ i = .int .i64 j) (fun i => p - (intOf i).toNat)
    case atStart => exact ⟨0, by omega, rfl⟩
    case round =>
      obtain ⟨j, hj, rfl⟩ := hrel
      by_cases hjp : j < p
      · obtain ⟨c, hcj⟩ : ∃ c, q[j]? = some c := ⟨_, List.getElem?_eq_getElem (by have := HQ.out; omega)⟩
        obtain ⟨b, off, rfl, hbB, hcell⟩ := HL8.out.byte hcj
        obtain ⟨c0, c1⟩ := HC.out c (List.mem_of_getElem? hcj)
        have c2 := HP.out.on j c hjp hcj
        clear hcj
        have t1 : (j : Int) < ((n : Int) + 6) / 7 := by omega
        have t2 : ((j : Int) == (L : Int)) = false := by simp; omega
        go_wp2
        go_round
        case rel => exact ⟨j + 1, by omega, by go_num⟩
        case measure => simp [intOf]; omega
      · obtain rfl : j = p := by omega
        by_cases hpM2 : j = (n + 6) / 7
        · have t1 : ¬ (j : Int) < ((n : Int) + 6) / 7 := by omega
          have F : Hid (lenN ((n + 6) / 7) L j = 0 ∧ lenE ((n + 6) / 7) L j = 3) := by unfold lenN lenE; rw [if_pos hpM2, if_pos hpM2]; exact ⟨rfl, rfl⟩
          clear hpM2
          go_wp2
          go_ret2
          exact ⟨by rw [F.out.1, F.out.2]; rfl, rfl⟩
        · have t1 : (j : Int) < ((n : Int) + 6) / 7 := by omega
          by_cases hpL : j = L
          · have t2 : ((j : Int) == (L : Int)) = true := by simp; omega
            have F : Hid (lenN ((n + 6) / 7) L j = 0 ∧ lenE ((n + 6) / 7) L j = 2) := by unfold lenN lenE; rw [if_neg hpM2, if_neg hpM2, if_pos hpL, if_pos hpL]; exact ⟨rfl, rfl⟩
            clear hpM2 hpL
            go_wp2
            go_ret2
            exact ⟨by rw [F.out.1, F.out.2]; rfl, rfl⟩
          · have t2 : ((j : Int) == (L : Int)) = false := by simp; omega
            have F : Hid (lenN ((n + 6) / 7) L j = (j : Int) + 1 ∧ lenE ((n + 6) / 7) L j = 0) := by unfold lenN lenE; rw [if_neg hpM2, if_neg hpM2, if_neg hpL, if_neg hpL]; exact ⟨rfl, rfl⟩
            obtain ⟨c, hcj⟩ : ∃ c, q[j]? = some c := ⟨_, List.getElem?_eq_getElem (by have := HQ.out; omega)⟩
            obtain ⟨b, off, rfl, hbB, hcell⟩ := HL8.out.byte hcj
            obtain ⟨c0, c1⟩ := HC.out c (List.mem_of_getElem? hcj)
            have c2 := HP.out.off c (by omega) hcj
            have hjL : j < L := by omega
            clear hcj hpM2 hpL
            go_wp2
            go_ret2
            exact ⟨by rw [F.out.1, F.out.2]; rfl, rfl⟩
  · rw [if_neg (by assumption)] at HL8
    generalize Option.map (fun x => x.add k) A = A8 at *
    clear hd hd2 hL
    go_loop [28] (fun i => ∃ j : Nat, j ≤ p ∧ i = .int .i64 j) (fun i => p - (intOf i).toNat)
    case atStart => exact ⟨0, by omega, rfl⟩
    case round =>
      obtain ⟨j, hj, rfl⟩ := hrel
      by_cases hjp : j < p
      · obtain ⟨c, hcj⟩ : ∃ c, q[j]? = some c := ⟨_, List.getElem?_eq_getElem (by have := HQ.out; omega)⟩
        obtain ⟨b, off, rfl, hbB, hcell⟩ := HL8.out.byte hcj
        obtain ⟨c0, c1⟩ := HC.out c (List.mem_of_getElem? hcj)
        have c2 := HP.out.on j c hjp hcj
        clear hcj
        have t1 : (j : Int) < ((n : Int) + 6) / 7 := by omega
        have t2 : ((j : Int) == (L : Int)) = false := by simp; omega
        go_wp2
        go_round
        case rel => exact ⟨j + 1, by omega, by go_num⟩
        case measure => simp [intOf]; omega
      · obtain rfl : j = p := by omega
        by_cases hpM2 : j = (n + 6) / 7
        · have t1 : ¬ (j : Int) < ((n : Int) + 6) / 7 := by omega
          have F : Hid (lenN ((n + 6) / 7) L j = 0 ∧ lenE ((n + 6) / 7) L j = 3) := by unfold lenN lenE; rw [if_pos hpM2, if_pos hpM2]; exact ⟨rfl, rfl⟩
          clear hpM2
          go_wp2
          go_ret2
          exact ⟨by rw [F.out.1, F.out.2]; rfl, rfl⟩
        · have t1 : (j : Int) < ((n : Int) + 6) / 7 := by omega
          by_cases hpL : j = L
          · have t2 : ((j : Int) == (L : Int)) = true := by simp; omega
            have F : Hid (lenN ((n + 6) / 7) L j = 0 ∧ lenE ((n + 6) / 7) L j = 2) := by unfold lenN lenE; rw [if_neg hpM2, if_neg hpM2, if_pos hpL, if_pos hpL]; exact ⟨rfl, rfl⟩
            clear hpM2 hpL
            go_wp2
            go_ret2
            exact ⟨by rw [F.out.1, F.out.2]; rfl, rfl⟩
          · have t2 : ((j : Int) == (L : Int)) = false := by simp; omega
            have F : Hid (lenN ((n + 6) / 7) L j = (j : Int) + 1 ∧ lenE ((n + 6) / 7) L j = 0) := by unfold lenN lenE; rw [if_neg hpM2, if_neg hpM2, if_neg hpL, if_neg hpL]; exact ⟨rfl, rfl⟩
            obtain ⟨c, hcj⟩ : ∃ c, q[j]? = some c := ⟨_, List.getElem?_eq_getElem (by have := HQ.out; omega)⟩
            obtain ⟨b, off, rfl, hbB, hcell⟩ := HL8.out.byte hcj
            obtain ⟨c0, c1⟩ := HC.out c (List.mem_of_getElem? hcj)
            have c2 := HP.out.off c (by omega) hcj
            have hjL : j < L := by omega
            clear hcj hpM2 hpL
            go_wp2
            go_ret2
            exact ⟨by rw [F.out.1, F.out.2]; rfl, rfl⟩
end Go.Proofs.YtohliaellefhaaaDoor

/- Shifts by a count that is a variable; bounds of a number off its groups. -/
namespace Go.Proofs.YtohliaellefhaaaDoor
set_option linter.unusedVariables false
open Go.RowKit

theorem shr8 (c : Int) (t : Nat) (h0 : 0 ≤ c) (h1 : c < 128) : Op.shift .shr .u8 c .i64 (t : Int) = pure (.int .u8 (c / 2 ^ t)) := by
  rw [shift_shr_any _ _ _ _ (by omega)]
  have e : c / 2 ^ min (t : Int).toNat IntKind.u8.bits = c / 2 ^ t := by
    show c / 2 ^ min (t : Int).toNat 8 = c / 2 ^ t
    rw [Int.toNat_natCast]
    rcases Nat.le_total t 8 with g | g
    · rw [Nat.min_eq_left g]
    · rw [Nat.min_eq_right g]
      have hm := mono2 g
      have e8 : (2 : Int) ^ 8 = 256 := rfl
      rw [Int.ediv_eq_zero_of_lt h0 (by omega), Int.ediv_eq_zero_of_lt h0 (by omega)]
  rw [e]
theorem shr64 (c : Int) (t : Nat) (ht : t ≤ 64) : Op.shift .shr .i64 c .i64 (t : Int) = pure (.int .i64 (c / 2 ^ t)) := by
  rw [shift_shr_any _ _ _ _ (by omega)]
  show pure (Value.int .i64 (c / 2 ^ min (t : Int).toNat 64)) = _
  rw [Int.toNat_natCast, Nat.min_eq_left ht]
theorem shl64u (c : Int) (t : Nat) (ht : t ≤ 64) (h0 : 0 ≤ c * 2 ^ t) (h1 : c * 2 ^ t < 18446744073709551616) : Op.shift .shl .u64 c .i64 (t : Int) = pure (.int .u64 (c * 2 ^ t)) := by
  rw [shift_shl_any _ _ _ _ (by omega)]
  show pure (Value.int .u64 (IntKind.u64.wrap (c * 2 ^ min (t : Int).toNat 64))) = _
  rw [Int.toNat_natCast, Nat.min_eq_left ht]
  generalize c * 2 ^ t = z at *
  have e : IntKind.u64.wrap z = z := by simp only [IntKind.wrap, IntKind.bits, IntKind.signed]; simp; omega
  rw [e]
theorem shl64i (c : Int) (t : Nat) (ht : t ≤ 64) (h0 : -9223372036854775808 ≤ c * 2 ^ t) (h1 : c * 2 ^ t < 9223372036854775808) : Op.shift .shl .i64 c .i64 (t : Int) = pure (.int .i64 (c * 2 ^ t)) := by
  rw [shift_shl_any _ _ _ _ (by omega)]
  show pure (Value.int .i64 (IntKind.i64.wrap (c * 2 ^ min (t : Int).toNat 64))) = _
  rw [Int.toNat_natCast, Nat.min_eq_left ht]
  generalize c * 2 ^ t = z at *
  have e : IntKind.i64.wrap z = z := by rw [IntKind.wrap_i64]; omega
  rw [e]

/-- v + c * 2^a, v below 2^a: over 2^a it is c. -/
theorem over_low {v c : Int} {a : Nat} (h0 : 0 ≤ v) (h1 : v < 2 ^ a) : (v + c * 2 ^ a) / 2 ^ a = c := by
  rw [Int.add_mul_ediv_right _ _ (Int.ne_of_gt (p2 a)), Int.ediv_eq_zero_of_lt h0 h1]; omega
theorem over_more {v c : Int} {a b : Nat} (h0 : 0 ≤ v) (h1 : v < 2 ^ a) (hab : a ≤ b) : (v + c * 2 ^ a) / 2 ^ b = c / 2 ^ (b - a) := by
  have e : b = a + (b - a) := by omega
  rw [e, ← div_pow, over_low h0 h1]
  congr 2
  omega
theorem bdU {v c : Int} {a b : Nat} (h0 : 0 ≤ v) (h1 : v < 2 ^ a) (hc : 0 ≤ c) (hab : a ≤ b) (hf : c / 2 ^ (b - a) = 0) : 0 ≤ v + c * 2 ^ a ∧ v + c * 2 ^ a < 2 ^ b := by
  have hz : 0 ≤ c * 2 ^ a := Int.mul_nonneg hc (Int.le_of_lt (p2 a))
  have hq := over_more (c := c) h0 h1 hab
  rw [hf] at hq
  refine ⟨by omega, ?_⟩
  rcases Int.lt_or_le (v + c * 2 ^ a) (2 ^ b) with g | g
  · exact g
  · have := (Int.le_ediv_iff_mul_le (p2 b)).2 (show 1 * 2 ^ b ≤ v + c * 2 ^ a by omega)
    omega
theorem bdS {v c : Int} {a b : Nat} (h0 : 0 ≤ v) (h1 : v < 2 ^ a) (hab : a ≤ b) (hf : c / 2 ^ (b - a) = 0 ∨ c / 2 ^ (b - a) = -1) : -2 ^ b ≤ v + c * 2 ^ a ∧ v + c * 2 ^ a < 2 ^ b ∧ -2 ^ b ≤ c * 2 ^ a := by
  have hq := over_more (c := c) h0 h1 hab
  have hb := p2 b
  have e1 := Int.emod_add_mul_ediv (v + c * 2 ^ a) (2 ^ b)
  have e2 := Int.emod_nonneg (v + c * 2 ^ a) (Int.ne_of_gt hb)
  have e3 := Int.emod_lt_of_pos (v + c * 2 ^ a) hb
  have hq2 := over_more (v := 0) (c := c) (Int.le_refl 0) (p2 a) hab
  rw [Int.zero_add] at hq2
  have f1 := Int.emod_add_mul_ediv (c * 2 ^ a) (2 ^ b)
  have f2 := Int.emod_nonneg (c * 2 ^ a) (Int.ne_of_gt hb)
  rcases hf with hf | hf
  · rw [hq, hf] at e1
    rw [hq2, hf] at f1
    omega
  · rw [hq, hf] at e1
    rw [hq2, hf] at f1
    omega
end Go.Proofs.YtohliaellefhaaaDoor

/- leb.ReadUint and leb.ReadInt. -/
namespace Go.Proofs.YtohliaellefhaaaDoor
open Go.RowKit
set_option linter.unusedVariables false

set_option maxHeartbeats 800000 in
/-- No varint: the error that length tells. -/
theorem ru_fail (sl a_ n_ : Value) (e : Int) (w : World) (he : e = 1 ∨ e = 2 ∨ e = 3)
    (h : Calls Tryd.prog 101 #[sl, a_, n_] w fun x w' => x = .returned (.tuple #[.int .i64 0, .int .i64 e]) ∧ w = w') :
    Calls Tryd.prog 96 #[sl, a_, n_] w fun x w' => x = .returned (.tuple #[.int .u64 0, .int .i64 0, .int .i64 e]) ∧ w = w' := by
  have H := Lib.hid h
  clear h
  have e1 : (e != 0) = true := by simp; omega
  have e2 : (e == 0) = false := by simp; omega
  go_enter Tryd.func96, Tryd.ntmps96
  go_wp2_with (go_at_call 101; go_must (refine (Calls.mono H.out ?_); rintro x w' ⟨rfl, rfl⟩))
  go_ret3
  exact ⟨rfl, rfl⟩
theorem rcells {r : List Int} {k p : Nat} : cells ((r.drop k).take p) = ((cells r).drop k).take p := by simp [cells, List.map_drop, List.map_take]
theorem Lies.part {w : World} {B b off : Nat} {r : List Int} (h : Lies w B (some ⟨b, off, none⟩) (cells r)) (k p : Nat) : Lies w B (some ⟨b, off + k, none⟩) (cells ((r.drop k).take p)) := by
  rw [rcells]
  have g := (h.add k).take p
  have e : Option.map (fun x : Addr => x.add k) (some ⟨b, off, none⟩) = some ⟨b, off + k, none⟩ := by
    unfold Addr.add
    by_cases hk : k = 0 <;> simp [hk]
  rw [e] at g
  exact g

theorem wrapU {z : Int} (h0 : 0 ≤ z) (h1 : z < 18446744073709551616) : IntKind.u64.wrap z = z := by simp only [IntKind.wrap, IntKind.bits, IntKind.signed]; simp; omega
theorem wrapI {z : Int} (h0 : -9223372036854775808 ≤ z) (h1 : z < 9223372036854775808) : IntKind.i64.wrap z = z := by rw [IntKind.wrap_i64]; omega

/-- The numbers of a varint: p bytes that go on and the last one, c. -/
def numU (l : List Int) (c : Int) : Int := low l + c * 2 ^ (7 * l.length)
def numS (l : List Int) (c : Int) : Int := low l + sg c * 2 ^ (7 * l.length)

set_option maxHeartbeats 1600000 in
theorem ru_ok (r : List Int) (A : Option Addr) (cap B : Nat) (k n p : Nat) (c : Int) (w : World)
    (hl : Lies w B A (cells r)) (hb : ∀ c ∈ r, 0 ≤ c ∧ c ≤ 255) (hc : r.length ≤ cap) (hm : cap ≤ maxLen)
    (hk : k ≤ r.length) (n1 : 1 ≤ n) (n2 : n ≤ 64) (hp : Stop ((n + 6) / 7) (r.drop k) p) (hpM : p < (n + 6) / 7) (hpc : (r.drop k)[p]? = some c) (hf : c / 2 ^ (n - 7 * p) = 0) :
    Calls Tryd.prog 96 #[.slice A r.length cap, .int .i64 k, .int .i64 n] w fun x w' => x = .returned (.tuple #[.int .u64 (numU ((r.drop k).take p) c), .int .i64 ((k : Int) + (p + 1)), .int .i64 0]) ∧ w = w' := by
  have CL := Lib.hid (length_right r A cap B k n p w hl hb hc hm hk n1 n2 hp)
  unfold maxLen at hm
  have hrp : k + p < r.length := by
    have := (List.getElem?_eq_some_iff.1 hpc).1
    rw [List.length_drop] at this; omega
  have hlt : ((r.drop k).take p).length = p := by rw [List.length_take, List.length_drop]; omega
  have hN : lenN ((n + 6) / 7) (r.length - k) p = (p : Int) + 1 := by unfold lenN; rw [if_neg (by omega), if_neg (by omega)]
  have hE : lenE ((n + 6) / 7) (r.length - k) p = 0 := by unfold lenE; rw [if_neg (by omega), if_neg (by omega)]
  rw [hN, hE] at CL
  obtain ⟨b, off, rfl, hbB, hcell⟩ := hl.byte (i := k + p) (c := c) (by rw [← hpc, List.getElem?_drop])
  have hpart := hl.part k p
  obtain ⟨c0, c1⟩ := hb c (List.mem_of_mem_drop (List.mem_of_getElem? hpc))
  have c2 := hp.off c hpM hpc
  have CW := Lib.hid (lower_any _ _ (cap - k) B w hpart (by omega) (fun d hd => hb d (List.mem_of_mem_drop (List.mem_of_mem_take hd))))
  have hbd := low_bd ((r.drop k).take p)
  have hnum : numU ((r.drop k).take p) c = low ((r.drop k).take p) + c * 2 ^ (7 * p) := by unfold numU; rw [hlt]
  rw [hnum]
  rw [hlt] at hbd CW
  obtain ⟨v, hv⟩ : ∃ v, v = low ((r.drop k).take p) := ⟨_, rfl⟩
  rw [← hv] at CW hbd ⊢
  obtain ⟨v0, v1⟩ := hbd
  have p9 : p ≤ 9 := by omega
  have pn : 7 * p < n := by omega
  have e56 := mono2 (a := 7 * p) (b := 63) (by omega)
  have e63 : (2 : Int) ^ 63 = 9223372036854775808 := rfl
  have hbu := bdU v0 v1 c0 (b := n) (by omega) hf
  have e64 := mono2 (a := n) (b := 64) n2
  have e18 : (2 : Int) ^ 64 = 18446744073709551616 := rfl
  have hz0 : 0 ≤ c * 2 ^ (7 * p) := Int.mul_nonneg c0 (Int.le_of_lt (p2 _))
  have hs1 : Op.shift .shr .u8 c .i64 ((n : Int) - 7 * p) = pure (.int .u8 0) := by rw [show (n : Int) - 7 * p = ((n - 7 * p : Nat) : Int) by omega, shr8 _ _ c0 c2, hf]
  have hs2 : Op.shift .shl .u64 c .i64 (7 * (p : Int)) = pure (.int .u64 (c * 2 ^ (7 * p))) := by rw [show 7 * (p : Int) = ((7 * p : Nat) : Int) by omega, shl64u _ _ (by omega) hz0 (by omega)]
  have hor := or_u64 v c (7 * p) (by omega) v0 v1 c0 (by omega)
  have hw : IntKind.u64.wrap (c * 2 ^ (7 * p)) = c * 2 ^ (7 * p) := wrapU hz0 (by omega)
  obtain ⟨z, hz⟩ : ∃ z, z = c * 2 ^ (7 * p) := ⟨_, rfl⟩
  have hw2 : IntKind.u64.wrap (c * 2 ^ (7 * p)) = z := by rw [hz]; exact hw
  rw [← hz] at hor hs2 ⊢
  clear hl hb hp hpart hN hE hv hpc hlt e56 e63 v1 hpM hnum hbu e64 e18 hf hw hz0 hz
  go_enter Tryd.func96, Tryd.ntmps96
  go_wp2_with (first
    | (go_at_call 101; go_must (refine (Calls.mono CL.out ?_); rintro x w' ⟨rfl, rfl⟩))
    | (go_at_call 102; go_must (refine (Calls.mono CW.out ?_); rintro x w' ⟨rfl, rfl⟩)))
  go_ret3
  exact ⟨rfl, rfl⟩
set_option maxHeartbeats 1600000 in
theorem ru_far (r : List Int) (A : Option Addr) (cap B : Nat) (k n p : Nat) (c : Int) (w : World)
    (hl : Lies w B A (cells r)) (hb : ∀ c ∈ r, 0 ≤ c ∧ c ≤ 255) (hc : r.length ≤ cap) (hm : cap ≤ maxLen)
    (hk : k ≤ r.length) (n1 : 1 ≤ n) (n2 : n ≤ 64) (hp : Stop ((n + 6) / 7) (r.drop k) p) (hpM : p < (n + 6) / 7) (hpc : (r.drop k)[p]? = some c) (hf : ¬ c / 2 ^ (n - 7 * p) = 0) :
    Calls Tryd.prog 96 #[.slice A r.length cap, .int .i64 k, .int .i64 n] w fun x w' => x = .returned (.tuple #[.int .u64 0, .int .i64 0, .int .i64 3]) ∧ w = w' := by
  have CL := Lib.hid (length_right r A cap B k n p w hl hb hc hm hk n1 n2 hp)
  unfold maxLen at hm
  have hrp : k + p < r.length := by
    have := (List.getElem?_eq_some_iff.1 hpc).1
    rw [List.length_drop] at this; omega
  have hlt : ((r.drop k).take p).length = p := by rw [List.length_take, List.length_drop]; omega
  have hN : lenN ((n + 6) / 7) (r.length - k) p = (p : Int) + 1 := by unfold lenN; rw [if_neg (by omega), if_neg (by omega)]
  have hE : lenE ((n + 6) / 7) (r.length - k) p = 0 := by unfold lenE; rw [if_neg (by omega), if_neg (by omega)]
  rw [hN, hE] at CL
  obtain ⟨b, off, rfl, hbB, hcell⟩ := hl.byte (i := k + p) (c := c) (by rw [← hpc, List.getElem?_drop])
  have hpart := hl.part k p
  obtain ⟨c0, c1⟩ := hb c (List.mem_of_mem_drop (List.mem_of_getElem? hpc))
  have c2 := hp.off c hpM hpc
  have CW := Lib.hid (lower_any _ _ (cap - k) B w hpart (by omega) (fun d hd => hb d (List.mem_of_mem_drop (List.mem_of_mem_take hd))))
  have hbd := low_bd ((r.drop k).take p)
  rw [hlt] at hbd CW
  obtain ⟨v, hv⟩ : ∃ v, v = low ((r.drop k).take p) := ⟨_, rfl⟩
  rw [← hv] at CW hbd
  obtain ⟨v0, v1⟩ := hbd
  have p9 : p ≤ 9 := by omega
  have pn : 7 * p < n := by omega
  have e56 := mono2 (a := 7 * p) (b := 63) (by omega)
  have e63 : (2 : Int) ^ 63 = 9223372036854775808 := rfl
  have hs1 : Op.shift .shr .u8 c .i64 ((n : Int) - 7 * p) = pure (.int .u8 (c / 2 ^ (n - 7 * p))) := by rw [show (n : Int) - 7 * p = ((n - 7 * p : Nat) : Int) by omega, shr8 _ _ c0 c2]
  generalize c / 2 ^ (n - 7 * p) = z at *
  have hz : (z != 0) = true := by simpa using hf
  have hz2 : (z == 0) = false := by simpa using hf
  clear hl hb hp hpart hN hE hv hpc hlt e56 e63 v1 hpM hf
  go_enter Tryd.func96, Tryd.ntmps96
  go_wp2_with (first
    | (go_at_call 101; go_must (refine (Calls.mono CL.out ?_); rintro x w' ⟨rfl, rfl⟩))
    | (go_at_call 102; go_must (refine (Calls.mono CW.out ?_); rintro x w' ⟨rfl, rfl⟩)))
  go_ret3
  exact ⟨rfl, rfl⟩
end Go.Proofs.YtohliaellefhaaaDoor

/- Plain mathematics: the bits of a varint's number, with and without a sign; when it fits. -/
namespace Go.Proofs.YtohliaellefhaaaDoor
open Go.RowKit
set_option linter.unusedVariables false

theorem bit_step (d x : Int) (i : Nat) : bit (d % 128 + 128 * x) (7 + i) = bit x i := by
  rw [← bit_div]
  have e : (d % 128 + 128 * x) / 2 ^ 7 = x := by
    show (d % 128 + 128 * x) / 128 = x
    omega
  rw [e]
theorem bit_byte (d x : Int) (i : Nat) (hi : i < 7) : bit (d % 128 + 128 * x) i = bit d i := by
  unfold bit
  have h : i = 0 ∨ i = 1 ∨ i = 2 ∨ i = 3 ∨ i = 4 ∨ i = 5 ∨ i = 6 := by omega
  have key : (d % 128 + 128 * x) / 2 ^ i % 2 = d / 2 ^ i % 2 := by
    rcases h with rfl | rfl | rfl | rfl | rfl | rfl | rfl <;> simp <;> omega
  rw [key]
theorem bit_low : ∀ (l : List Int) (j i : Nat) (c : Int), i < 7 → l[j]? = some c → bit (low l) (7 * j + i) = bit c i
  | [], j, i, c, _, h => by simp at h
  | d :: r, 0, i, c, hi, h => by
    have : d = c := by simpa using h
    subst this
    rw [Nat.mul_zero, Nat.zero_add]
    exact bit_byte d _ i hi
  | d :: r, j + 1, i, c, hi, h => by
    have ih := bit_low r j i c hi (by simpa using h)
    rw [show 7 * (j + 1) + i = 7 + (7 * j + i) by omega, ← ih]
    exact bit_step d _ _

/-- The number of n bits, m of them known: with a sign, or without. -/
def ext (s : Bool) (N : Int) (m : Nat) : Int := if s && bit N (m - 1) then N - 2 ^ m else N
theorem ext_low (s : Bool) (N : Int) (m j : Nat) (h : j < m) : bit (ext s N m) j = bit N j := by
  unfold ext
  split
  · unfold bit
    have e : (2 : Int) ^ m = 2 ^ j * 2 * 2 ^ (m - j - 1) := by
      rw [show (2 : Int) ^ j * 2 = 2 ^ (j + 1) from (Int.pow_succ 2 j).symm, ← Int.pow_add]; congr 1; omega
    have hp := p2 j
    have e2 : N - 2 ^ m = N + 2 ^ j * (2 * -2 ^ (m - j - 1)) := by rw [e]; generalize (2 : Int) ^ (m - j - 1) = t; generalize (2 : Int) ^ j = u; grind
    rw [e2, Int.add_mul_ediv_left _ _ (Int.ne_of_gt hp)]
    congr 1
    omega
  · rfl
theorem ext_bd (s : Bool) {N : Int} {m : Nat} (hm : 1 ≤ m) (h0 : 0 ≤ N) (h1 : N < 2 ^ m) : -2 ^ m ≤ ext s N m ∧ ext s N m < 2 ^ m := by
  unfold ext
  have := p2 m
  split <;> omega
theorem bit_top {N : Int} {m : Nat} (hm : 1 ≤ m) (h0 : 0 ≤ N) (h1 : N < 2 ^ m) : bit N (m - 1) = decide (2 ^ (m - 1) ≤ N) := by
  have e : (2 : Int) ^ m = 2 * 2 ^ (m - 1) := by rw [show m = m - 1 + 1 by omega, Int.pow_succ, Int.mul_comm]; rfl
  have hp := p2 (m - 1)
  unfold bit
  by_cases h : 2 ^ (m - 1) ≤ N
  · have : N / 2 ^ (m - 1) = 1 := by rw [Int.ediv_eq_iff_of_pos hp]; constructor <;> omega
    rw [this]; simp [h]
  · have : N / 2 ^ (m - 1) = 0 := Int.ediv_eq_zero_of_lt h0 (by omega)
    rw [this]; simp [h]
theorem ext_over (s : Bool) {N : Int} {m : Nat} (hm : 1 ≤ m) (h0 : 0 ≤ N) (h1 : N < 2 ^ m) : ext s N m / 2 ^ m = if s && bit N (m - 1) then -1 else 0 := by
  unfold ext
  split
  · rw [Int.ediv_eq_iff_of_pos (p2 m)]; constructor <;> omega
  · exact Int.ediv_eq_zero_of_lt h0 h1
theorem ext_high (s : Bool) {N : Int} {m : Nat} (hm : 1 ≤ m) (h0 : 0 ≤ N) (h1 : N < 2 ^ m) (j : Nat) (hj : m ≤ j) : bit (ext s N m) j = (s && bit N (m - 1)) :=
  from_same (ext_over s hm h0 h1) j hj

/-- The sign that is asked for above the lowest n bits. -/
def topB (s : Bool) (N : Int) (m n : Nat) : Bool := s && bit N (min n m - 1)
/-- All known bits above the lowest n are the sign. -/
def Good (s : Bool) (N : Int) (m n : Nat) : Prop := ∀ j, n ≤ j → j < m → bit N j = topB s N m n

theorem good_ext {s : Bool} {N : Int} {m n : Nat} (hm : 1 ≤ m) (h0 : 0 ≤ N) (h1 : N < 2 ^ m) (hg : Good s N m n) (i : Nat) (hi : n ≤ i ∨ m ≤ i) : bit (ext s N m) i = topB s N m n := by
  rcases Nat.lt_or_ge i m with g | g
  · rw [ext_low s N m i g]; exact hg i (by omega) g
  · rw [ext_high s hm h0 h1 i g]
    rcases Nat.lt_or_ge n m with k | k
    · have h2 := hg (m - 1) (by omega) (by omega)
      rw [h2]
      unfold topB
      cases s <;> simp
    · unfold topB
      rw [Nat.min_eq_right k]
/-- It fits n bits. -/
def Fits (s : Bool) (X : Int) (n : Nat) : Prop := if s then X / 2 ^ (n - 1) = 0 ∨ X / 2 ^ (n - 1) = -1 else X / 2 ^ n = 0
theorem good_fits {s : Bool} {N : Int} {m n : Nat} (hm : 1 ≤ m) (hn : 1 ≤ n) (h0 : 0 ≤ N) (h1 : N < 2 ^ m) : Good s N m n ↔ Fits s (ext s N m) n := by
  obtain ⟨b1, b2⟩ := ext_bd s hm h0 h1
  have mm := mono2 (Nat.le_max_left m n)
  constructor
  · intro hg
    have hx := good_ext hm h0 h1 hg
    cases s
    · have h := same_from (x := ext false N m) (a := n) (b := max m n) (t := false) (by omega) (by omega) (by omega) (fun j hj _ => by rw [hx j (.inl hj)]; simp [topB])
      unfold Fits
      simpa using h
    · have h := same_from (x := ext true N m) (a := n - 1) (b := max m n) (t := topB true N m n) (by omega) (by omega) (by omega) (fun j hj _ => by
        rcases Nat.lt_or_ge j n with g | g
        · obtain rfl : j = n - 1 := by omega
          rcases Nat.lt_or_ge (n - 1) m with k | k
          · rw [ext_low _ _ _ _ k]; unfold topB; rw [Nat.min_eq_left (by omega)]; simp
          · exact hx _ (.inr k)
        · exact hx j (.inl g))
      unfold Fits
      rw [if_pos rfl, h]
      cases topB true N m n <;> simp
  · intro hf j hj hjm
    unfold Fits at hf
    rw [← ext_low s N m j hjm]
    cases s
    · simp only [Bool.false_eq_true, if_false] at hf
      rw [from_same (a := n) (t := false) (by simpa using hf) j hj]; simp [topB]
    · simp only [if_true] at hf
      have hb : ∀ i, n - 1 ≤ i → bit (ext true N m) i = bit (ext true N m) (n - 1) := fun i hi => by
        rcases hf with hf | hf
        · rw [from_same (a := n - 1) (t := false) (by simpa using hf) i hi, from_same (a := n - 1) (t := false) (by simpa using hf) (n - 1) (by omega)]
        · rw [from_same (a := n - 1) (t := true) (by simpa using hf) i hi, from_same (a := n - 1) (t := true) (by simpa using hf) (n - 1) (by omega)]
      rw [hb j (by omega), ext_low true N m (n - 1) (by omega)]
      unfold topB
      rw [Nat.min_eq_left (by omega)]
      simp
end Go.Proofs.YtohliaellefhaaaDoor
