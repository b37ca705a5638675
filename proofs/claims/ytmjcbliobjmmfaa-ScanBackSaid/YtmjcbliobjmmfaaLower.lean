/- signed, lower, length of package leb. -/
import Derived.Test.YtmjcbliobjmmfaaVar
namespace Go.Proofs.Ytmjcbliobjmmfaa
open Go.RowKit
set_option linter.unusedVariables false

set_option maxHeartbeats 800000 in
theorem lower_any (l : List Int) (A : Option Addr) (cap B : Nat) (w : World) (hl : Lies w B A (cells l)) (h9 : l.length ≤ 9) (hb : ∀ c ∈ l, 0 ≤ c ∧ c ≤ 255) :
    Calls Try.prog 50 #[.slice A l.length cap] w fun e w' => e = .returned (.tuple #[.int .u64 (low l), .int .i64 ((7 * l.length : Nat) : Int)]) ∧ w = w' := by
  have HL := Lib.hid hl
  have HC := Lib.hid hb
  clear hl hb
  go_enter Try.func50, Try.ntmps50
  go_wp2
  go_loop [2, 3, 8] (fun v s i => ∃ k : Nat, k ≤ l.length ∧ i = .int .i64 k ∧ s = .int .i64 ((7 * k : Nat) : Int) ∧ v = .int .u64 (low (l.take k))) (fun _ _ i => l.length - (intOf i).toNat)
  case atStart => exact ⟨0, by omega, rfl, rfl, rfl⟩
  case round =>
    obtain ⟨k, hk, rfl, rfl, rfl⟩ := hrel
    by_cases hlt : k < l.length
    · obtain ⟨c, hc⟩ : ∃ c, l[k]? = some c := ⟨_, List.getElem?_eq_getElem hlt⟩
      obtain ⟨b, off, rfl, hbB, hcell⟩ := HL.out.byte hc
      obtain ⟨c0, c1⟩ := HC.out c (List.mem_of_getElem? hc)
      have hbd := low_bd (l.take k)
      have hsn : low (l.take (k + 1)) = low (l.take k) + c % 128 * 2 ^ (7 * k) := by rw [take_snoc hc, low_snoc, List.length_take_of_le hk]
      rw [List.length_take_of_le hk] at hbd
      obtain ⟨v0, v1⟩ := hbd
      generalize low (l.take k) = v at *
      have hn := not128 c c0 (by omega)
      obtain ⟨x, hx⟩ : ∃ x, x = c % 128 := ⟨_, rfl⟩
      rw [← hx] at hn hsn
      have x0 : 0 ≤ x := by omega
      have x1 : x ≤ 127 := by omega
      have hsc := scale (a := 7) (b := 7 * k) x0 (by show x < 128; omega)
      have hm := mono2 (a := 7 + 7 * k) (b := 63) (by omega)
      have hm2 := mono2 (a := 7 * k) (b := 56) (by omega)
      have hor := or_u64 v x (7 * k) (by omega) v0 v1 x0 (by
        have e1 : (2 : Int) ^ 63 = 9223372036854775808 := rfl
        have e2 : (2 : Int) ^ 56 = 72057594037927936 := rfl
        omega)
      have hwr : IntKind.u64.wrap (x * 2 ^ (7 * k)) = x * 2 ^ (7 * k) := by
        have e1 : (2 : Int) ^ 63 = 9223372036854775808 := rfl
        simp only [IntKind.wrap, IntKind.bits, IntKind.signed]
        generalize x * 2 ^ (7 * k) = z at *
        simp
        omega
      obtain ⟨s, hs⟩ : ∃ s, s = 7 * k := ⟨_, rfl⟩
      rw [← hs] at hsn hor hwr ⊢
      have HS := Lib.hid hs
      have HX := Lib.hid hx
      have HN := Lib.hid hsn
      have s1 : s ≤ 56 := by omega
      clear hs hx hsn hc hsc hm hm2 v1
      go_wp2
      go_round
      case rel => exact ⟨k + 1, by omega, by go_num, by rw [show ((7 * (k + 1) : Nat) : Int) = (s : Int) + 7 by have := HS.out; omega], by rw [HN.out]⟩
      case measure => simp [intOf]; omega
    · obtain rfl : k = l.length := by omega
      have ht : low (l.take l.length) = low l := by rw [List.take_length]
      rw [ht]
      clear ht
      go_wp2
      go_ret2
      exact ⟨rfl, rfl⟩

theorem Lies.add {w : World} {B : Nat} {A : Option Addr} {vs : List Value} (h : Lies w B A vs) (k : Nat) : Lies w B (Option.map (fun x => x.add k) A) (vs.drop k) := fun i v hv => by
  rw [List.getElem?_drop] at hv
  obtain ⟨b, off, rfl, h1, h2⟩ := h _ v hv
  exact ⟨b, off + k, by simp [Addr.add], h1, by rw [Nat.add_assoc]; exact h2⟩
theorem lies_if {w : World} {B cap k : Nat} {A : Option Addr} {r : List Int} (h : Lies w B A (cells r)) (hc : r.length ≤ cap) :
    Lies w B (if cap = k then A else Option.map (fun x => x.add k) A) (cells (r.drop k)) := by
  split
  · rw [List.drop_eq_nil_of_le (by omega)]; exact Lies.nil
  · have e : cells (r.drop k) = (cells r).drop k := by simp [cells, List.map_drop]
    rw [e]; exact h.add k

/-- What length answers: how many bytes, or why not. -/
def lenN (M L p : Nat) : Int := if p = M then 0 else if p = L then 0 else (p : Int) + 1
def lenE (M L p : Nat) : Int := if p = M then 3 else if p = L then 2 else 0

set_option maxHeartbeats 800000 in
theorem length_wrong (r : List Int) (A : Option Addr) (cap : Nat) (at_ n : Int) (w : World) (h : n < 1 ∨ 64 < n ∨ at_ < 0 ∨ (r.length : Int) < at_) :
    Calls Try.prog 49 #[.slice A r.length cap, .int .i64 at_, .int .i64 n] w fun e w' => e = .returned (.tuple #[.int .i64 0, .int .i64 1]) ∧ w = w' := by
  by_cases hn : n < 1 ∨ 64 < n
  · go_enter Try.func49, Try.ntmps49
    go_wp2_with (go_at_call 51; go_must (refine (right_out _ _ hn).mono ?_; rintro e w' ⟨rfl, rfl⟩))
    go_ret2
    exact ⟨rfl, rfl⟩
  · have n1 : 1 ≤ n := by omega
    have n2 : n ≤ 64 := by omega
    by_cases ha : at_ < 0
    · go_enter Try.func49, Try.ntmps49
      go_wp2_with (go_at_call 51; go_must (refine (right_in _ _ n1 n2).mono ?_; rintro e w' ⟨rfl, rfl⟩))
      go_ret2
      exact ⟨rfl, rfl⟩
    · have hd : decide (at_ < 0) = false := by simpa using ha
      have hl : (r.length : Int) < at_ := by omega
      go_enter Try.func49, Try.ntmps49
      go_wp2_with (go_at_call 51; go_must (refine (right_in _ _ n1 n2).mono ?_; rintro e w' ⟨rfl, rfl⟩))
      go_ret2
      exact ⟨rfl, rfl⟩

set_option maxHeartbeats 800000 in
theorem length_right (r : List Int) (A : Option Addr) (cap B : Nat) (k n p : Nat) (w : World) (hl : Lies w B A (cells r)) (hb : ∀ c ∈ r, 0 ≤ c ∧ c ≤ 255) (hc : r.length ≤ cap) (hm : cap ≤ maxLen)
    (hk : k ≤ r.length) (n1 : 1 ≤ n) (n2 : n ≤ 64) (hp : Stop ((n + 6) / 7) (r.drop k) p) :
    Calls Try.prog 49 #[.slice A r.length cap, .int .i64 k, .int .i64 n] w fun e w' => e = .returned (.tuple #[.int .i64 (lenN ((n + 6) / 7) (r.length - k) p), .int .i64 (lenE ((n + 6) / 7) (r.length - k) p)]) ∧ w = w' := by
  unfold maxLen at hm
  have hpM := hp.leM
  have hpR := hp.leR
  rw [List.length_drop] at hpR
  have HL8 := Lib.hid (lies_if (k := k) hl hc)
  have hlen : (r.drop k).length = r.length - k := List.length_drop
  have hbyte : ∀ c ∈ r.drop k, 0 ≤ c ∧ c ≤ 255 := fun c hcm => hb c (List.mem_of_mem_drop hcm)
  generalize r.drop k = q at *
  have HC := Lib.hid hbyte
  have HP := Lib.hid hp
  obtain ⟨L, hL⟩ : ∃ L, r.length - k = L := ⟨_, rfl⟩
  rw [hL] at hlen hpR
  rw [hL]
  have HQ := Lib.hid hlen
  clear hl hb hp hbyte hlen
  have hd : decide (r.length < k) = false := by simpa using hk
  have hd2 : ¬ r.length < k := by omega
  go_enter Try.func49, Try.ntmps49
  go_wp2_with (first
    | (go_at_call 51; go_must (refine (right_in _ _ (by omega) (by omega)).mono ?_; rintro e w' ⟨rfl, rfl⟩))
    | (go_at_call 52; go_must (refine (most_in _ _ (by omega) (by omega)).mono ?_; rintro e w' ⟨rfl, rfl⟩)))
  · rw [if_pos (by assumption)] at HL8
    clear hd hd2 hL
    go_loop [28] (fun i => ∃ j : Nat, j ≤ p ∧ i = .int .i64 j) (fun i => p - (intOf i).toNat)
    case atStart => exact ⟨0, by omega, rfl⟩
    case round =>
      obtain ⟨j, hj, rfl⟩ := hrel
      by_cases hjp : j < p
      · obtain ⟨c, hcj⟩ : ∃ c, q[j]? = some c := ⟨_, List.getElem?_eq_getElem (by have := HQ.out; omega)⟩
        obtain ⟨b, off, rfl, hbB, hcell⟩ := HL8.out.byte hcj
        obtain ⟨c0, c1⟩ := HC.out c (List.mem_of_getElem? hcj)
        have c2 := HP.out.on j c hjp hcj
        clear hcj
        have t1 : (j : Int) < ((n : Int) + 6) / 7 := by omega
        have t2 : ((j : Int) == (L : Int)) = false := by simp; omega
        go_wp2
        go_round
        case rel => exact ⟨j + 1, by omega, by go_num⟩
        case measure => simp [intOf]; omega
      · obtain rfl : j = p := by omega
        by_cases hpM2 : j = (n + 6) / 7
        · have t1 : ¬ (j : Int) < ((n : Int) + 6) / 7 := by omega
          have F : Hid (lenN ((n + 6) / 7) L j = 0 ∧ lenE ((n + 6) / 7) L j = 3) := by unfold lenN lenE; rw [if_pos hpM2, if_pos hpM2]; exact ⟨rfl, rfl⟩
          clear hpM2
          go_wp2
          go_ret2
          exact ⟨by rw [F.out.1, F.out.2]; rfl, rfl⟩
        · have t1 : (j : Int) < ((n : Int) + 6) / 7 := by omega
          by_cases hpL : j = L
          · have t2 : ((j : Int) == (L : Int)) = true := by simp; omega
            have F : Hid (lenN ((n + 6) / 7) L j = 0 ∧ lenE ((n + 6) / 7) L j = 2) := by unfold lenN lenE; rw [if_neg hpM2, if_neg hpM2, if_pos hpL, if_pos hpL]; exact ⟨rfl, rfl⟩
            clear hpM2 hpL
            go_wp2
            go_ret2
            exact ⟨by rw [F.out.1, F.out.2]; rfl, rfl⟩
          · have t2 : ((j : Int) == (L : Int)) = false := by simp; omega
            have F : Hid (lenN ((n + 6) / 7) L j = (j : Int) + 1 ∧ lenE ((n + 6) / 7) L j = 0) := by unfold lenN lenE; rw [if_neg hpM2, if_neg hpM2, if_neg hpL, if_neg hpL]; exact ⟨rfl, rfl⟩
            obtain ⟨c, hcj⟩ : ∃ c, q[j]? = some c := ⟨_, List.getElem?_eq_getElem (by have := HQ.out; omega)⟩
            obtain ⟨b, off, rfl, hbB, hcell⟩ := HL8.out.byte hcj
            obtain ⟨c0, c1⟩ := HC.out c (List.mem_of_getElem? hcj)
            have c2 := HP.out.off c (by omega) hcj
            have hjL : j < L := by omega
            clear hcj hpM2 hpL
            go_wp2
            go_ret2
            exact ⟨by rw [F.out.1, F.out.2]; rfl, rfl⟩
  · rw [if_neg (by assumption)] at HL8
    generalize Option.map (fun x => x.add k) A = A8 at *
    clear hd hd2 hL
    go_loop [28] (fun i => ∃ j : Nat, j ≤ p ∧ i = .int .i64 j) (fun i => p - (intOf i).toNat)
    case atStart => exact ⟨0, by omega, rfl⟩
    case round =>
      obtain ⟨j, hj, rfl⟩ := hrel
      by_cases hjp : j < p
      · obtain ⟨c, hcj⟩ : ∃ c, q[j]? = some c := ⟨_, List.getElem?_eq_getElem (by have := HQ.out; omega)⟩
        obtain ⟨b, off, rfl, hbB, hcell⟩ := HL8.out.byte hcj
        obtain ⟨c0, c1⟩ := HC.out c (List.mem_of_getElem? hcj)
        have c2 := HP.out.on j c hjp hcj
        clear hcj
        have t1 : (j : Int) < ((n : Int) + 6) / 7 := by omega
        have t2 : ((j : Int) == (L : Int)) = false := by simp; omega
        go_wp2
        go_round
        case rel => exact ⟨j + 1, by omega, by go_num⟩
        case measure => simp [intOf]; omega
      · obtain rfl : j = p := by omega
        by_cases hpM2 : j = (n + 6) / 7
        · have t1 : ¬ (j : Int) < ((n : Int) + 6) / 7 := by omega
          have F : Hid (lenN ((n + 6) / 7) L j = 0 ∧ lenE ((n + 6) / 7) L j = 3) := by unfold lenN lenE; rw [if_pos hpM2, if_pos hpM2]; exact ⟨rfl, rfl⟩
          clear hpM2
          go_wp2
          go_ret2
          exact ⟨by rw [F.out.1, F.out.2]; rfl, rfl⟩
        · have t1 : (j : Int) < ((n : Int) + 6) / 7 := by omega
          by_cases hpL : j = L
          · have t2 : ((j : Int) == (L : Int)) = true := by simp; omega
            have F : Hid (lenN ((n + 6) / 7) L j = 0 ∧ lenE ((n + 6) / 7) L j = 2) := by unfold lenN lenE; rw [if_neg hpM2, if_neg hpM2, if_pos hpL, if_pos hpL]; exact ⟨rfl, rfl⟩
            clear hpM2 hpL
            go_wp2
            go_ret2
            exact ⟨by rw [F.out.1, F.out.2]; rfl, rfl⟩
          · have t2 : ((j : Int) == (L : Int)) = false := by simp; omega
            have F : Hid (lenN ((n + 6) / 7) L j = (j : Int) + 1 ∧ lenE ((n + 6) / 7) L j = 0) := by unfold lenN lenE; rw [if_neg hpM2, if_neg hpM2, if_neg hpL, if_neg hpL]; exact ⟨rfl, rfl⟩
            obtain ⟨c, hcj⟩ : ∃ c, q[j]? = some c := ⟨_, List.getElem?_eq_getElem (by have := HQ.out; omega)⟩
            obtain ⟨b, off, rfl, hbB, hcell⟩ := HL8.out.byte hcj
            obtain ⟨c0, c1⟩ := HC.out c (List.mem_of_getElem? hcj)
            have c2 := HP.out.off c (by omega) hcj
            have hjL : j < L := by omega
            clear hcj hpM2 hpL
            go_wp2
            go_ret2
            exact ⟨by rw [F.out.1, F.out.2]; rfl, rfl⟩
end Go.Proofs.Ytmjcbliobjmmfaa

