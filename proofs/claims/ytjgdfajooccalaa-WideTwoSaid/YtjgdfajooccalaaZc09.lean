/- What Two makes, the program's and the reference's, of 64 bits; the page's example; the law of Two. (By gen/genArD.py.) -/
import Derived.Test.YtjgdfajooccalaaZc03
import Derived.Test.YtjgdfajooccalaaZc08
import Derived.Deep.QuietTactic
import Derived.Deep.CutBlock
import Derived.Deep.DeepCutAuto
import Derived.WalkLawsBesides
import Derived.BigQuiet
import Derived.LoopTactic
import Derived.Deep.DeepMust
import Derived.Test.YtjgdfajooccalaaZc02
namespace Go.Proofs.Ytjgdfajooccalaa
open Go.RowKit
set_option linter.unusedVariables false
set_option maxRecDepth 100000
theorem aw_ref {w : World} (op v u : Nat) (ho : op < 256) (hv : v < 18446744073709551616) (hu : u < 18446744073709551616) : Calls Try.prog 9 #[.int .i64 op, .int .u64 v, .int .u64 u] w fun e w' => e = .returned (.tuple #[.int .u64 (twoN 64 81 124 op v u).1, .int .i64 (twoN 64 81 124 op v u).2]) ∧ Below w.heap.size w w' := by
  have hv6 : v < 18446744073709551616 := by omega
  have hu6 : u < 18446744073709551616 := by omega
  have hv2 : v < 2 ^ 64 := hv
  have hu2 : u < 2 ^ 64 := hu
  have lv := bitsL_len 64 v
  have lu := bitsL_len 64 u
  have nv := num_of hv2
  have nu := num_of hu2
  by_cases hc : 81 ≤ op ∧ op ≤ 90
  · have e : twoN 64 81 124 op v u = ((cmpN 64 (op - 81) v u).toNat, 0) := by unfold twoN; rw [if_pos hc]
    rw [e]
    refine twoCmpw (op : Int) v u _ ?_
    obtain ⟨k, rfl, hk⟩ : ∃ k, op = 81 + k ∧ k < 10 := ⟨op - 81, by omega, by omega⟩
    rw [show 81 + k - 81 = k by omega, ← cmp_num hk (by decide) hv2 hu2]
    clear e hc
    match k, hk with
    | 0, _ =>
      have h := comparew0 (w := w) v u hv6 hu6
      rw [show ((81 + 0 : Nat) : Int) = 81 from rfl]
      generalize cmpL 64 0 (bitsL 64 v) (bitsL 64 u) = d at *
      exact h
    | 1, _ =>
      have h := comparew1 (w := w) v u hv6 hu6
      rw [show ((81 + 1 : Nat) : Int) = 82 from rfl]
      generalize cmpL 64 1 (bitsL 64 v) (bitsL 64 u) = d at *
      exact h
    | 2, _ =>
      have h := comparew2 (w := w) v u hv6 hu6
      rw [show ((81 + 2 : Nat) : Int) = 83 from rfl]
      generalize cmpL 64 2 (bitsL 64 v) (bitsL 64 u) = d at *
      exact h
    | 3, _ =>
      have h := comparew3 (w := w) v u hv6 hu6
      rw [show ((81 + 3 : Nat) : Int) = 84 from rfl]
      generalize cmpL 64 3 (bitsL 64 v) (bitsL 64 u) = d at *
      exact h
    | 4, _ =>
      have h := comparew4 (w := w) v u hv6 hu6
      rw [show ((81 + 4 : Nat) : Int) = 85 from rfl]
      generalize cmpL 64 4 (bitsL 64 v) (bitsL 64 u) = d at *
      exact h
    | 5, _ =>
      have h := comparew5 (w := w) v u hv6 hu6
      rw [show ((81 + 5 : Nat) : Int) = 86 from rfl]
      generalize cmpL 64 5 (bitsL 64 v) (bitsL 64 u) = d at *
      exact h
    | 6, _ =>
      have h := comparew6 (w := w) v u hv6 hu6
      rw [show ((81 + 6 : Nat) : Int) = 87 from rfl]
      generalize cmpL 64 6 (bitsL 64 v) (bitsL 64 u) = d at *
      exact h
    | 7, _ =>
      have h := comparew7 (w := w) v u hv6 hu6
      rw [show ((81 + 7 : Nat) : Int) = 88 from rfl]
      generalize cmpL 64 7 (bitsL 64 v) (bitsL 64 u) = d at *
      exact h
    | 8, _ =>
      have h := comparew8 (w := w) v u hv6 hu6
      rw [show ((81 + 8 : Nat) : Int) = 89 from rfl]
      generalize cmpL 64 8 (bitsL 64 v) (bitsL 64 u) = d at *
      exact h
    | 9, _ =>
      have h := comparew9 (w := w) v u hv6 hu6
      rw [show ((81 + 9 : Nat) : Int) = 90 from rfl]
      generalize cmpL 64 9 (bitsL 64 v) (bitsL 64 u) = d at *
      exact h
    | k + 10, h => omega
  by_cases ha : 124 ≤ op ∧ op ≤ 138
  · have e : twoN 64 81 124 op v u = arN 64 (op - 124) v u := by unfold twoN; rw [if_neg hc, if_pos ha]
    rw [e]
    obtain ⟨k, rfl, hk⟩ : ∃ k, op = 124 + k ∧ k < 15 := ⟨op - 124, by omega, by omega⟩
    rw [show 124 + k - 124 = k by omega]
    clear e hc ha
    have hq : u % 64 < 64 := Nat.mod_lt _ (by decide)
    match k, hk with
    | 0, _ =>
      have h := twow0 (w := w) v u hv6 hu6
      rw [show ((124 + 0 : Nat) : Int) = 124 from rfl]
      rw [add_num lv lu, nv, nu] at h
      exact h
    | 1, _ =>
      have h := twow1 (w := w) v u hv6 hu6
      rw [show ((124 + 1 : Nat) : Int) = 125 from rfl]
      rw [sub_num lv lu, nv, nu] at h
      exact h
    | 2, _ =>
      have h := twow2 (w := w) v u hv6 hu6
      rw [show ((124 + 2 : Nat) : Int) = 126 from rfl]
      rw [mul_num lv lu, nv, nu] at h
      exact h
    | 3, _ =>
      have h := twow3 (w := w) v u hv6 hu6
      rw [show ((124 + 3 : Nat) : Int) = 127 from rfl]
      rw [quo_num (by decide) (by decide) hv2 hu2] at h
      exact h
    | 4, _ =>
      have h := twow4 (w := w) v u hv6 hu6
      rw [show ((124 + 4 : Nat) : Int) = 128 from rfl]
      rw [quo_num (by decide) (by decide) hv2 hu2] at h
      exact h
    | 5, _ =>
      have h := twow5 (w := w) v u hv6 hu6
      rw [show ((124 + 5 : Nat) : Int) = 129 from rfl]
      rw [quo_num (by decide) (by decide) hv2 hu2] at h
      exact h
    | 6, _ =>
      have h := twow6 (w := w) v u hv6 hu6
      rw [show ((124 + 6 : Nat) : Int) = 130 from rfl]
      rw [quo_num (by decide) (by decide) hv2 hu2] at h
      exact h
    | 7, _ =>
      have h := twow7 (w := w) v u hv6 hu6
      rw [show ((124 + 7 : Nat) : Int) = 131 from rfl]
      rw [and_num lv lu, nv, nu] at h
      exact h
    | 8, _ =>
      have h := twow8 (w := w) v u hv6 hu6
      rw [show ((124 + 8 : Nat) : Int) = 132 from rfl]
      rw [or_num lv lu, nv, nu] at h
      exact h
    | 9, _ =>
      have h := twow9 (w := w) v u hv6 hu6
      rw [show ((124 + 9 : Nat) : Int) = 133 from rfl]
      rw [xor_num lv lu, nv, nu] at h
      exact h
    | 10, _ =>
      have h := twow10 (w := w) v u hv6 hu6
      rw [show ((124 + 10 : Nat) : Int) = 134 from rfl]
      rw [nu, up_num hv2] at h
      exact h
    | 11, _ =>
      have h := twow11 (w := w) v u hv6 hu6
      rw [show ((124 + 11 : Nat) : Int) = 135 from rfl]
      rw [nu, down_num (by decide) hv2 hq] at h
      have e2 : ((arN 64 11 v u).1 : Int) = sg 64 v / 2 ^ (u % 64) % 2 ^ 64 := by show (((sg 64 v / 2 ^ (u % 64) % 18446744073709551616).toNat : Nat) : Int) = _; rw [show (2 : Int) ^ 64 = 18446744073709551616 by decide]; omega
      rw [e2]
      exact h
    | 12, _ =>
      have h := twow12 (w := w) v u hv6 hu6
      rw [show ((124 + 12 : Nat) : Int) = 136 from rfl]
      rw [nu, downU_num hv2] at h
      exact h
    | 13, _ =>
      have h := twow13 (w := w) v u hv6 hu6
      rw [show ((124 + 13 : Nat) : Int) = 137 from rfl]
      rw [nu, rot_num (by decide) hv2 hq] at h
      exact h
    | 14, _ =>
      have h := twow14 (w := w) v u hv6 hu6
      rw [show ((124 + 14 : Nat) : Int) = 138 from rfl]
      rw [nu, rotr_num (by decide) hv2 hq] at h
      exact h
    | k + 15, h => omega
  · have e : twoN 64 81 124 op v u = (0, 9) := by unfold twoN; rw [if_neg hc, if_neg ha]
    rw [e]
    exact twoNow (op : Int) v u hv6 hu6 (by omega) (by omega) (by omega) (by omega)
theorem aw_awake (w : World) : Calls Try.prog 7 #[] w fun e w' => e = .returned (.bool true) ∧ w = w' := by
  have H1 := Lib.hid (fun W => show Calls Try.prog 8 #[.int .u8 127, .int .u64 18446744073709551609, .int .u64 2] W fun e w' => e = .returned (.tuple #[.int .u64 18446744073709551613, .int .i64 0]) ∧ W = w' from aw_two 127 18446744073709551609 2 (by decide) (by decide))
  have H2 := Lib.hid (fun W => show Calls Try.prog 8 #[.int .u8 129, .int .u64 18446744073709551609, .int .u64 2] W fun e w' => e = .returned (.tuple #[.int .u64 18446744073709551615, .int .i64 0]) ∧ W = w' from aw_two 129 18446744073709551609 2 (by decide) (by decide))
  go_enter Try.func7, Try.ntmps7
  go_wp2_with (first | (go_at_call 8; (with_reducible refine (H1.out _).mono ?_); rintro e w0 ⟨rfl, rfl⟩) | (go_at_call 8; (with_reducible refine (H2.out _).mono ?_); rintro e w0 ⟨rfl, rfl⟩))
  go_ret
  exact ⟨rfl, rfl⟩
theorem aw_law (op v u : Nat) (w : World) (ho : op < 256) (hv : v < 18446744073709551616) (hu : u < 18446744073709551616) : Calls Try.prog 3 #[.int .u8 op, .int .u64 v, .int .u64 u] w fun e w' => e = .returned (.bool true) ∧ Below w.heap.size w w' := by
  have HA := Lib.hid (fun W => aw_two (w := W) op v u hv hu ho)
  have HR := Lib.hid (fun W => aw_ref (w := W) op v u ho hv hu)
  have hx : (twoN 64 81 124 op v u).1 < 18446744073709551616 := twoN_lt 64 81 124 op v u hv hu
  generalize hp : twoN 64 81 124 op v u = p at *
  obtain ⟨x, y⟩ := p
  clear hp
  have hx2 : x < 18446744073709551616 := hx
  go_enter Try.func3, Try.ntmps3
  go_wp2_with (first | (go_at_call 7; (with_reducible refine (aw_awake _).mono ?_); rintro e w0 ⟨rfl, rfl⟩) | (go_at_call 8; (with_reducible refine (HA.out _).mono ?_); rintro e w1 ⟨rfl, rfl⟩) | (go_at_call 9; (with_reducible refine (HR.out _).mono ?_); rintro e w2 ⟨rfl, hb⟩; have HB := Lib.hid hb; clear hb))
  go_ret
  exact ⟨rfl, HB.out⟩
end Go.Proofs.Ytjgdfajooccalaa

/- Laws of the operators on numbers: sub undoes add, turns undo each other, the quotient times b plus the remainder is a, of two numbers one is ahead or both are alike. No walk here. -/
namespace Go.Proofs.Ytjgdfajooccalaa
open Go.RowKit
set_option linter.unusedVariables false
section
variable {n v u : Nat}
theorem add_sub_num (hv : v < 2 ^ n) (hu : u < 2 ^ n) : ((v + u) % 2 ^ n + (2 ^ n - u)) % 2 ^ n = v := by
  rw [Nat.mod_add_mod, show v + u + (2 ^ n - u) = v + 2 ^ n by omega, Nat.add_mod_right, Nat.mod_eq_of_lt hv]
theorem xor_xor_num (hv : v < 2 ^ n) (hu : u < 2 ^ n) : ((v ^^^ u) % 2 ^ n ^^^ u) % 2 ^ n = v := by
  rw [Nat.mod_eq_of_lt (Nat.xor_lt_two_pow hv hu), Nat.xor_assoc, Nat.xor_self, Nat.xor_zero, Nat.mod_eq_of_lt hv]
theorem rot_rotL {l : List Bool} (hn : 0 < n) (hl : l.length = n) {k : Nat} (hk : k < n) : rotL n (rotL n l k) (-(k : Int)) = l := by
  apply List.ext_getElem?
  intro i
  by_cases hi : i < n
  · have h1 := rotL_get (n := n) (i := i) (a := rotL n l k) (k := -(k : Int)) hi
    have hj : (((i : Int) - -(k : Int)) % n).toNat < n := by
      have a1 := Int.emod_nonneg ((i : Int) - -(k : Int)) (b := (n : Int)) (by omega)
      have a2 := Int.emod_lt_of_pos ((i : Int) - -(k : Int)) (b := (n : Int)) (by omega)
      omega
    rw [rotL_get hj] at h1
    have e : ((((((i : Int) - -(k : Int)) % n).toNat : Nat) : Int) - (k : Int)) % n = i := by
      have a1 := Int.emod_nonneg ((i : Int) - -(k : Int)) (b := (n : Int)) (by omega)
      rw [Int.toNat_of_nonneg a1, Int.emod_sub_emod, show (i : Int) - -(k : Int) - k = i by omega]
      exact Int.emod_eq_of_lt (by omega) (by omega)
    rw [e, Int.toNat_natCast] at h1
    rw [List.getD_eq_getElem?_getD, List.getD_eq_getElem?_getD, List.getElem?_eq_getElem (by rw [rotL_len]; exact hi), List.getElem?_eq_getElem (by omega)] at h1
    rw [List.getElem?_eq_getElem (by rw [rotL_len]; exact hi), List.getElem?_eq_getElem (by omega)]
    exact congrArg some h1
  · rw [List.getElem?_eq_none (by rw [rotL_len]; omega), List.getElem?_eq_none (by omega)]
theorem rot_rot_num (hn : 0 < n) (hv : v < 2 ^ n) {k : Nat} (hk : k < n) : rotN n (rotN n v k) ((n - k) % n) = v := by
  have h1 := rot_num hn hv hk
  have h2 := rotr_num hn (rotN_lt hn hv hk) hk
  rw [← h2, ← h1]
  have h3 := bits_num (rotL n (bitsL n v) k)
  rw [rotL_len] at h3
  rw [h3, rot_rotL hn (bitsL_len n v) hk, num_of hv]
theorem quo_rem_num (hv : v < 2 ^ n) (hu : u < 2 ^ n) : (((((sg n v).tdiv (sg n u) % 2 ^ n).toNat * u) % 2 ^ n) + ((sg n v).tmod (sg n u) % 2 ^ n).toNat) % 2 ^ n = v := by
  have e : ((2 ^ n : Nat) : Int) = (2 : Int) ^ n := by norm_cast
  have hv2 := sg_mod hv
  have hu2 := sg_mod hu
  have hp : (0 : Int) < ((2 ^ n : Nat) : Int) := by have := Nat.two_pow_pos n; omega
  rw [← e] at hv2 hu2 ⊢
  generalize 2 ^ n = m at *
  generalize sg n v = x at *
  generalize sg n u = y at *
  have n1 := Int.emod_nonneg (x.tdiv y) (b := (m : Int)) (by omega)
  have n2 := Int.emod_nonneg (x.tmod y) (b := (m : Int)) (by omega)
  apply Int.ofNat.inj
  show (((((x.tdiv y % (m : Int)).toNat * u) % m + (x.tmod y % (m : Int)).toNat) % m : Nat) : Int) = (v : Int)
  rw [Int.natCast_emod, Int.natCast_add, Int.natCast_emod, Int.natCast_mul, Int.toNat_of_nonneg n1, Int.toNat_of_nonneg n2]
  rw [← hu2, ← Int.mul_emod, Int.emod_add_emod, Int.add_emod_emod, Int.tdiv_mul_add_tmod, hv2]
theorem cmp_one : ((cmpN n 2 v u).toNat + (cmpN n 4 v u).toNat + (cmpN n 0 v u).toNat = 1) ∨ ¬ (v < 2 ^ n ∧ u < 2 ^ n) := by
  by_cases h : v < 2 ^ n ∧ u < 2 ^ n
  · left
    have i1 : v = u ↔ sg n v = sg n u := by
      refine ⟨fun h => by rw [h], fun he => ?_⟩
      have a1 := sg_mod h.1
      have a2 := sg_mod h.2
      rw [he, a2] at a1
      omega
    show (decide (sg n v < sg n u)).toNat + (decide (sg n u < sg n v)).toNat + (decide (v = u)).toNat = 1
    have key : ∀ x y : Int, (decide (x < y)).toNat + (decide (y < x)).toNat + (decide (x = y)).toNat = 1 := by
      intro x y
      rcases Int.lt_trichotomy x y with h | h | h
      · rw [decide_eq_true h, decide_eq_false (by omega : ¬ y < x), decide_eq_false (by omega : ¬ x = y)]; rfl
      · rw [decide_eq_false (by omega : ¬ x < y), decide_eq_false (by omega : ¬ y < x), decide_eq_true h]; rfl
      · rw [decide_eq_false (by omega : ¬ x < y), decide_eq_true h, decide_eq_false (by omega : ¬ x = y)]; rfl
    have e2 : decide (v = u) = decide (sg n v = sg n u) := decide_eq_decide.2 i1
    rw [e2]
    exact key _ _
  · exact .inr h
theorem cmp_two : (cmpN n 3 v u).toNat + (cmpN n 9 v u).toNat = 1 := by
  show (decide (v < u)).toNat + (decide (u ≤ v)).toNat = 1
  by_cases h : v < u
  · rw [decide_eq_true h, decide_eq_false (by omega : ¬ u ≤ v)]; rfl
  · rw [decide_eq_false h, decide_eq_true (by omega : u ≤ v)]; rfl
end
end Go.Proofs.Ytjgdfajooccalaa

/- The law of sums, quotients, turns, comparisons of 64 bits. (By gen/genArE.py.) -/
namespace Go.Proofs.Ytjgdfajooccalaa
open Go.RowKit
set_option linter.unusedVariables false
set_option maxRecDepth 100000
theorem aw_fn {w : World} (op v u : Nat) (hv : v < 18446744073709551616) (hu : u < 18446744073709551616) (ho : op < 256 := by decide) : Calls Try.prog 10 #[.int .u8 op, .int .u64 v, .int .u64 u] w fun e w' => e = .returned (.int .u64 (twoN 64 81 124 op v u).1) ∧ w = w' := by
  have HA := Lib.hid (aw_two (w := w) op v u hv hu ho)
  generalize twoN 64 81 124 op v u = p at *
  go_enter Try.func10, Try.ntmps10
  go_wp2_with (go_at_call 8; (with_reducible refine HA.out.mono ?_); rintro e w1 ⟨rfl, rfl⟩)
  go_ret
  exact ⟨rfl, rfl⟩
set_option maxHeartbeats 4000000 in
theorem aw_lawsZ {w : World} (v u x1 x2 x3 p q r f g : Nat) (hv : v < 18446744073709551616) (hu : u < 18446744073709551616) (e1 : p + q + r = 1) (e2 : f + g = 1)
    (F1 : ∀ W, Calls Try.prog 10 #[.int .u8 124, .int .u64 v, .int .u64 u] W fun e w' => e = .returned (.int .u64 x1) ∧ W = w')
    (F2 : ∀ W, Calls Try.prog 10 #[.int .u8 125, .int .u64 x1, .int .u64 u] W fun e w' => e = .returned (.int .u64 v) ∧ W = w')
    (F3 : ∀ W, Calls Try.prog 10 #[.int .u8 137, .int .u64 v, .int .u64 u] W fun e w' => e = .returned (.int .u64 x2) ∧ W = w')
    (F4 : ∀ W, Calls Try.prog 10 #[.int .u8 138, .int .u64 x2, .int .u64 u] W fun e w' => e = .returned (.int .u64 v) ∧ W = w')
    (F5 : ∀ W, Calls Try.prog 10 #[.int .u8 133, .int .u64 v, .int .u64 u] W fun e w' => e = .returned (.int .u64 x3) ∧ W = w')
    (F6 : ∀ W, Calls Try.prog 10 #[.int .u8 133, .int .u64 x3, .int .u64 u] W fun e w' => e = .returned (.int .u64 v) ∧ W = w')
    (F7 : ∀ W, Calls Try.prog 10 #[.int .u8 83, .int .u64 v, .int .u64 u] W fun e w' => e = .returned (.int .u64 p) ∧ W = w')
    (F8 : ∀ W, Calls Try.prog 10 #[.int .u8 85, .int .u64 v, .int .u64 u] W fun e w' => e = .returned (.int .u64 q) ∧ W = w')
    (F9 : ∀ W, Calls Try.prog 10 #[.int .u8 81, .int .u64 v, .int .u64 u] W fun e w' => e = .returned (.int .u64 r) ∧ W = w')
    (G1 : ∀ W, Calls Try.prog 10 #[.int .u8 84, .int .u64 v, .int .u64 u] W fun e w' => e = .returned (.int .u64 f) ∧ W = w')
    (G2 : ∀ W, Calls Try.prog 10 #[.int .u8 90, .int .u64 v, .int .u64 u] W fun e w' => e = .returned (.int .u64 g) ∧ W = w')
    (hz : u = 0) (Q : ∀ W, Calls Try.prog 8 #[.int .u8 127, .int .u64 v, .int .u64 u] W fun e w' => e = .returned (.tuple #[.int .u64 0, .int .i64 61]) ∧ W = w') (R : ∀ W, Calls Try.prog 8 #[.int .u8 129, .int .u64 v, .int .u64 u] W fun e w' => e = .returned (.tuple #[.int .u64 0, .int .i64 61]) ∧ W = w') : Calls Try.prog 4 #[.int .u64 v, .int .u64 u] w fun e w' => e = .returned (.bool true) ∧ w = w' := by
  have HF1 := Lib.hid F1
  clear F1
  have HF2 := Lib.hid F2
  clear F2
  have HF3 := Lib.hid F3
  clear F3
  have HF4 := Lib.hid F4
  clear F4
  have HF5 := Lib.hid F5
  clear F5
  have HF6 := Lib.hid F6
  clear F6
  have HF7 := Lib.hid F7
  clear F7
  have HF8 := Lib.hid F8
  clear F8
  have HF9 := Lib.hid F9
  clear F9
  have HG1 := Lib.hid G1
  clear G1
  have HG2 := Lib.hid G2
  clear G2
  have s1 : ∃ s : Nat, IntKind.u64.wrap ((p : Int) + (q : Int)) = (s : Int) ∧ IntKind.u64.wrap ((s : Int) + (r : Int)) = 1 := ⟨p + q, by rw [IntKind.wrap_u64]; omega, by rw [IntKind.wrap_u64]; omega⟩
  obtain ⟨s, s1, s2⟩ := s1
  have s3 : IntKind.u64.wrap ((f : Int) + (g : Int)) = 1 := by rw [IntKind.wrap_u64]; omega
  clear e1 e2
  have HQ := Lib.hid Q
  clear Q
  have HR := Lib.hid R
  clear R
  have d0 : ((u : Int) == 0) = true := by simp; omega
  clear hz
  go_enter Try.func4, Try.ntmps4
  go_wp2_with (first | (go_at_call 7; (with_reducible refine (aw_awake _).mono ?_); rintro e w0 ⟨rfl, rfl⟩) | (go_at_call 10; first | ((with_reducible refine (HF1.out _).mono ?_); rintro e w1 ⟨rfl, rfl⟩) | ((with_reducible refine (HF2.out _).mono ?_); rintro e w1 ⟨rfl, rfl⟩) | ((with_reducible refine (HF3.out _).mono ?_); rintro e w1 ⟨rfl, rfl⟩) | ((with_reducible refine (HF4.out _).mono ?_); rintro e w1 ⟨rfl, rfl⟩) | ((with_reducible refine (HF5.out _).mono ?_); rintro e w1 ⟨rfl, rfl⟩) | ((with_reducible refine (HF6.out _).mono ?_); rintro e w1 ⟨rfl, rfl⟩) | ((with_reducible refine (HF7.out _).mono ?_); rintro e w1 ⟨rfl, rfl⟩) | ((with_reducible refine (HF8.out _).mono ?_); rintro e w1 ⟨rfl, rfl⟩) | ((with_reducible refine (HF9.out _).mono ?_); rintro e w1 ⟨rfl, rfl⟩) | ((with_reducible refine (HG1.out _).mono ?_); rintro e w1 ⟨rfl, rfl⟩) | ((with_reducible refine (HG2.out _).mono ?_); rintro e w1 ⟨rfl, rfl⟩)) | (go_at_call 8; first | ((with_reducible refine (HQ.out _).mono ?_); rintro e w1 ⟨rfl, rfl⟩) | ((with_reducible refine (HR.out _).mono ?_); rintro e w1 ⟨rfl, rfl⟩)))
  go_ret
  exact ⟨rfl, rfl⟩
set_option maxHeartbeats 4000000 in
theorem aw_lawsO {w : World} (v u x1 x2 x3 p q r f g : Nat) (hv : v < 18446744073709551616) (hu : u < 18446744073709551616) (e1 : p + q + r = 1) (e2 : f + g = 1)
    (F1 : ∀ W, Calls Try.prog 10 #[.int .u8 124, .int .u64 v, .int .u64 u] W fun e w' => e = .returned (.int .u64 x1) ∧ W = w')
    (F2 : ∀ W, Calls Try.prog 10 #[.int .u8 125, .int .u64 x1, .int .u64 u] W fun e w' => e = .returned (.int .u64 v) ∧ W = w')
    (F3 : ∀ W, Calls Try.prog 10 #[.int .u8 137, .int .u64 v, .int .u64 u] W fun e w' => e = .returned (.int .u64 x2) ∧ W = w')
    (F4 : ∀ W, Calls Try.prog 10 #[.int .u8 138, .int .u64 x2, .int .u64 u] W fun e w' => e = .returned (.int .u64 v) ∧ W = w')
    (F5 : ∀ W, Calls Try.prog 10 #[.int .u8 133, .int .u64 v, .int .u64 u] W fun e w' => e = .returned (.int .u64 x3) ∧ W = w')
    (F6 : ∀ W, Calls Try.prog 10 #[.int .u8 133, .int .u64 x3, .int .u64 u] W fun e w' => e = .returned (.int .u64 v) ∧ W = w')
    (F7 : ∀ W, Calls Try.prog 10 #[.int .u8 83, .int .u64 v, .int .u64 u] W fun e w' => e = .returned (.int .u64 p) ∧ W = w')
    (F8 : ∀ W, Calls Try.prog 10 #[.int .u8 85, .int .u64 v, .int .u64 u] W fun e w' => e = .returned (.int .u64 q) ∧ W = w')
    (F9 : ∀ W, Calls Try.prog 10 #[.int .u8 81, .int .u64 v, .int .u64 u] W fun e w' => e = .returned (.int .u64 r) ∧ W = w')
    (G1 : ∀ W, Calls Try.prog 10 #[.int .u8 84, .int .u64 v, .int .u64 u] W fun e w' => e = .returned (.int .u64 f) ∧ W = w')
    (G2 : ∀ W, Calls Try.prog 10 #[.int .u8 90, .int .u64 v, .int .u64 u] W fun e w' => e = .returned (.int .u64 g) ∧ W = w')
    (hu0 : u = 18446744073709551615) (hv0 : v = 9223372036854775808) (Q : ∀ W, Calls Try.prog 8 #[.int .u8 127, .int .u64 v, .int .u64 u] W fun e w' => e = .returned (.tuple #[.int .u64 0, .int .i64 62]) ∧ W = w') (R : ∀ W, Calls Try.prog 8 #[.int .u8 129, .int .u64 v, .int .u64 u] W fun e w' => e = .returned (.tuple #[.int .u64 0, .int .i64 0]) ∧ W = w') : Calls Try.prog 4 #[.int .u64 v, .int .u64 u] w fun e w' => e = .returned (.bool true) ∧ w = w' := by
  have HF1 := Lib.hid F1
  clear F1
  have HF2 := Lib.hid F2
  clear F2
  have HF3 := Lib.hid F3
  clear F3
  have HF4 := Lib.hid F4
  clear F4
  have HF5 := Lib.hid F5
  clear F5
  have HF6 := Lib.hid F6
  clear F6
  have HF7 := Lib.hid F7
  clear F7
  have HF8 := Lib.hid F8
  clear F8
  have HF9 := Lib.hid F9
  clear F9
  have HG1 := Lib.hid G1
  clear G1
  have HG2 := Lib.hid G2
  clear G2
  have s1 : ∃ s : Nat, IntKind.u64.wrap ((p : Int) + (q : Int)) = (s : Int) ∧ IntKind.u64.wrap ((s : Int) + (r : Int)) = 1 := ⟨p + q, by rw [IntKind.wrap_u64]; omega, by rw [IntKind.wrap_u64]; omega⟩
  obtain ⟨s, s1, s2⟩ := s1
  have s3 : IntKind.u64.wrap ((f : Int) + (g : Int)) = 1 := by rw [IntKind.wrap_u64]; omega
  clear e1 e2
  have HQ := Lib.hid Q
  clear Q
  have HR := Lib.hid R
  clear R
  have d0 : ((u : Int) == 0) = false := by simp; omega
  have d1 : ((v : Int) == 9223372036854775808) = true := by simp; omega
  have d2 : IntKind.u64.wrap ((u : Int) + 1) = 0 := by rw [IntKind.wrap_u64]; omega
  clear hu0 hv0
  go_enter Try.func4, Try.ntmps4
  go_wp2_with (first | (go_at_call 7; (with_reducible refine (aw_awake _).mono ?_); rintro e w0 ⟨rfl, rfl⟩) | (go_at_call 10; first | ((with_reducible refine (HF1.out _).mono ?_); rintro e w1 ⟨rfl, rfl⟩) | ((with_reducible refine (HF2.out _).mono ?_); rintro e w1 ⟨rfl, rfl⟩) | ((with_reducible refine (HF3.out _).mono ?_); rintro e w1 ⟨rfl, rfl⟩) | ((with_reducible refine (HF4.out _).mono ?_); rintro e w1 ⟨rfl, rfl⟩) | ((with_reducible refine (HF5.out _).mono ?_); rintro e w1 ⟨rfl, rfl⟩) | ((with_reducible refine (HF6.out _).mono ?_); rintro e w1 ⟨rfl, rfl⟩) | ((with_reducible refine (HF7.out _).mono ?_); rintro e w1 ⟨rfl, rfl⟩) | ((with_reducible refine (HF8.out _).mono ?_); rintro e w1 ⟨rfl, rfl⟩) | ((with_reducible refine (HF9.out _).mono ?_); rintro e w1 ⟨rfl, rfl⟩) | ((with_reducible refine (HG1.out _).mono ?_); rintro e w1 ⟨rfl, rfl⟩) | ((with_reducible refine (HG2.out _).mono ?_); rintro e w1 ⟨rfl, rfl⟩)) | (go_at_call 8; first | ((with_reducible refine (HQ.out _).mono ?_); rintro e w1 ⟨rfl, rfl⟩) | ((with_reducible refine (HR.out _).mono ?_); rintro e w1 ⟨rfl, rfl⟩)))
  go_ret
  exact ⟨rfl, rfl⟩
set_option maxHeartbeats 4000000 in
theorem aw_lawsN {w : World} (v u x1 x2 x3 p q r f g : Nat) (hv : v < 18446744073709551616) (hu : u < 18446744073709551616) (e1 : p + q + r = 1) (e2 : f + g = 1)
    (F1 : ∀ W, Calls Try.prog 10 #[.int .u8 124, .int .u64 v, .int .u64 u] W fun e w' => e = .returned (.int .u64 x1) ∧ W = w')
    (F2 : ∀ W, Calls Try.prog 10 #[.int .u8 125, .int .u64 x1, .int .u64 u] W fun e w' => e = .returned (.int .u64 v) ∧ W = w')
    (F3 : ∀ W, Calls Try.prog 10 #[.int .u8 137, .int .u64 v, .int .u64 u] W fun e w' => e = .returned (.int .u64 x2) ∧ W = w')
    (F4 : ∀ W, Calls Try.prog 10 #[.int .u8 138, .int .u64 x2, .int .u64 u] W fun e w' => e = .returned (.int .u64 v) ∧ W = w')
    (F5 : ∀ W, Calls Try.prog 10 #[.int .u8 133, .int .u64 v, .int .u64 u] W fun e w' => e = .returned (.int .u64 x3) ∧ W = w')
    (F6 : ∀ W, Calls Try.prog 10 #[.int .u8 133, .int .u64 x3, .int .u64 u] W fun e w' => e = .returned (.int .u64 v) ∧ W = w')
    (F7 : ∀ W, Calls Try.prog 10 #[.int .u8 83, .int .u64 v, .int .u64 u] W fun e w' => e = .returned (.int .u64 p) ∧ W = w')
    (F8 : ∀ W, Calls Try.prog 10 #[.int .u8 85, .int .u64 v, .int .u64 u] W fun e w' => e = .returned (.int .u64 q) ∧ W = w')
    (F9 : ∀ W, Calls Try.prog 10 #[.int .u8 81, .int .u64 v, .int .u64 u] W fun e w' => e = .returned (.int .u64 r) ∧ W = w')
    (G1 : ∀ W, Calls Try.prog 10 #[.int .u8 84, .int .u64 v, .int .u64 u] W fun e w' => e = .returned (.int .u64 f) ∧ W = w')
    (G2 : ∀ W, Calls Try.prog 10 #[.int .u8 90, .int .u64 v, .int .u64 u] W fun e w' => e = .returned (.int .u64 g) ∧ W = w')
    (hu0 : u ≠ 0) (a b m : Nat) (Q : ∀ W, Calls Try.prog 8 #[.int .u8 127, .int .u64 v, .int .u64 u] W fun e w' => e = .returned (.tuple #[.int .u64 a, .int .i64 0]) ∧ W = w') (R : ∀ W, Calls Try.prog 8 #[.int .u8 129, .int .u64 v, .int .u64 u] W fun e w' => e = .returned (.tuple #[.int .u64 b, .int .i64 0]) ∧ W = w') (Y1 : ∀ W, Calls Try.prog 10 #[.int .u8 126, .int .u64 a, .int .u64 u] W fun e w' => e = .returned (.int .u64 m) ∧ W = w') (Y2 : ∀ W, Calls Try.prog 10 #[.int .u8 124, .int .u64 m, .int .u64 b] W fun e w' => e = .returned (.int .u64 v) ∧ W = w') : Calls Try.prog 4 #[.int .u64 v, .int .u64 u] w fun e w' => e = .returned (.bool true) ∧ w = w' := by
  have HF1 := Lib.hid F1
  clear F1
  have HF2 := Lib.hid F2
  clear F2
  have HF3 := Lib.hid F3
  clear F3
  have HF4 := Lib.hid F4
  clear F4
  have HF5 := Lib.hid F5
  clear F5
  have HF6 := Lib.hid F6
  clear F6
  have HF7 := Lib.hid F7
  clear F7
  have HF8 := Lib.hid F8
  clear F8
  have HF9 := Lib.hid F9
  clear F9
  have HG1 := Lib.hid G1
  clear G1
  have HG2 := Lib.hid G2
  clear G2
  have s1 : ∃ s : Nat, IntKind.u64.wrap ((p : Int) + (q : Int)) = (s : Int) ∧ IntKind.u64.wrap ((s : Int) + (r : Int)) = 1 := ⟨p + q, by rw [IntKind.wrap_u64]; omega, by rw [IntKind.wrap_u64]; omega⟩
  obtain ⟨s, s1, s2⟩ := s1
  have s3 : IntKind.u64.wrap ((f : Int) + (g : Int)) = 1 := by rw [IntKind.wrap_u64]; omega
  clear e1 e2
  have HQ := Lib.hid Q
  clear Q
  have HR := Lib.hid R
  clear R
  have HY1 := Lib.hid Y1
  clear Y1
  have HY2 := Lib.hid Y2
  clear Y2
  have d0 : ((u : Int) == 0) = false := by simp; omega
  go_enter Try.func4, Try.ntmps4
  go_wp2_with (first | (go_at_call 7; (with_reducible refine (aw_awake _).mono ?_); rintro e w0 ⟨rfl, rfl⟩) | (go_at_call 10; first | ((with_reducible refine (HF1.out _).mono ?_); rintro e w1 ⟨rfl, rfl⟩) | ((with_reducible refine (HF2.out _).mono ?_); rintro e w1 ⟨rfl, rfl⟩) | ((with_reducible refine (HF3.out _).mono ?_); rintro e w1 ⟨rfl, rfl⟩) | ((with_reducible refine (HF4.out _).mono ?_); rintro e w1 ⟨rfl, rfl⟩) | ((with_reducible refine (HF5.out _).mono ?_); rintro e w1 ⟨rfl, rfl⟩) | ((with_reducible refine (HF6.out _).mono ?_); rintro e w1 ⟨rfl, rfl⟩) | ((with_reducible refine (HF7.out _).mono ?_); rintro e w1 ⟨rfl, rfl⟩) | ((with_reducible refine (HF8.out _).mono ?_); rintro e w1 ⟨rfl, rfl⟩) | ((with_reducible refine (HF9.out _).mono ?_); rintro e w1 ⟨rfl, rfl⟩) | ((with_reducible refine (HG1.out _).mono ?_); rintro e w1 ⟨rfl, rfl⟩) | ((with_reducible refine (HG2.out _).mono ?_); rintro e w1 ⟨rfl, rfl⟩) | ((with_reducible refine (HY1.out _).mono ?_); rintro e w1 ⟨rfl, rfl⟩) | ((with_reducible refine (HY2.out _).mono ?_); rintro e w1 ⟨rfl, rfl⟩)) | (go_at_call 8; first | ((with_reducible refine (HQ.out _).mono ?_); rintro e w1 ⟨rfl, rfl⟩) | ((with_reducible refine (HR.out _).mono ?_); rintro e w1 ⟨rfl, rfl⟩)))
  go_ret
  exact ⟨rfl, rfl⟩
theorem aw_laws {w : World} (v u : Nat) (hv : v < 18446744073709551616) (hu : u < 18446744073709551616) : Calls Try.prog 4 #[.int .u64 v, .int .u64 u] w fun e w' => e = .returned (.bool true) ∧ w = w' := by
  have hv2 : v < 2 ^ 64 := hv
  have hu2 : u < 2 ^ 64 := hu
  have hq : u % 64 < 64 := Nat.mod_lt _ (by decide)
  have l1 : (twoN 64 81 124 124 v u).1 < 18446744073709551616 := twoN_lt 64 81 124 _ v u hv hu
  have l3 : (twoN 64 81 124 137 v u).1 < 18446744073709551616 := twoN_lt 64 81 124 _ v u hv hu
  have l5 : (twoN 64 81 124 133 v u).1 < 18446744073709551616 := twoN_lt 64 81 124 _ v u hv hu
  have r2 : (twoN 64 81 124 125 (twoN 64 81 124 124 v u).1 u).1 = v := add_sub_num hv2 hu2
  have r4 : (twoN 64 81 124 138 (twoN 64 81 124 137 v u).1 u).1 = v := rot_rot_num (by decide) hv2 hq
  have r6 : (twoN 64 81 124 133 (twoN 64 81 124 133 v u).1 u).1 = v := xor_xor_num hv2 hu2
  have Q : ∀ W, Calls Try.prog 8 #[.int .u8 127, .int .u64 v, .int .u64 u] W fun e w' => e = .returned (.tuple #[.int .u64 (quoN 64 0 v u).1, .int .i64 (quoN 64 0 v u).2]) ∧ W = w' := fun W => aw_two 127 v u hv hu
  have R : ∀ W, Calls Try.prog 8 #[.int .u8 129, .int .u64 v, .int .u64 u] W fun e w' => e = .returned (.tuple #[.int .u64 (quoN 64 2 v u).1, .int .i64 (quoN 64 2 v u).2]) ∧ W = w' := fun W => aw_two 129 v u hv hu
  by_cases h0 : u = 0
  · have q1 : quoN 64 0 v u = (0, 61) := by unfold quoN; rw [if_pos h0]
    have q2 : quoN 64 2 v u = (0, 61) := by unfold quoN; rw [if_pos h0]
    rw [q1] at Q
    rw [q2] at R
    exact aw_lawsZ v u _ _ _ _ _ _ _ _ hv hu ((cmp_one (n := 64) (v := v) (u := u)).resolve_right (fun h => h ⟨hv2, hu2⟩)) (cmp_two (n := 64) (v := v) (u := u))
      (fun W => aw_fn 124 v u hv hu)
      (fun W => by have h := aw_fn (w := W) 125 _ u l1 hu; rw [r2] at h; exact h)
      (fun W => aw_fn 137 v u hv hu)
      (fun W => by have h := aw_fn (w := W) 138 _ u l3 hu; rw [r4] at h; exact h)
      (fun W => aw_fn 133 v u hv hu)
      (fun W => by have h := aw_fn (w := W) 133 _ u l5 hu; rw [r6] at h; exact h)
      (fun W => aw_fn 83 v u hv hu)
      (fun W => aw_fn 85 v u hv hu)
      (fun W => aw_fn 81 v u hv hu)
      (fun W => aw_fn 84 v u hv hu)
      (fun W => aw_fn 90 v u hv hu)
      h0 Q R
  have q2 : quoN 64 2 v u = (((sg 64 v).tmod (sg 64 u) % 2 ^ 64).toNat, 0) := by unfold quoN; rw [if_neg h0]; rfl
  by_cases hc : v = 2 ^ (64 - 1) ∧ u = 2 ^ 64 - 1
  · have q1 : quoN 64 0 v u = (0, 62) := by unfold quoN; rw [if_neg h0, if_pos rfl, if_pos hc]
    have q3 : quoN 64 2 v u = (0, 0) := by rw [q2, hc.1, hc.2]; decide
    rw [q1] at Q
    rw [q3] at R
    exact aw_lawsO v u _ _ _ _ _ _ _ _ hv hu ((cmp_one (n := 64) (v := v) (u := u)).resolve_right (fun h => h ⟨hv2, hu2⟩)) (cmp_two (n := 64) (v := v) (u := u))
      (fun W => aw_fn 124 v u hv hu)
      (fun W => by have h := aw_fn (w := W) 125 _ u l1 hu; rw [r2] at h; exact h)
      (fun W => aw_fn 137 v u hv hu)
      (fun W => by have h := aw_fn (w := W) 138 _ u l3 hu; rw [r4] at h; exact h)
      (fun W => aw_fn 133 v u hv hu)
      (fun W => by have h := aw_fn (w := W) 133 _ u l5 hu; rw [r6] at h; exact h)
      (fun W => aw_fn 83 v u hv hu)
      (fun W => aw_fn 85 v u hv hu)
      (fun W => aw_fn 81 v u hv hu)
      (fun W => aw_fn 84 v u hv hu)
      (fun W => aw_fn 90 v u hv hu)
      hc.2 hc.1 Q R
  have q1 : quoN 64 0 v u = (((sg 64 v).tdiv (sg 64 u) % 2 ^ 64).toNat, 0) := by unfold quoN; rw [if_neg h0, if_pos rfl, if_neg hc]
  have a1 : ((sg 64 v).tdiv (sg 64 u) % 2 ^ 64).toNat < 18446744073709551616 := mod_toNat_lt _ 64
  have a2 : ((sg 64 v).tmod (sg 64 u) % 2 ^ 64).toNat < 18446744073709551616 := mod_toNat_lt _ 64
  have l7 : (twoN 64 81 124 126 ((sg 64 v).tdiv (sg 64 u) % 2 ^ 64).toNat u).1 < 18446744073709551616 := twoN_lt 64 81 124 _ _ u a1 hu
  have r8 : (twoN 64 81 124 124 (twoN 64 81 124 126 ((sg 64 v).tdiv (sg 64 u) % 2 ^ 64).toNat u).1 ((sg 64 v).tmod (sg 64 u) % 2 ^ 64).toNat).1 = v := quo_rem_num hv2 hu2
  rw [q1] at Q
  rw [q2] at R
  exact aw_lawsN v u _ _ _ _ _ _ _ _ hv hu ((cmp_one (n := 64) (v := v) (u := u)).resolve_right (fun h => h ⟨hv2, hu2⟩)) (cmp_two (n := 64) (v := v) (u := u))
    (fun W => aw_fn 124 v u hv hu)
    (fun W => by have h := aw_fn (w := W) 125 _ u l1 hu; rw [r2] at h; exact h)
    (fun W => aw_fn 137 v u hv hu)
    (fun W => by have h := aw_fn (w := W) 138 _ u l3 hu; rw [r4] at h; exact h)
    (fun W => aw_fn 133 v u hv hu)
    (fun W => by have h := aw_fn (w := W) 133 _ u l5 hu; rw [r6] at h; exact h)
    (fun W => aw_fn 83 v u hv hu)
    (fun W => aw_fn 85 v u hv hu)
    (fun W => aw_fn 81 v u hv hu)
    (fun W => aw_fn 84 v u hv hu)
    (fun W => aw_fn 90 v u hv hu)
    h0 _ _ _ Q R
    (fun W => aw_fn 126 _ u a1 hu)
    (fun W => by have h := aw_fn (w := W) 124 _ _ l7 a2; rw [r8] at h; exact h)
end Go.Proofs.Ytjgdfajooccalaa
