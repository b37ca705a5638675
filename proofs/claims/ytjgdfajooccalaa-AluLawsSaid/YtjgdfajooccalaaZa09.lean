/- What Two makes, the program's and the reference's, of 32 bits; the page's example; the law of Two. (By gen/genArD.py.) -/
import Derived.Test.YtjgdfajooccalaaZa03
import Derived.Test.YtjgdfajooccalaaZa08
import Derived.Deep.QuietTactic
import Derived.Deep.CutBlock
import Derived.Deep.DeepCutAuto
import Derived.WalkLawsBesides
import Derived.BigQuiet
import Derived.LoopTactic
import Derived.Deep.DeepMust
import Derived.Test.YtjgdfajooccalaaZa02
namespace Go.Proofs.Ytjgdfajooccalaa
open Go.RowKit
set_option linter.unusedVariables false
set_option maxRecDepth 100000
theorem ar_ref {w : World} (op v u : Nat) (ho : op < 256) (hv : v < 4294967296) (hu : u < 4294967296) : Calls Try.prog 13 #[.int .i64 op, .int .u64 v, .int .u64 u] w fun e w' => e = .returned (.tuple #[.int .u64 (twoN 32 70 106 op v u).1, .int .i64 (twoN 32 70 106 op v u).2]) ∧ Below w.heap.size w w' := by
  have hv6 : v < 18446744073709551616 := by omega
  have hu6 : u < 18446744073709551616 := by omega
  have hv2 : v < 2 ^ 32 := hv
  have hu2 : u < 2 ^ 32 := hu
  have lv := bitsL_len 32 v
  have lu := bitsL_len 32 u
  have nv := num_of hv2
  have nu := num_of hu2
  by_cases hc : 70 ≤ op ∧ op ≤ 79
  · have e : twoN 32 70 106 op v u = ((cmpN 32 (op - 70) v u).toNat, 0) := by unfold twoN; rw [if_pos hc]
    rw [e]
    refine twoCmpt (op : Int) v u _ ?_
    obtain ⟨k, rfl, hk⟩ : ∃ k, op = 70 + k ∧ k < 10 := ⟨op - 70, by omega, by omega⟩
    rw [show 70 + k - 70 = k by omega, ← cmp_num hk (by decide) hv2 hu2]
    clear e hc
    match k, hk with
    | 0, _ =>
      have h := comparet0 (w := w) v u hv6 hu6
      rw [show ((70 + 0 : Nat) : Int) = 70 from rfl]
      generalize cmpL 32 0 (bitsL 32 v) (bitsL 32 u) = d at *
      exact h
    | 1, _ =>
      have h := comparet1 (w := w) v u hv6 hu6
      rw [show ((70 + 1 : Nat) : Int) = 71 from rfl]
      generalize cmpL 32 1 (bitsL 32 v) (bitsL 32 u) = d at *
      exact h
    | 2, _ =>
      have h := comparet2 (w := w) v u hv6 hu6
      rw [show ((70 + 2 : Nat) : Int) = 72 from rfl]
      generalize cmpL 32 2 (bitsL 32 v) (bitsL 32 u) = d at *
      exact h
    | 3, _ =>
      have h := comparet3 (w := w) v u hv6 hu6
      rw [show ((70 + 3 : Nat) : Int) = 73 from rfl]
      generalize cmpL 32 3 (bitsL 32 v) (bitsL 32 u) = d at *
      exact h
    | 4, _ =>
      have h := comparet4 (w := w) v u hv6 hu6
      rw [show ((70 + 4 : Nat) : Int) = 74 from rfl]
      generalize cmpL 32 4 (bitsL 32 v) (bitsL 32 u) = d at *
      exact h
    | 5, _ =>
      have h := comparet5 (w := w) v u hv6 hu6
      rw [show ((70 + 5 : Nat) : Int) = 75 from rfl]
      generalize cmpL 32 5 (bitsL 32 v) (bitsL 32 u) = d at *
      exact h
    | 6, _ =>
      have h := comparet6 (w := w) v u hv6 hu6
      rw [show ((70 + 6 : Nat) : Int) = 76 from rfl]
      generalize cmpL 32 6 (bitsL 32 v) (bitsL 32 u) = d at *
      exact h
    | 7, _ =>
      have h := comparet7 (w := w) v u hv6 hu6
      rw [show ((70 + 7 : Nat) : Int) = 77 from rfl]
      generalize cmpL 32 7 (bitsL 32 v) (bitsL 32 u) = d at *
      exact h
    | 8, _ =>
      have h := comparet8 (w := w) v u hv6 hu6
      rw [show ((70 + 8 : Nat) : Int) = 78 from rfl]
      generalize cmpL 32 8 (bitsL 32 v) (bitsL 32 u) = d at *
      exact h
    | 9, _ =>
      have h := comparet9 (w := w) v u hv6 hu6
      rw [show ((70 + 9 : Nat) : Int) = 79 from rfl]
      generalize cmpL 32 9 (bitsL 32 v) (bitsL 32 u) = d at *
      exact h
    | k + 10, h => omega
  by_cases ha : 106 ≤ op ∧ op ≤ 120
  · have e : twoN 32 70 106 op v u = arN 32 (op - 106) v u := by unfold twoN; rw [if_neg hc, if_pos ha]
    rw [e]
    obtain ⟨k, rfl, hk⟩ : ∃ k, op = 106 + k ∧ k < 15 := ⟨op - 106, by omega, by omega⟩
    rw [show 106 + k - 106 = k by omega]
    clear e hc ha
    have hq : u % 32 < 32 := Nat.mod_lt _ (by decide)
    match k, hk with
    | 0, _ =>
      have h := twot0 (w := w) v u hv6 hu6
      rw [show ((106 + 0 : Nat) : Int) = 106 from rfl]
      rw [add_num lv lu, nv, nu] at h
      exact h
    | 1, _ =>
      have h := twot1 (w := w) v u hv6 hu6
      rw [show ((106 + 1 : Nat) : Int) = 107 from rfl]
      rw [sub_num lv lu, nv, nu] at h
      exact h
    | 2, _ =>
      have h := twot2 (w := w) v u hv6 hu6
      rw [show ((106 + 2 : Nat) : Int) = 108 from rfl]
      rw [mul_num lv lu, nv, nu] at h
      exact h
    | 3, _ =>
      have h := twot3 (w := w) v u hv6 hu6
      rw [show ((106 + 3 : Nat) : Int) = 109 from rfl]
      rw [quo_num (by decide) (by decide) hv2 hu2] at h
      exact h
    | 4, _ =>
      have h := twot4 (w := w) v u hv6 hu6
      rw [show ((106 + 4 : Nat) : Int) = 110 from rfl]
      rw [quo_num (by decide) (by decide) hv2 hu2] at h
      exact h
    | 5, _ =>
      have h := twot5 (w := w) v u hv6 hu6
      rw [show ((106 + 5 : Nat) : Int) = 111 from rfl]
      rw [quo_num (by decide) (by decide) hv2 hu2] at h
      exact h
    | 6, _ =>
      have h := twot6 (w := w) v u hv6 hu6
      rw [show ((106 + 6 : Nat) : Int) = 112 from rfl]
      rw [quo_num (by decide) (by decide) hv2 hu2] at h
      exact h
    | 7, _ =>
      have h := twot7 (w := w) v u hv6 hu6
      rw [show ((106 + 7 : Nat) : Int) = 113 from rfl]
      rw [and_num lv lu, nv, nu] at h
      exact h
    | 8, _ =>
      have h := twot8 (w := w) v u hv6 hu6
      rw [show ((106 + 8 : Nat) : Int) = 114 from rfl]
      rw [or_num lv lu, nv, nu] at h
      exact h
    | 9, _ =>
      have h := twot9 (w := w) v u hv6 hu6
      rw [show ((106 + 9 : Nat) : Int) = 115 from rfl]
      rw [xor_num lv lu, nv, nu] at h
      exact h
    | 10, _ =>
      have h := twot10 (w := w) v u hv6 hu6
      rw [show ((106 + 10 : Nat) : Int) = 116 from rfl]
      rw [nu, up_num hv2] at h
      exact h
    | 11, _ =>
      have h := twot11 (w := w) v u hv6 hu6
      rw [show ((106 + 11 : Nat) : Int) = 117 from rfl]
      rw [nu, down_num (by decide) hv2 hq] at h
      have e2 : ((arN 32 11 v u).1 : Int) = sg 32 v / 2 ^ (u % 32) % 2 ^ 32 := by show (((sg 32 v / 2 ^ (u % 32) % 4294967296).toNat : Nat) : Int) = _; rw [show (2 : Int) ^ 32 = 4294967296 by decide]; omega
      rw [e2]
      exact h
    | 12, _ =>
      have h := twot12 (w := w) v u hv6 hu6
      rw [show ((106 + 12 : Nat) : Int) = 118 from rfl]
      rw [nu, downU_num hv2] at h
      exact h
    | 13, _ =>
      have h := twot13 (w := w) v u hv6 hu6
      rw [show ((106 + 13 : Nat) : Int) = 119 from rfl]
      rw [nu, rot_num (by decide) hv2 hq] at h
      exact h
    | 14, _ =>
      have h := twot14 (w := w) v u hv6 hu6
      rw [show ((106 + 14 : Nat) : Int) = 120 from rfl]
      rw [nu, rotr_num (by decide) hv2 hq] at h
      exact h
    | k + 15, h => omega
  · have e : twoN 32 70 106 op v u = (0, 9) := by unfold twoN; rw [if_neg hc, if_neg ha]
    rw [e]
    exact twoNot (op : Int) v u hv6 hu6 (by omega) (by omega) (by omega) (by omega)
theorem ar_awake (w : World) : Calls Try.prog 11 #[] w fun e w' => e = .returned (.bool true) ∧ w = w' := by
  have H1 := Lib.hid (fun W => show Calls Try.prog 12 #[.int .u8 109, .int .u32 4294967289, .int .u32 2] W fun e w' => e = .returned (.tuple #[.int .u32 4294967293, .int .i64 0]) ∧ W = w' from ar_two 109 4294967289 2 (by decide) (by decide))
  have H2 := Lib.hid (fun W => show Calls Try.prog 12 #[.int .u8 111, .int .u32 4294967289, .int .u32 2] W fun e w' => e = .returned (.tuple #[.int .u32 4294967295, .int .i64 0]) ∧ W = w' from ar_two 111 4294967289 2 (by decide) (by decide))
  go_enter Try.func11, Try.ntmps11
  go_wp2_with (first | (go_at_call 12; (with_reducible refine (H1.out _).mono ?_); rintro e w0 ⟨rfl, rfl⟩) | (go_at_call 12; (with_reducible refine (H2.out _).mono ?_); rintro e w0 ⟨rfl, rfl⟩))
  go_ret
  exact ⟨rfl, rfl⟩
theorem ar_law (op v u : Nat) (w : World) (ho : op < 256) (hv : v < 4294967296) (hu : u < 4294967296) : Calls Try.prog 5 #[.int .u8 op, .int .u32 v, .int .u32 u] w fun e w' => e = .returned (.bool true) ∧ Below w.heap.size w w' := by
  have HA := Lib.hid (fun W => ar_two (w := W) op v u hv hu ho)
  have HR := Lib.hid (fun W => ar_ref (w := W) op v u ho hv hu)
  have hx : (twoN 32 70 106 op v u).1 < 4294967296 := twoN_lt 32 70 106 op v u hv hu
  generalize hp : twoN 32 70 106 op v u = p at *
  obtain ⟨x, y⟩ := p
  clear hp
  have hx2 : x < 4294967296 := hx
  go_enter Try.func5, Try.ntmps5
  go_wp2_with (first | (go_at_call 11; (with_reducible refine (ar_awake _).mono ?_); rintro e w0 ⟨rfl, rfl⟩) | (go_at_call 12; (with_reducible refine (HA.out _).mono ?_); rintro e w1 ⟨rfl, rfl⟩) | (go_at_call 13; (with_reducible refine (HR.out _).mono ?_); rintro e w2 ⟨rfl, hb⟩; have HB := Lib.hid hb; clear hb))
  go_ret
  exact ⟨rfl, HB.out⟩
end Go.Proofs.Ytjgdfajooccalaa

/- Laws of the operators on numbers: sub undoes add, turns undo each other, the quotient times b plus the remainder is a, of two numbers one is ahead or both are alike. No walk here. -/
namespace Go.Proofs.Ytjgdfajooccalaa
open Go.RowKit
set_option linter.unusedVariables false
section
variable {n v u : Nat}
theorem add_sub_num (hv : v < 2 ^ n) (hu : u < 2 ^ n) : ((v + u) % 2 ^ n + (2 ^ n - u)) % 2 ^ n = v := by
  rw [Nat.mod_add_mod, show v + u + (2 ^ n - u) = v + 2 ^ n by omega, Nat.add_mod_right, Nat.mod_eq_of_lt hv]
theorem xor_xor_num (hv : v < 2 ^ n) (hu : u < 2 ^ n) : ((v ^^^ u) % 2 ^ n ^^^ u) % 2 ^ n = v := by
  rw [Nat.mod_eq_of_lt (Nat.xor_lt_two_pow hv hu), Nat.xor_assoc, Nat.xor_self, Nat.xor_zero, Nat.mod_eq_of_lt hv]
theorem rot_rotL {l : List Bool} (hn : 0 < n) (hl : l.length = n) {k : Nat} (hk : k < n) : rotL n (rotL n l k) (-(k : Int)) = l := by
  apply List.ext_getElem?
  intro i
  by_cases hi : i < n
  · have h1 := rotL_get (n := n) (i := i) (a := rotL n l k) (k := -(k : Int)) hi
    have hj : (((i : Int) - -(k : Int)) % n).toNat < n := by
      have a1 := Int.emod_nonneg ((i : Int) - -(k : Int)) (b := (n : Int)) (by omega)
      have a2 := Int.emod_lt_of_pos ((i : Int) - -(k : Int)) (b := (n : Int)) (by omega)
      omega
    rw [rotL_get hj] at h1
    have e : ((((((i : Int) - -(k : Int)) % n).toNat : Nat) : Int) - (k : Int)) % n = i := by
      have a1 := Int.emod_nonneg ((i : Int) - -(k : Int)) (b := (n : Int)) (by omega)
      rw [Int.toNat_of_nonneg a1, Int.emod_sub_emod, show (i : Int) - -(k : Int) - k = i by omega]
      exact Int.emod_eq_of_lt (by omega) (by omega)
    rw [e, Int.toNat_natCast] at h1
    rw [List.getD_eq_getElem?_getD, List.getD_eq_getElem?_getD, List.getElem?_eq_getElem (by rw [rotL_len]; exact hi), List.getElem?_eq_getElem (by omega)] at h1
    rw [List.getElem?_eq_getElem (by rw [rotL_len]; exact hi), List.getElem?_eq_getElem (by omega)]
    exact congrArg some h1
  · rw [List.getElem?_eq_none (by rw [rotL_len]; omega), List.getElem?_eq_none (by omega)]
theorem rot_rot_num (hn : 0 < n) (hv : v < 2 ^ n) {k : Nat} (hk : k < n) : rotN n (rotN n v k) ((n - k) % n) = v := by
  have h1 := rot_num hn hv hk
  have h2 := rotr_num hn (rotN_lt hn hv hk) hk
  rw [← h2, ← h1]
  have h3 := bits_num (rotL n (bitsL n v) k)
  rw [rotL_len] at h3
  rw [h3, rot_rotL hn (bitsL_len n v) hk, num_of hv]
theorem quo_rem_num (hv : v < 2 ^ n) (hu : u < 2 ^ n) : (((((sg n v).tdiv (sg n u) % 2 ^ n).toNat * u) % 2 ^ n) + ((sg n v).tmod (sg n u) % 2 ^ n).toNat) % 2 ^ n = v := by
  have e : ((2 ^ n : Nat) : Int) = (2 : Int) ^ n := by norm_cast
  have hv2 := sg_mod hv
  have hu2 := sg_mod hu
  have hp : (0 : Int) < ((2 ^ n : Nat) : Int) := by have := Nat.two_pow_pos n; omega
  rw [← e] at hv2 hu2 ⊢
  generalize 2 ^ n = m at *
  generalize sg n v = x at *
  generalize sg n u = y at *
  have n1 := Int.emod_nonneg (x.tdiv y) (b := (m : Int)) (by omega)
  have n2 := Int.emod_nonneg (x.tmod y) (b := (m : Int)) (by omega)
  apply Int.ofNat.inj
  show (((((x.tdiv y % (m : Int)).toNat * u) % m + (x.tmod y % (m : Int)).toNat) % m : Nat) : Int) = (v : Int)
  rw [Int.natCast_emod, Int.natCast_add, Int.natCast_emod, Int.natCast_mul, Int.toNat_of_nonneg n1, Int.toNat_of_nonneg n2]
  rw [← hu2, ← Int.mul_emod, Int.emod_add_emod, Int.add_emod_emod, Int.tdiv_mul_add_tmod, hv2]
theorem cmp_one : ((cmpN n 2 v u).toNat + (cmpN n 4 v u).toNat + (cmpN n 0 v u).toNat = 1) ∨ ¬ (v < 2 ^ n ∧ u < 2 ^ n) := by
  by_cases h : v < 2 ^ n ∧ u < 2 ^ n
  · left
    have i1 : v = u ↔ sg n v = sg n u := by
      refine ⟨fun h => by rw [h], fun he => ?_⟩
      have a1 := sg_mod h.1
      have a2 := sg_mod h.2
      rw [he, a2] at a1
      omega
    show (decide (sg n v < sg n u)).toNat + (decide (sg n u < sg n v)).toNat + (decide (v = u)).toNat = 1
    have key : ∀ x y : Int, (decide (x < y)).toNat + (decide (y < x)).toNat + (decide (x = y)).toNat = 1 := by
      intro x y
      rcases Int.lt_trichotomy x y with h | h | h
      · rw [decide_eq_true h, decide_eq_false (by omega : ¬ y < x), decide_eq_false (by omega : ¬ x = y)]; rfl
      · rw [decide_eq_false (by omega : ¬ x < y), decide_eq_false (by omega : ¬ y < x), decide_eq_true h]; rfl
      · rw [decide_eq_false (by omega : ¬ x < y), decide_eq_true h, decide_eq_false (by omega : ¬ x = y)]; rfl
    have e2 : decide (v = u) = decide (sg n v = sg n u) := decide_eq_decide.2 i1
    rw [e2]
    exact key _ _
  · exact .inr h
theorem cmp_two : (cmpN n 3 v u).toNat + (cmpN n 9 v u).toNat = 1 := by
  show (decide (v < u)).toNat + (decide (u ≤ v)).toNat = 1
  by_cases h : v < u
  · rw [decide_eq_true h, decide_eq_false (by omega : ¬ u ≤ v)]; rfl
  · rw [decide_eq_false h, decide_eq_true (by omega : u ≤ v)]; rfl
end
end Go.Proofs.Ytjgdfajooccalaa

/- The law of sums, quotients, turns, comparisons of 32 bits. (By gen/genArE.py.) -/
namespace Go.Proofs.Ytjgdfajooccalaa
open Go.RowKit
set_option linter.unusedVariables false
set_option maxRecDepth 100000
theorem ar_fn {w : World} (op v u : Nat) (hv : v < 4294967296) (hu : u < 4294967296) (ho : op < 256 := by decide) : Calls Try.prog 14 #[.int .u8 op, .int .u32 v, .int .u32 u] w fun e w' => e = .returned (.int .u32 (twoN 32 70 106 op v u).1) ∧ w = w' := by
  have HA := Lib.hid (ar_two (w := w) op v u hv hu ho)
  generalize twoN 32 70 106 op v u = p at *
  go_enter Try.func14, Try.ntmps14
  go_wp2_with (go_at_call 12; (with_reducible refine HA.out.mono ?_); rintro e w1 ⟨rfl, rfl⟩)
  go_ret
  exact ⟨rfl, rfl⟩
set_option maxHeartbeats 4000000 in
theorem ar_lawsZ {w : World} (v u x1 x2 x3 p q r f g : Nat) (hv : v < 4294967296) (hu : u < 4294967296) (e1 : p + q + r = 1) (e2 : f + g = 1)
    (F1 : ∀ W, Calls Try.prog 14 #[.int .u8 106, .int .u32 v, .int .u32 u] W fun e w' => e = .returned (.int .u32 x1) ∧ W = w')
    (F2 : ∀ W, Calls Try.prog 14 #[.int .u8 107, .int .u32 x1, .int .u32 u] W fun e w' => e = .returned (.int .u32 v) ∧ W = w')
    (F3 : ∀ W, Calls Try.prog 14 #[.int .u8 119, .int .u32 v, .int .u32 u] W fun e w' => e = .returned (.int .u32 x2) ∧ W = w')
    (F4 : ∀ W, Calls Try.prog 14 #[.int .u8 120, .int .u32 x2, .int .u32 u] W fun e w' => e = .returned (.int .u32 v) ∧ W = w')
    (F5 : ∀ W, Calls Try.prog 14 #[.int .u8 115, .int .u32 v, .int .u32 u] W fun e w' => e = .returned (.int .u32 x3) ∧ W = w')
    (F6 : ∀ W, Calls Try.prog 14 #[.int .u8 115, .int .u32 x3, .int .u32 u] W fun e w' => e = .returned (.int .u32 v) ∧ W = w')
    (F7 : ∀ W, Calls Try.prog 14 #[.int .u8 72, .int .u32 v, .int .u32 u] W fun e w' => e = .returned (.int .u32 p) ∧ W = w')
    (F8 : ∀ W, Calls Try.prog 14 #[.int .u8 74, .int .u32 v, .int .u32 u] W fun e w' => e = .returned (.int .u32 q) ∧ W = w')
    (F9 : ∀ W, Calls Try.prog 14 #[.int .u8 70, .int .u32 v, .int .u32 u] W fun e w' => e = .returned (.int .u32 r) ∧ W = w')
    (G1 : ∀ W, Calls Try.prog 14 #[.int .u8 73, .int .u32 v, .int .u32 u] W fun e w' => e = .returned (.int .u32 f) ∧ W = w')
    (G2 : ∀ W, Calls Try.prog 14 #[.int .u8 79, .int .u32 v, .int .u32 u] W fun e w' => e = .returned (.int .u32 g) ∧ W = w')
    (hz : u = 0) (Q : ∀ W, Calls Try.prog 12 #[.int .u8 109, .int .u32 v, .int .u32 u] W fun e w' => e = .returned (.tuple #[.int .u32 0, .int .i64 61]) ∧ W = w') (R : ∀ W, Calls Try.prog 12 #[.int .u8 111, .int .u32 v, .int .u32 u] W fun e w' => e = .returned (.tuple #[.int .u32 0, .int .i64 61]) ∧ W = w') : Calls Try.prog 6 #[.int .u32 v, .int .u32 u] w fun e w' => e = .returned (.bool true) ∧ w = w' := by
  have HF1 := Lib.hid F1
  clear F1
  have HF2 := Lib.hid F2
  clear F2
  have HF3 := Lib.hid F3
  clear F3
  have HF4 := Lib.hid F4
  clear F4
  have HF5 := Lib.hid F5
  clear F5
  have HF6 := Lib.hid F6
  clear F6
  have HF7 := Lib.hid F7
  clear F7
  have HF8 := Lib.hid F8
  clear F8
  have HF9 := Lib.hid F9
  clear F9
  have HG1 := Lib.hid G1
  clear G1
  have HG2 := Lib.hid G2
  clear G2
  have s1 : ∃ s : Nat, ((p : Int) + (q : Int)) % 4294967296 = (s : Int) ∧ ((s : Int) + (r : Int)) % 4294967296 = 1 := ⟨p + q, by omega, by omega⟩
  obtain ⟨s, s1, s2⟩ := s1
  have s3 : ((f : Int) + (g : Int)) % 4294967296 = 1 := by omega
  clear e1 e2
  have HQ := Lib.hid Q
  clear Q
  have HR := Lib.hid R
  clear R
  have d0 : ((u : Int) == 0) = true := by simp; omega
  clear hz
  go_enter Try.func6, Try.ntmps6
  go_wp2_with (first | (go_at_call 11; (with_reducible refine (ar_awake _).mono ?_); rintro e w0 ⟨rfl, rfl⟩) | (go_at_call 14; first | ((with_reducible refine (HF1.out _).mono ?_); rintro e w1 ⟨rfl, rfl⟩) | ((with_reducible refine (HF2.out _).mono ?_); rintro e w1 ⟨rfl, rfl⟩) | ((with_reducible refine (HF3.out _).mono ?_); rintro e w1 ⟨rfl, rfl⟩) | ((with_reducible refine (HF4.out _).mono ?_); rintro e w1 ⟨rfl, rfl⟩) | ((with_reducible refine (HF5.out _).mono ?_); rintro e w1 ⟨rfl, rfl⟩) | ((with_reducible refine (HF6.out _).mono ?_); rintro e w1 ⟨rfl, rfl⟩) | ((with_reducible refine (HF7.out _).mono ?_); rintro e w1 ⟨rfl, rfl⟩) | ((with_reducible refine (HF8.out _).mono ?_); rintro e w1 ⟨rfl, rfl⟩) | ((with_reducible refine (HF9.out _).mono ?_); rintro e w1 ⟨rfl, rfl⟩) | ((with_reducible refine (HG1.out _).mono ?_); rintro e w1 ⟨rfl, rfl⟩) | ((with_reducible refine (HG2.out _).mono ?_); rintro e w1 ⟨rfl, rfl⟩)) | (go_at_call 12; first | ((with_reducible refine (HQ.out _).mono ?_); rintro e w1 ⟨rfl, rfl⟩) | ((with_reducible refine (HR.out _).mono ?_); rintro e w1 ⟨rfl, rfl⟩)))
  go_ret
  exact ⟨rfl, rfl⟩
set_option maxHeartbeats 4000000 in
theorem ar_lawsO {w : World} (v u x1 x2 x3 p q r f g : Nat) (hv : v < 4294967296) (hu : u < 4294967296) (e1 : p + q + r = 1) (e2 : f + g = 1)
    (F1 : ∀ W, Calls Try.prog 14 #[.int .u8 106, .int .u32 v, .int .u32 u] W fun e w' => e = .returned (.int .u32 x1) ∧ W = w')
    (F2 : ∀ W, Calls Try.prog 14 #[.int .u8 107, .int .u32 x1, .int .u32 u] W fun e w' => e = .returned (.int .u32 v) ∧ W = w')
    (F3 : ∀ W, Calls Try.prog 14 #[.int .u8 119, .int .u32 v, .int .u32 u] W fun e w' => e = .returned (.int .u32 x2) ∧ W = w')
    (F4 : ∀ W, Calls Try.prog 14 #[.int .u8 120, .int .u32 x2, .int .u32 u] W fun e w' => e = .returned (.int .u32 v) ∧ W = w')
    (F5 : ∀ W, Calls Try.prog 14 #[.int .u8 115, .int .u32 v, .int .u32 u] W fun e w' => e = .returned (.int .u32 x3) ∧ W = w')
    (F6 : ∀ W, Calls Try.prog 14 #[.int .u8 115, .int .u32 x3, .int .u32 u] W fun e w' => e = .returned (.int .u32 v) ∧ W = w')
    (F7 : ∀ W, Calls Try.prog 14 #[.int .u8 72, .int .u32 v, .int .u32 u] W fun e w' => e = .returned (.int .u32 p) ∧ W = w')
    (F8 : ∀ W, Calls Try.prog 14 #[.int .u8 74, .int .u32 v, .int .u32 u] W fun e w' => e = .returned (.int .u32 q) ∧ W = w')
    (F9 : ∀ W, Calls Try.prog 14 #[.int .u8 70, .int .u32 v, .int .u32 u] W fun e w' => e = .returned (.int .u32 r) ∧ W = w')
    (G1 : ∀ W, Calls Try.prog 14 #[.int .u8 73, .int .u32 v, .int .u32 u] W fun e w' => e = .returned (.int .u32 f) ∧ W = w')
    (G2 : ∀ W, Calls Try.prog 14 #[.int .u8 79, .int .u32 v, .int .u32 u] W fun e w' => e = .returned (.int .u32 g) ∧ W = w')
    (hu0 : u = 4294967295) (hv0 : v = 2147483648) (Q : ∀ W, Calls Try.prog 12 #[.int .u8 109, .int .u32 v, .int .u32 u] W fun e w' => e = .returned (.tuple #[.int .u32 0, .int .i64 62]) ∧ W = w') (R : ∀ W, Calls Try.prog 12 #[.int .u8 111, .int .u32 v, .int .u32 u] W fun e w' => e = .returned (.tuple #[.int .u32 0, .int .i64 0]) ∧ W = w') : Calls Try.prog 6 #[.int .u32 v, .int .u32 u] w fun e w' => e = .returned (.bool true) ∧ w = w' := by
  have HF1 := Lib.hid F1
  clear F1
  have HF2 := Lib.hid F2
  clear F2
  have HF3 := Lib.hid F3
  clear F3
  have HF4 := Lib.hid F4
  clear F4
  have HF5 := Lib.hid F5
  clear F5
  have HF6 := Lib.hid F6
  clear F6
  have HF7 := Lib.hid F7
  clear F7
  have HF8 := Lib.hid F8
  clear F8
  have HF9 := Lib.hid F9
  clear F9
  have HG1 := Lib.hid G1
  clear G1
  have HG2 := Lib.hid G2
  clear G2
  have s1 : ∃ s : Nat, ((p : Int) + (q : Int)) % 4294967296 = (s : Int) ∧ ((s : Int) + (r : Int)) % 4294967296 = 1 := ⟨p + q, by omega, by omega⟩
  obtain ⟨s, s1, s2⟩ := s1
  have s3 : ((f : Int) + (g : Int)) % 4294967296 = 1 := by omega
  clear e1 e2
  have HQ := Lib.hid Q
  clear Q
  have HR := Lib.hid R
  clear R
  have d0 : ((u : Int) == 0) = false := by simp; omega
  have d1 : ((v : Int) == 2147483648) = true := by simp; omega
  have d2 : ((u : Int) + 1) % 4294967296 = 0 := by omega
  clear hu0 hv0
  go_enter Try.func6, Try.ntmps6
  go_wp2_with (first | (go_at_call 11; (with_reducible refine (ar_awake _).mono ?_); rintro e w0 ⟨rfl, rfl⟩) | (go_at_call 14; first | ((with_reducible refine (HF1.out _).mono ?_); rintro e w1 ⟨rfl, rfl⟩) | ((with_reducible refine (HF2.out _).mono ?_); rintro e w1 ⟨rfl, rfl⟩) | ((with_reducible refine (HF3.out _).mono ?_); rintro e w1 ⟨rfl, rfl⟩) | ((with_reducible refine (HF4.out _).mono ?_); rintro e w1 ⟨rfl, rfl⟩) | ((with_reducible refine (HF5.out _).mono ?_); rintro e w1 ⟨rfl, rfl⟩) | ((with_reducible refine (HF6.out _).mono ?_); rintro e w1 ⟨rfl, rfl⟩) | ((with_reducible refine (HF7.out _).mono ?_); rintro e w1 ⟨rfl, rfl⟩) | ((with_reducible refine (HF8.out _).mono ?_); rintro e w1 ⟨rfl, rfl⟩) | ((with_reducible refine (HF9.out _).mono ?_); rintro e w1 ⟨rfl, rfl⟩) | ((with_reducible refine (HG1.out _).mono ?_); rintro e w1 ⟨rfl, rfl⟩) | ((with_reducible refine (HG2.out _).mono ?_); rintro e w1 ⟨rfl, rfl⟩)) | (go_at_call 12; first | ((with_reducible refine (HQ.out _).mono ?_); rintro e w1 ⟨rfl, rfl⟩) | ((with_reducible refine (HR.out _).mono ?_); rintro e w1 ⟨rfl, rfl⟩)))
  go_ret
  exact ⟨rfl, rfl⟩
set_option maxHeartbeats 4000000 in
theorem ar_lawsN {w : World} (v u x1 x2 x3 p q r f g : Nat) (hv : v < 4294967296) (hu : u < 4294967296) (e1 : p + q + r = 1) (e2 : f + g = 1)
    (F1 : ∀ W, Calls Try.prog 14 #[.int .u8 106, .int .u32 v, .int .u32 u] W fun e w' => e = .returned (.int .u32 x1) ∧ W = w')
    (F2 : ∀ W, Calls Try.prog 14 #[.int .u8 107, .int .u32 x1, .int .u32 u] W fun e w' => e = .returned (.int .u32 v) ∧ W = w')
    (F3 : ∀ W, Calls Try.prog 14 #[.int .u8 119, .int .u32 v, .int .u32 u] W fun e w' => e = .returned (.int .u32 x2) ∧ W = w')
    (F4 : ∀ W, Calls Try.prog 14 #[.int .u8 120, .int .u32 x2, .int .u32 u] W fun e w' => e = .returned (.int .u32 v) ∧ W = w')
    (F5 : ∀ W, Calls Try.prog 14 #[.int .u8 115, .int .u32 v, .int .u32 u] W fun e w' => e = .returned (.int .u32 x3) ∧ W = w')
    (F6 : ∀ W, Calls Try.prog 14 #[.int .u8 115, .int .u32 x3, .int .u32 u] W fun e w' => e = .returned (.int .u32 v) ∧ W = w')
    (F7 : ∀ W, Calls Try.prog 14 #[.int .u8 72, .int .u32 v, .int .u32 u] W fun e w' => e = .returned (.int .u32 p) ∧ W = w')
    (F8 : ∀ W, Calls Try.prog 14 #[.int .u8 74, .int .u32 v, .int .u32 u] W fun e w' => e = .returned (.int .u32 q) ∧ W = w')
    (F9 : ∀ W, Calls Try.prog 14 #[.int .u8 70, .int .u32 v, .int .u32 u] W fun e w' => e = .returned (.int .u32 r) ∧ W = w')
    (G1 : ∀ W, Calls Try.prog 14 #[.int .u8 73, .int .u32 v, .int .u32 u] W fun e w' => e = .returned (.int .u32 f) ∧ W = w')
    (G2 : ∀ W, Calls Try.prog 14 #[.int .u8 79, .int .u32 v, .int .u32 u] W fun e w' => e = .returned (.int .u32 g) ∧ W = w')
    (hu0 : u ≠ 0) (a b m : Nat) (Q : ∀ W, Calls Try.prog 12 #[.int .u8 109, .int .u32 v, .int .u32 u] W fun e w' => e = .returned (.tuple #[.int .u32 a, .int .i64 0]) ∧ W = w') (R : ∀ W, Calls Try.prog 12 #[.int .u8 111, .int .u32 v, .int .u32 u] W fun e w' => e = .returned (.tuple #[.int .u32 b, .int .i64 0]) ∧ W = w') (Y1 : ∀ W, Calls Try.prog 14 #[.int .u8 108, .int .u32 a, .int .u32 u] W fun e w' => e = .returned (.int .u32 m) ∧ W = w') (Y2 : ∀ W, Calls Try.prog 14 #[.int .u8 106, .int .u32 m, .int .u32 b] W fun e w' => e = .returned (.int .u32 v) ∧ W = w') : Calls Try.prog 6 #[.int .u32 v, .int .u32 u] w fun e w' => e = .returned (.bool true) ∧ w = w' := by
  have HF1 := Lib.hid F1
  clear F1
  have HF2 := Lib.hid F2
  clear F2
  have HF3 := Lib.hid F3
  clear F3
  have HF4 := Lib.hid F4
  clear F4
  have HF5 := Lib.hid F5
  clear F5
  have HF6 := Lib.hid F6
  clear F6
  have HF7 := Lib.hid F7
  clear F7
  have HF8 := Lib.hid F8
  clear F8
  have HF9 := Lib.hid F9
  clear F9
  have HG1 := Lib.hid G1
  clear G1
  have HG2 := Lib.hid G2
  clear G2
  have s1 : ∃ s : Nat, ((p : Int) + (q : Int)) % 4294967296 = (s : Int) ∧ ((s : Int) + (r : Int)) % 4294967296 = 1 := ⟨p + q, by omega, by omega⟩
  obtain ⟨s, s1, s2⟩ := s1
  have s3 : ((f : Int) + (g : Int)) % 4294967296 = 1 := by omega
  clear e1 e2
  have HQ := Lib.hid Q
  clear Q
  have HR := Lib.hid R
  clear R
  have HY1 := Lib.hid Y1
  clear Y1
  have HY2 := Lib.hid Y2
  clear Y2
  have d0 : ((u : Int) == 0) = false := by simp; omega
  go_enter Try.func6, Try.ntmps6
  go_wp2_with (first | (go_at_call 11; (with_reducible refine (ar_awake _).mono ?_); rintro e w0 ⟨rfl, rfl⟩) | (go_at_call 14; first | ((with_reducible refine (HF1.out _).mono ?_); rintro e w1 ⟨rfl, rfl⟩) | ((with_reducible refine (HF2.out _).mono ?_); rintro e w1 ⟨rfl, rfl⟩) | ((with_reducible refine (HF3.out _).mono ?_); rintro e w1 ⟨rfl, rfl⟩) | ((with_reducible refine (HF4.out _).mono ?_); rintro e w1 ⟨rfl, rfl⟩) | ((with_reducible refine (HF5.out _).mono ?_); rintro e w1 ⟨rfl, rfl⟩) | ((with_reducible refine (HF6.out _).mono ?_); rintro e w1 ⟨rfl, rfl⟩) | ((with_reducible refine (HF7.out _).mono ?_); rintro e w1 ⟨rfl, rfl⟩) | ((with_reducible refine (HF8.out _).mono ?_); rintro e w1 ⟨rfl, rfl⟩) | ((with_reducible refine (HF9.out _).mono ?_); rintro e w1 ⟨rfl, rfl⟩) | ((with_reducible refine (HG1.out _).mono ?_); rintro e w1 ⟨rfl, rfl⟩) | ((with_reducible refine (HG2.out _).mono ?_); rintro e w1 ⟨rfl, rfl⟩) | ((with_reducible refine (HY1.out _).mono ?_); rintro e w1 ⟨rfl, rfl⟩) | ((with_reducible refine (HY2.out _).mono ?_); rintro e w1 ⟨rfl, rfl⟩)) | (go_at_call 12; first | ((with_reducible refine (HQ.out _).mono ?_); rintro e w1 ⟨rfl, rfl⟩) | ((with_reducible refine (HR.out _).mono ?_); rintro e w1 ⟨rfl, rfl⟩)))
  go_ret
  exact ⟨rfl, rfl⟩
theorem ar_laws {w : World} (v u : Nat) (hv : v < 4294967296) (hu : u < 4294967296) : Calls Try.prog 6 #[.int .u32 v, .int .u32 u] w fun e w' => e = .returned (.bool true) ∧ w = w' := by
  have hv2 : v < 2 ^ 32 := hv
  have hu2 : u < 2 ^ 32 := hu
  have hq : u % 32 < 32 := Nat.mod_lt _ (by decide)
  have l1 : (twoN 32 70 106 106 v u).1 < 4294967296 := twoN_lt 32 70 106 _ v u hv hu
  have l3 : (twoN 32 70 106 119 v u).1 < 4294967296 := twoN_lt 32 70 106 _ v u hv hu
  have l5 : (twoN 32 70 106 115 v u).1 < 4294967296 := twoN_lt 32 70 106 _ v u hv hu
  have r2 : (twoN 32 70 106 107 (twoN 32 70 106 106 v u).1 u).1 = v := add_sub_num hv2 hu2
  have r4 : (twoN 32 70 106 120 (twoN 32 70 106 119 v u).1 u).1 = v := rot_rot_num (by decide) hv2 hq
  have r6 : (twoN 32 70 106 115 (twoN 32 70 106 115 v u).1 u).1 = v := xor_xor_num hv2 hu2
  have Q : ∀ W, Calls Try.prog 12 #[.int .u8 109, .int .u32 v, .int .u32 u] W fun e w' => e = .returned (.tuple #[.int .u32 (quoN 32 0 v u).1, .int .i64 (quoN 32 0 v u).2]) ∧ W = w' := fun W => ar_two 109 v u hv hu
  have R : ∀ W, Calls Try.prog 12 #[.int .u8 111, .int .u32 v, .int .u32 u] W fun e w' => e = .returned (.tuple #[.int .u32 (quoN 32 2 v u).1, .int .i64 (quoN 32 2 v u).2]) ∧ W = w' := fun W => ar_two 111 v u hv hu
  by_cases h0 : u = 0
  · have q1 : quoN 32 0 v u = (0, 61) := by unfold quoN; rw [if_pos h0]
    have q2 : quoN 32 2 v u = (0, 61) := by unfold quoN; rw [if_pos h0]
    rw [q1] at Q
    rw [q2] at R
    exact ar_lawsZ v u _ _ _ _ _ _ _ _ hv hu ((cmp_one (n := 32) (v := v) (u := u)).resolve_right (fun h => h ⟨hv2, hu2⟩)) (cmp_two (n := 32) (v := v) (u := u))
      (fun W => ar_fn 106 v u hv hu)
      (fun W => by have h := ar_fn (w := W) 107 _ u l1 hu; rw [r2] at h; exact h)
      (fun W => ar_fn 119 v u hv hu)
      (fun W => by have h := ar_fn (w := W) 120 _ u l3 hu; rw [r4] at h; exact h)
      (fun W => ar_fn 115 v u hv hu)
      (fun W => by have h := ar_fn (w := W) 115 _ u l5 hu; rw [r6] at h; exact h)
      (fun W => ar_fn 72 v u hv hu)
      (fun W => ar_fn 74 v u hv hu)
      (fun W => ar_fn 70 v u hv hu)
      (fun W => ar_fn 73 v u hv hu)
      (fun W => ar_fn 79 v u hv hu)
      h0 Q R
  have q2 : quoN 32 2 v u = (((sg 32 v).tmod (sg 32 u) % 2 ^ 32).toNat, 0) := by unfold quoN; rw [if_neg h0]; rfl
  by_cases hc : v = 2 ^ (32 - 1) ∧ u = 2 ^ 32 - 1
  · have q1 : quoN 32 0 v u = (0, 62) := by unfold quoN; rw [if_neg h0, if_pos rfl, if_pos hc]
    have q3 : quoN 32 2 v u = (0, 0) := by rw [q2, hc.1, hc.2]; decide
    rw [q1] at Q
    rw [q3] at R
    exact ar_lawsO v u _ _ _ _ _ _ _ _ hv hu ((cmp_one (n := 32) (v := v) (u := u)).resolve_right (fun h => h ⟨hv2, hu2⟩)) (cmp_two (n := 32) (v := v) (u := u))
      (fun W => ar_fn 106 v u hv hu)
      (fun W => by have h := ar_fn (w := W) 107 _ u l1 hu; rw [r2] at h; exact h)
      (fun W => ar_fn 119 v u hv hu)
      (fun W => by have h := ar_fn (w := W) 120 _ u l3 hu; rw [r4] at h; exact h)
      (fun W => ar_fn 115 v u hv hu)
      (fun W => by have h := ar_fn (w := W) 115 _ u l5 hu; rw [r6] at h; exact h)
      (fun W => ar_fn 72 v u hv hu)
      (fun W => ar_fn 74 v u hv hu)
      (fun W => ar_fn 70 v u hv hu)
      (fun W => ar_fn 73 v u hv hu)
      (fun W => ar_fn 79 v u hv hu)
      hc.2 hc.1 Q R
  have q1 : quoN 32 0 v u = (((sg 32 v).tdiv (sg 32 u) % 2 ^ 32).toNat, 0) := by unfold quoN; rw [if_neg h0, if_pos rfl, if_neg hc]
  have a1 : ((sg 32 v).tdiv (sg 32 u) % 2 ^ 32).toNat < 4294967296 := mod_toNat_lt _ 32
  have a2 : ((sg 32 v).tmod (sg 32 u) % 2 ^ 32).toNat < 4294967296 := mod_toNat_lt _ 32
  have l7 : (twoN 32 70 106 108 ((sg 32 v).tdiv (sg 32 u) % 2 ^ 32).toNat u).1 < 4294967296 := twoN_lt 32 70 106 _ _ u a1 hu
  have r8 : (twoN 32 70 106 106 (twoN 32 70 106 108 ((sg 32 v).tdiv (sg 32 u) % 2 ^ 32).toNat u).1 ((sg 32 v).tmod (sg 32 u) % 2 ^ 32).toNat).1 = v := quo_rem_num hv2 hu2
  rw [q1] at Q
  rw [q2] at R
  exact ar_lawsN v u _ _ _ _ _ _ _ _ hv hu ((cmp_one (n := 32) (v := v) (u := u)).resolve_right (fun h => h ⟨hv2, hu2⟩)) (cmp_two (n := 32) (v := v) (u := u))
    (fun W => ar_fn 106 v u hv hu)
    (fun W => by have h := ar_fn (w := W) 107 _ u l1 hu; rw [r2] at h; exact h)
    (fun W => ar_fn 119 v u hv hu)
    (fun W => by have h := ar_fn (w := W) 120 _ u l3 hu; rw [r4] at h; exact h)
    (fun W => ar_fn 115 v u hv hu)
    (fun W => by have h := ar_fn (w := W) 115 _ u l5 hu; rw [r6] at h; exact h)
    (fun W => ar_fn 72 v u hv hu)
    (fun W => ar_fn 74 v u hv hu)
    (fun W => ar_fn 70 v u hv hu)
    (fun W => ar_fn 73 v u hv hu)
    (fun W => ar_fn 79 v u hv hu)
    h0 _ _ _ Q R
    (fun W => ar_fn 108 _ u a1 hu)
    (fun W => by have h := ar_fn (w := W) 106 _ _ l7 a2; rw [r8] at h; exact h)
end Go.Proofs.Ytjgdfajooccalaa
