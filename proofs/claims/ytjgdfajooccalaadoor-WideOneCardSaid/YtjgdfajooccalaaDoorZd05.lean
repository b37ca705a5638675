/- Package arith at 64 bits: Two, and wide.Two, as plain functions of numbers. (By gen/genAr.py.) -/
import Derived.Test.YtjgdfajooccalaaDoorZd04
import Derived.Test.YtjgdfajooccalaaDoorZd02
import Derived.Deep.QuietTactic
import Derived.Deep.CutBlock
import Derived.Deep.DeepCutAuto
import Derived.WalkLawsBesides
import Derived.BigQuiet
import Derived.LoopTactic
import Derived.Deep.DeepMust
namespace Go.Proofs.YtjgdfajooccalaaDoor
open Go.RowKit
set_option linter.unusedVariables false
set_option maxRecDepth 100000
theorem awtwo0 {w : World} (v u : Nat) (hv : v < 18446744073709551616) (hu : u < 18446744073709551616) : Calls Tryd.prog 20 #[.int .u8 15, .int .u64 v, .int .u64 u] w fun e w' => e = .returned (.tuple #[.int .u64 (((v + u) % 2 ^ 64 : Nat)), .int .i64 (0)]) ∧ w = w' := by
  obtain ⟨r, hr2⟩ : ∃ r : Nat, r = (v + u) % 2 ^ 64 := ⟨_, rfl⟩
  rw [← hr2]
  have q : IntKind.u64.wrap ((v : Int) + (u : Int)) = (r : Int) := by rw [IntKind.wrap_u64, hr2, show 2 ^ 64 = 18446744073709551616 by decide]; omega
  clear hr2
  go_enter Tryd.func20, Tryd.ntmps20
  go_wp2
  go_ret2
  first | exact ⟨rfl, rfl⟩ | exact ⟨congrArg (fun z => Ending.returned (Value.tuple #[Value.int .u64 z, Value.int .i64 0])) q, rfl⟩
theorem awtwo1 {w : World} (v u : Nat) (hv : v < 18446744073709551616) (hu : u < 18446744073709551616) : Calls Tryd.prog 20 #[.int .u8 16, .int .u64 v, .int .u64 u] w fun e w' => e = .returned (.tuple #[.int .u64 (((v + (2 ^ 64 - u)) % 2 ^ 64 : Nat)), .int .i64 (0)]) ∧ w = w' := by
  obtain ⟨r, hr2⟩ : ∃ r : Nat, r = (v + (2 ^ 64 - u)) % 2 ^ 64 := ⟨_, rfl⟩
  rw [← hr2]
  have q : IntKind.u64.wrap ((v : Int) - (u : Int)) = (r : Int) := by rw [IntKind.wrap_u64, hr2, show 2 ^ 64 = 18446744073709551616 by decide]; omega
  clear hr2
  go_enter Tryd.func20, Tryd.ntmps20
  go_wp2
  go_ret2
  first | exact ⟨rfl, rfl⟩ | exact ⟨congrArg (fun z => Ending.returned (Value.tuple #[Value.int .u64 z, Value.int .i64 0])) q, rfl⟩
theorem awtwo2 {w : World} (v u : Nat) (hv : v < 18446744073709551616) (hu : u < 18446744073709551616) : Calls Tryd.prog 20 #[.int .u8 17, .int .u64 v, .int .u64 u] w fun e w' => e = .returned (.tuple #[.int .u64 ((v * u % 2 ^ 64 : Nat)), .int .i64 (0)]) ∧ w = w' := by
  obtain ⟨r, hr2⟩ : ∃ r : Nat, r = v * u % 2 ^ 64 := ⟨_, rfl⟩
  rw [← hr2]
  have q : IntKind.u64.wrap ((v : Int) * (u : Int)) = (r : Int) := by rw [IntKind.wrap_u64, hr2, show 2 ^ 64 = 18446744073709551616 by decide, Int.natCast_emod, Int.natCast_mul]; rfl
  clear hr2
  go_enter Tryd.func20, Tryd.ntmps20
  go_wp2
  go_ret2
  first | exact ⟨rfl, rfl⟩ | exact ⟨congrArg (fun z => Ending.returned (Value.tuple #[Value.int .u64 z, Value.int .i64 0])) q, rfl⟩
theorem awtwo7 {w : World} (v u : Nat) (hv : v < 18446744073709551616) (hu : u < 18446744073709551616) : Calls Tryd.prog 20 #[.int .u8 22, .int .u64 v, .int .u64 u] w fun e w' => e = .returned (.tuple #[.int .u64 (((v &&& u) % 2 ^ 64 : Nat)), .int .i64 (0)]) ∧ w = w' := by
  obtain ⟨r, hr2⟩ : ∃ r : Nat, r = (v &&& u) % 2 ^ 64 := ⟨_, rfl⟩
  rw [← hr2]
  have q : bits .and .u64 (v : Int) (u : Int) = (r : Int) := by rw [hr2, u64_and_nat _ _ hv hu, Nat.mod_eq_of_lt (Nat.and_lt_two_pow _ (show u < 2 ^ 64 from hu))]
  clear hr2
  go_enter Tryd.func20, Tryd.ntmps20
  go_wp2
  go_ret2
  first | exact ⟨rfl, rfl⟩ | exact ⟨congrArg (fun z => Ending.returned (Value.tuple #[Value.int .u64 z, Value.int .i64 0])) q, rfl⟩
theorem awtwo8 {w : World} (v u : Nat) (hv : v < 18446744073709551616) (hu : u < 18446744073709551616) : Calls Tryd.prog 20 #[.int .u8 23, .int .u64 v, .int .u64 u] w fun e w' => e = .returned (.tuple #[.int .u64 (((v ||| u) % 2 ^ 64 : Nat)), .int .i64 (0)]) ∧ w = w' := by
  obtain ⟨r, hr2⟩ : ∃ r : Nat, r = (v ||| u) % 2 ^ 64 := ⟨_, rfl⟩
  rw [← hr2]
  have q : bits .or .u64 (v : Int) (u : Int) = (r : Int) := by rw [hr2, u64_or_nat _ _ hv hu, Nat.mod_eq_of_lt (Nat.or_lt_two_pow (show v < 2 ^ 64 from hv) (show u < 2 ^ 64 from hu))]
  clear hr2
  go_enter Tryd.func20, Tryd.ntmps20
  go_wp2
  go_ret2
  first | exact ⟨rfl, rfl⟩ | exact ⟨congrArg (fun z => Ending.returned (Value.tuple #[Value.int .u64 z, Value.int .i64 0])) q, rfl⟩
theorem awtwo9 {w : World} (v u : Nat) (hv : v < 18446744073709551616) (hu : u < 18446744073709551616) : Calls Tryd.prog 20 #[.int .u8 24, .int .u64 v, .int .u64 u] w fun e w' => e = .returned (.tuple #[.int .u64 (((v ^^^ u) % 2 ^ 64 : Nat)), .int .i64 (0)]) ∧ w = w' := by
  obtain ⟨r, hr2⟩ : ∃ r : Nat, r = (v ^^^ u) % 2 ^ 64 := ⟨_, rfl⟩
  rw [← hr2]
  have q : bits .xor .u64 (v : Int) (u : Int) = (r : Int) := by rw [hr2, u64_xor_nat _ _ hv hu, Nat.mod_eq_of_lt (Nat.xor_lt_two_pow (show v < 2 ^ 64 from hv) (show u < 2 ^ 64 from hu))]
  clear hr2
  go_enter Tryd.func20, Tryd.ntmps20
  go_wp2
  go_ret2
  first | exact ⟨rfl, rfl⟩ | exact ⟨congrArg (fun z => Ending.returned (Value.tuple #[Value.int .u64 z, Value.int .i64 0])) q, rfl⟩
theorem awtwo3 {w : World} (v u : Nat) (hv : v < 18446744073709551616) (hu : u < 18446744073709551616) : Calls Tryd.prog 20 #[.int .u8 18, .int .u64 v, .int .u64 u] w fun e w' => e = .returned (.tuple #[.int .u64 ((quoN 64 0 v u).1), .int .i64 ((quoN 64 0 v u).2)]) ∧ w = w' := by
  have HD := Lib.hid (awdiv0 (w := w) v u hv hu)
  generalize quoN 64 0 v u = p at *
  go_enter Tryd.func20, Tryd.ntmps20
  go_wp2_with (go_at_call 29; (with_reducible refine HD.out.mono ?_); rintro e w0 ⟨rfl, rfl⟩)
  go_ret2
  exact ⟨rfl, rfl⟩
theorem awtwo4 {w : World} (v u : Nat) (hv : v < 18446744073709551616) (hu : u < 18446744073709551616) : Calls Tryd.prog 20 #[.int .u8 19, .int .u64 v, .int .u64 u] w fun e w' => e = .returned (.tuple #[.int .u64 ((quoN 64 1 v u).1), .int .i64 ((quoN 64 1 v u).2)]) ∧ w = w' := by
  have HD := Lib.hid (awdiv1 (w := w) v u hv hu)
  generalize quoN 64 1 v u = p at *
  go_enter Tryd.func20, Tryd.ntmps20
  go_wp2_with (go_at_call 29; (with_reducible refine HD.out.mono ?_); rintro e w0 ⟨rfl, rfl⟩)
  go_ret2
  exact ⟨rfl, rfl⟩
theorem awtwo5 {w : World} (v u : Nat) (hv : v < 18446744073709551616) (hu : u < 18446744073709551616) : Calls Tryd.prog 20 #[.int .u8 20, .int .u64 v, .int .u64 u] w fun e w' => e = .returned (.tuple #[.int .u64 ((quoN 64 2 v u).1), .int .i64 ((quoN 64 2 v u).2)]) ∧ w = w' := by
  have HD := Lib.hid (awdiv2 (w := w) v u hv hu)
  generalize quoN 64 2 v u = p at *
  go_enter Tryd.func20, Tryd.ntmps20
  go_wp2_with (go_at_call 29; (with_reducible refine HD.out.mono ?_); rintro e w0 ⟨rfl, rfl⟩)
  go_ret2
  exact ⟨rfl, rfl⟩
theorem awtwo6 {w : World} (v u : Nat) (hv : v < 18446744073709551616) (hu : u < 18446744073709551616) : Calls Tryd.prog 20 #[.int .u8 21, .int .u64 v, .int .u64 u] w fun e w' => e = .returned (.tuple #[.int .u64 ((quoN 64 3 v u).1), .int .i64 ((quoN 64 3 v u).2)]) ∧ w = w' := by
  have HD := Lib.hid (awdiv3 (w := w) v u hv hu)
  generalize quoN 64 3 v u = p at *
  go_enter Tryd.func20, Tryd.ntmps20
  go_wp2_with (go_at_call 29; (with_reducible refine HD.out.mono ?_); rintro e w0 ⟨rfl, rfl⟩)
  go_ret2
  exact ⟨rfl, rfl⟩
theorem awtwo10 {w : World} (v u : Nat) (hv : v < 18446744073709551616) (hu : u < 18446744073709551616) : Calls Tryd.prog 20 #[.int .u8 25, .int .u64 v, .int .u64 u] w fun e w' => e = .returned (.tuple #[.int .u64 ((v * 2 ^ (u % 64) % 18446744073709551616 : Nat)), .int .i64 (0)]) ∧ w = w' := by
  have HD := Lib.hid (awsh0 (w := w) v (u % 64) hv (by omega))
  have e1 : (u : Int) % 64 = ((u % 64 : Nat) : Int) := by omega
  generalize u % 64 = q at *
  generalize v * 2 ^ q % 18446744073709551616 = r at *
  have HW := Lib.hid (fun W => awwid (w := W))
  go_enter Tryd.func20, Tryd.ntmps20
  go_wp2_with (first | (go_at_call 22; (with_reducible refine (HW.out _).mono ?_); rintro e w0 ⟨rfl, rfl⟩) | (go_at_call 30; (with_reducible refine HD.out.mono ?_); rintro e w0 ⟨rfl, rfl⟩))
  go_ret2
  exact ⟨rfl, rfl⟩
theorem awtwo11 {w : World} (v u : Nat) (hv : v < 18446744073709551616) (hu : u < 18446744073709551616) : Calls Tryd.prog 20 #[.int .u8 26, .int .u64 v, .int .u64 u] w fun e w' => e = .returned (.tuple #[.int .u64 (((sg 64 v / 2 ^ (u % 64) % 18446744073709551616).toNat : Nat)), .int .i64 (0)]) ∧ w = w' := by
  have HD := Lib.hid (awsh1 (w := w) v (u % 64) hv (by omega))
  have e1 : (u : Int) % 64 = ((u % 64 : Nat) : Int) := by omega
  generalize u % 64 = q at *
  generalize (sg 64 v / 2 ^ q % 18446744073709551616).toNat = r at *
  have HW := Lib.hid (fun W => awwid (w := W))
  go_enter Tryd.func20, Tryd.ntmps20
  go_wp2_with (first | (go_at_call 22; (with_reducible refine (HW.out _).mono ?_); rintro e w0 ⟨rfl, rfl⟩) | (go_at_call 30; (with_reducible refine HD.out.mono ?_); rintro e w0 ⟨rfl, rfl⟩))
  go_ret2
  exact ⟨rfl, rfl⟩
theorem awtwo12 {w : World} (v u : Nat) (hv : v < 18446744073709551616) (hu : u < 18446744073709551616) : Calls Tryd.prog 20 #[.int .u8 27, .int .u64 v, .int .u64 u] w fun e w' => e = .returned (.tuple #[.int .u64 ((v / 2 ^ (u % 64) : Nat)), .int .i64 (0)]) ∧ w = w' := by
  have HD := Lib.hid (awsh2 (w := w) v (u % 64) hv (by omega))
  have e1 : (u : Int) % 64 = ((u % 64 : Nat) : Int) := by omega
  generalize u % 64 = q at *
  generalize v / 2 ^ q = r at *
  have HW := Lib.hid (fun W => awwid (w := W))
  go_enter Tryd.func20, Tryd.ntmps20
  go_wp2_with (first | (go_at_call 22; (with_reducible refine (HW.out _).mono ?_); rintro e w0 ⟨rfl, rfl⟩) | (go_at_call 30; (with_reducible refine HD.out.mono ?_); rintro e w0 ⟨rfl, rfl⟩))
  go_ret2
  exact ⟨rfl, rfl⟩
theorem awtwo13 {w : World} (v u : Nat) (hv : v < 18446744073709551616) (hu : u < 18446744073709551616) : Calls Tryd.prog 20 #[.int .u8 28, .int .u64 v, .int .u64 u] w fun e w' => e = .returned (.tuple #[.int .u64 ((rotN 64 v (u % 64) : Nat)), .int .i64 (0)]) ∧ w = w' := by
  have HD := Lib.hid (awsh3 (w := w) v (u % 64) hv (by omega))
  have e1 : (u : Int) % 64 = ((u % 64 : Nat) : Int) := by omega
  generalize u % 64 = q at *
  generalize rotN 64 v q = r at *
  have HW := Lib.hid (fun W => awwid (w := W))
  go_enter Tryd.func20, Tryd.ntmps20
  go_wp2_with (first | (go_at_call 22; (with_reducible refine (HW.out _).mono ?_); rintro e w0 ⟨rfl, rfl⟩) | (go_at_call 30; (with_reducible refine HD.out.mono ?_); rintro e w0 ⟨rfl, rfl⟩))
  go_ret2
  exact ⟨rfl, rfl⟩
theorem awtwo14 {w : World} (v u : Nat) (hv : v < 18446744073709551616) (hu : u < 18446744073709551616) : Calls Tryd.prog 20 #[.int .u8 29, .int .u64 v, .int .u64 u] w fun e w' => e = .returned (.tuple #[.int .u64 ((rotN 64 v ((64 - u % 64) % 64) : Nat)), .int .i64 (0)]) ∧ w = w' := by
  have HD := Lib.hid (awsh4 (w := w) v (u % 64) hv (by omega))
  have e1 : (u : Int) % 64 = ((u % 64 : Nat) : Int) := by omega
  generalize u % 64 = q at *
  generalize rotN 64 v ((64 - q) % 64) = r at *
  have HW := Lib.hid (fun W => awwid (w := W))
  go_enter Tryd.func20, Tryd.ntmps20
  go_wp2_with (first | (go_at_call 22; (with_reducible refine (HW.out _).mono ?_); rintro e w0 ⟨rfl, rfl⟩) | (go_at_call 30; (with_reducible refine HD.out.mono ?_); rintro e w0 ⟨rfl, rfl⟩))
  go_ret2
  exact ⟨rfl, rfl⟩
theorem awtwoCmp {w : World} (op : Int) (v u : Nat) (x y : Int) (h : op < 15 ∨ 29 < op) (hC : Calls Tryd.prog 31 #[.int .u8 op, .int .u64 v, .int .u64 u] w fun e w' => e = .returned (.tuple #[.int .u64 (x), .int .i64 (y)]) ∧ w = w') : Calls Tryd.prog 20 #[.int .u8 op, .int .u64 v, .int .u64 u] w fun e w' => e = .returned (.tuple #[.int .u64 (x), .int .i64 (y)]) ∧ w = w' := by
  have HC := Lib.hid hC
  clear hC
  have d0 : (op == 15) = false := by simp; omega
  have d1 : (op == 16) = false := by simp; omega
  have d2 : (op == 17) = false := by simp; omega
  have d3 : (op == 18) = false := by simp; omega
  have d4 : (op == 19) = false := by simp; omega
  have d5 : (op == 20) = false := by simp; omega
  have d6 : (op == 21) = false := by simp; omega
  have d7 : (op == 22) = false := by simp; omega
  have d8 : (op == 23) = false := by simp; omega
  have d9 : (op == 24) = false := by simp; omega
  have d10 : (op == 25) = false := by simp; omega
  have d11 : (op == 26) = false := by simp; omega
  have d12 : (op == 27) = false := by simp; omega
  have d13 : (op == 28) = false := by simp; omega
  have d14 : (op == 29) = false := by simp; omega
  clear h
  go_enter Tryd.func20, Tryd.ntmps20
  go_wp2_with (go_at_call 31; (with_reducible refine HC.out.mono ?_); rintro e w0 ⟨rfl, rfl⟩)
  go_ret2
  exact ⟨rfl, rfl⟩
theorem awtwoA {w : World} (op v u : Nat) (ho : op < 256) (hv : v < 18446744073709551616) (hu : u < 18446744073709551616) : Calls Tryd.prog 20 #[.int .u8 (ofN 81 124 op), .int .u64 v, .int .u64 u] w fun e w' => e = .returned (.tuple #[.int .u64 ((twoN 64 81 124 op v u).1), .int .i64 ((twoN 64 81 124 op v u).2)]) ∧ w = w' := by
  by_cases hc : 81 ≤ op ∧ op ≤ 90
  · have e : twoN 64 81 124 op v u = ((cmpN 64 (op - 81) v u).toNat, 0) := by unfold twoN; rw [if_pos hc]
    have eo : ofN 81 124 op = 2 + (op - 81) := by unfold ofN; rw [if_pos (by omega)]; omega
    rw [e, eo]
    obtain ⟨k, rfl, hk⟩ : ∃ k, op = 81 + k ∧ k < 10 := ⟨op - 81, by omega, by omega⟩
    rw [show 81 + k - 81 = k by omega]
    refine awtwoCmp _ v u _ _ (by omega) ?_
    clear e eo hc
    match k, hk with
    | 0, _ => exact awcmp0 v u hv hu
    | 1, _ => exact awcmp1 v u hv hu
    | 2, _ => exact awcmp2 v u hv hu
    | 3, _ => exact awcmp3 v u hv hu
    | 4, _ => exact awcmp4 v u hv hu
    | 5, _ => exact awcmp5 v u hv hu
    | 6, _ => exact awcmp6 v u hv hu
    | 7, _ => exact awcmp7 v u hv hu
    | 8, _ => exact awcmp8 v u hv hu
    | 9, _ => exact awcmp9 v u hv hu
    | k + 10, h => omega
  by_cases ha : 124 ≤ op ∧ op ≤ 138
  · have e : twoN 64 81 124 op v u = arN 64 (op - 124) v u := by unfold twoN; rw [if_neg hc, if_pos ha]
    have eo : ofN 81 124 op = 15 + (op - 124) := by unfold ofN; rw [if_neg (by omega), if_pos (by omega)]; omega
    rw [e, eo]
    obtain ⟨k, rfl, hk⟩ : ∃ k, op = 124 + k ∧ k < 15 := ⟨op - 124, by omega, by omega⟩
    rw [show 124 + k - 124 = k by omega]
    clear e eo hc ha
    match k, hk with
    | 0, _ => exact awtwo0 v u hv hu
    | 1, _ => exact awtwo1 v u hv hu
    | 2, _ => exact awtwo2 v u hv hu
    | 3, _ => exact awtwo3 v u hv hu
    | 4, _ => exact awtwo4 v u hv hu
    | 5, _ => exact awtwo5 v u hv hu
    | 6, _ => exact awtwo6 v u hv hu
    | 7, _ => exact awtwo7 v u hv hu
    | 8, _ => exact awtwo8 v u hv hu
    | 9, _ => exact awtwo9 v u hv hu
    | 10, _ => exact awtwo10 v u hv hu
    | 11, _ => exact awtwo11 v u hv hu
    | 12, _ => exact awtwo12 v u hv hu
    | 13, _ => exact awtwo13 v u hv hu
    | 14, _ => exact awtwo14 v u hv hu
    | k + 15, h => omega
  · have e : twoN 64 81 124 op v u = (0, 9) := by unfold twoN; rw [if_neg hc, if_neg ha]
    have eo : ofN 81 124 op < 2 ∨ (11 < ofN 81 124 op ∧ ofN 81 124 op < 15) := by unfold ofN; split <;> (try split) <;> omega
    rw [e]
    exact awtwoCmp _ v u _ _ (by omega) (awcmpNot _ v u hv hu (by omega))
theorem awof {w : World} (op : Nat) (ho : op < 256) : Calls Tryd.prog 13 #[.int .u8 op, .int .u8 80, .int .u8 121] w fun e w' => e = .returned (.int .u8 (ofN 81 124 op)) ∧ w = w' := by
  obtain ⟨n, hn⟩ : ∃ n : Nat, n = (op + 256 - 80) % 256 := ⟨_, rfl⟩
  obtain ⟨m, hm⟩ : ∃ m : Nat, m = (op + 256 - 121) % 256 := ⟨_, rfl⟩
  have e1 : IntKind.u8.wrap ((op : Int) - 80) = n := by rw [IntKind.wrap_u8]; omega
  have e2 : IntKind.u8.wrap ((op : Int) - 121) = m := by rw [IntKind.wrap_u8]; omega
  have e3 : ((op : Int) - 80) % 256 = n := by omega
  have e4 : ((op : Int) - 121) % 256 = m := by omega
  by_cases h1 : n ≤ 10
  · have hr : ofN 81 124 op = 1 + n := by unfold ofN; rw [if_pos (by omega)]; omega
    have q : IntKind.u8.wrap (1 + (n : Int)) = ((1 + n : Nat) : Int) := by rw [IntKind.wrap_u8]; omega
    have q1 : (1 + (n : Int)) % 256 = ((1 + n : Nat) : Int) := by omega
    rw [hr]
    generalize 1 + n = r at *
    clear hn hm hr e2 e4
    go_enter Tryd.func13, Tryd.ntmps13
    go_wp2
    go_ret
    exact ⟨rfl, rfl⟩
  by_cases h2 : m ≤ 17
  · have hr : ofN 81 124 op = 12 + m := by unfold ofN; rw [if_neg (by omega), if_pos (by omega)]; omega
    have q : IntKind.u8.wrap (12 + (m : Int)) = ((12 + m : Nat) : Int) := by rw [IntKind.wrap_u8]; omega
    have q1 : (12 + (m : Int)) % 256 = ((12 + m : Nat) : Int) := by omega
    rw [hr]
    generalize 12 + m = r at *
    clear hn hm hr
    go_enter Tryd.func13, Tryd.ntmps13
    go_wp2
    go_ret
    exact ⟨rfl, rfl⟩
  · have hr : ofN 81 124 op = 0 := by unfold ofN; rw [if_neg (by omega), if_neg (by omega)]
    rw [hr]
    clear hn hm hr
    go_enter Tryd.func13, Tryd.ntmps13
    go_wp2
    go_ret
    exact ⟨rfl, rfl⟩
theorem aw_two {w : World} (op v u : Nat) (hv : v < 18446744073709551616) (hu : u < 18446744073709551616) (ho : op < 256 := by decide) : Calls Tryd.prog 11 #[.int .u8 op, .int .u64 v, .int .u64 u] w fun e w' => e = .returned (.tuple #[.int .u64 ((twoN 64 81 124 op v u).1), .int .i64 ((twoN 64 81 124 op v u).2)]) ∧ w = w' := by
  have HO := Lib.hid (awof (w := w) op ho)
  have HT := Lib.hid (awtwoA (w := w) op v u ho hv hu)
  generalize twoN 64 81 124 op v u = p at *
  generalize ofN 81 124 op = r at *
  go_enter Tryd.func11, Tryd.ntmps11
  go_wp2_with (first | (go_at_call 13; (with_reducible refine HO.out.mono ?_); rintro e w0 ⟨rfl, rfl⟩) | (go_at_call 20; (with_reducible refine HT.out.mono ?_); rintro e w0 ⟨rfl, rfl⟩))
  go_ret2
  exact ⟨rfl, rfl⟩
end Go.Proofs.YtjgdfajooccalaaDoor
