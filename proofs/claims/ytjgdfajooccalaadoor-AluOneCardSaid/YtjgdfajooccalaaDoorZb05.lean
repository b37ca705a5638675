/- Package arith at 32 bits: Two, and alu.Two, as plain functions of numbers. (By gen/genAr.py.) -/
import Derived.Test.YtjgdfajooccalaaDoorZb04
import Derived.Test.YtjgdfajooccalaaDoorZb02
import Derived.Deep.QuietTactic
import Derived.Deep.CutBlock
import Derived.Deep.DeepCutAuto
import Derived.WalkLawsBesides
import Derived.BigQuiet
import Derived.LoopTactic
import Derived.Deep.DeepMust
namespace Go.Proofs.YtjgdfajooccalaaDoor
open Go.RowKit
set_option linter.unusedVariables false
set_option maxRecDepth 100000
theorem artwo0 {w : World} (v u : Nat) (hv : v < 4294967296) (hu : u < 4294967296) : Calls Tryd.prog 26 #[.int .u8 15, .int .u32 v, .int .u32 u] w fun e w' => e = .returned (.tuple #[.int .u32 (((v + u) % 2 ^ 32 : Nat)), .int .i64 (0)]) ∧ w = w' := by
  obtain ⟨r, hr2⟩ : ∃ r : Nat, r = (v + u) % 2 ^ 32 := ⟨_, rfl⟩
  rw [← hr2]
  have q : ((v : Int) + (u : Int)) % 4294967296 = (r : Int) := by rw [hr2, show 2 ^ 32 = 4294967296 by decide]; omega
  clear hr2
  go_enter Tryd.func26, Tryd.ntmps26
  go_wp2
  go_ret2
  first | exact ⟨rfl, rfl⟩ | exact ⟨congrArg (fun z => Ending.returned (Value.tuple #[Value.int .u32 z, Value.int .i64 0])) q, rfl⟩
theorem artwo1 {w : World} (v u : Nat) (hv : v < 4294967296) (hu : u < 4294967296) : Calls Tryd.prog 26 #[.int .u8 16, .int .u32 v, .int .u32 u] w fun e w' => e = .returned (.tuple #[.int .u32 (((v + (2 ^ 32 - u)) % 2 ^ 32 : Nat)), .int .i64 (0)]) ∧ w = w' := by
  obtain ⟨r, hr2⟩ : ∃ r : Nat, r = (v + (2 ^ 32 - u)) % 2 ^ 32 := ⟨_, rfl⟩
  rw [← hr2]
  have q : ((v : Int) - (u : Int)) % 4294967296 = (r : Int) := by rw [hr2, show 2 ^ 32 = 4294967296 by decide]; omega
  clear hr2
  go_enter Tryd.func26, Tryd.ntmps26
  go_wp2
  go_ret2
  first | exact ⟨rfl, rfl⟩ | exact ⟨congrArg (fun z => Ending.returned (Value.tuple #[Value.int .u32 z, Value.int .i64 0])) q, rfl⟩
theorem artwo2 {w : World} (v u : Nat) (hv : v < 4294967296) (hu : u < 4294967296) : Calls Tryd.prog 26 #[.int .u8 17, .int .u32 v, .int .u32 u] w fun e w' => e = .returned (.tuple #[.int .u32 ((v * u % 2 ^ 32 : Nat)), .int .i64 (0)]) ∧ w = w' := by
  obtain ⟨r, hr2⟩ : ∃ r : Nat, r = v * u % 2 ^ 32 := ⟨_, rfl⟩
  rw [← hr2]
  have q : ((v : Int) * (u : Int)) % 4294967296 = (r : Int) := by rw [hr2, show 2 ^ 32 = 4294967296 by decide, Int.natCast_emod, Int.natCast_mul]; rfl
  clear hr2
  go_enter Tryd.func26, Tryd.ntmps26
  go_wp2
  go_ret2
  first | exact ⟨rfl, rfl⟩ | exact ⟨congrArg (fun z => Ending.returned (Value.tuple #[Value.int .u32 z, Value.int .i64 0])) q, rfl⟩
theorem artwo7 {w : World} (v u : Nat) (hv : v < 4294967296) (hu : u < 4294967296) : Calls Tryd.prog 26 #[.int .u8 22, .int .u32 v, .int .u32 u] w fun e w' => e = .returned (.tuple #[.int .u32 (((v &&& u) % 2 ^ 32 : Nat)), .int .i64 (0)]) ∧ w = w' := by
  obtain ⟨r, hr2⟩ : ∃ r : Nat, r = (v &&& u) % 2 ^ 32 := ⟨_, rfl⟩
  rw [← hr2]
  have q : bits .and .u32 (v : Int) (u : Int) = (r : Int) := by rw [hr2, u32_and_nat _ _ hv hu, Nat.mod_eq_of_lt (Nat.and_lt_two_pow _ (show u < 2 ^ 32 from hu))]
  clear hr2
  go_enter Tryd.func26, Tryd.ntmps26
  go_wp2
  go_ret2
  first | exact ⟨rfl, rfl⟩ | exact ⟨congrArg (fun z => Ending.returned (Value.tuple #[Value.int .u32 z, Value.int .i64 0])) q, rfl⟩
theorem artwo8 {w : World} (v u : Nat) (hv : v < 4294967296) (hu : u < 4294967296) : Calls Tryd.prog 26 #[.int .u8 23, .int .u32 v, .int .u32 u] w fun e w' => e = .returned (.tuple #[.int .u32 (((v ||| u) % 2 ^ 32 : Nat)), .int .i64 (0)]) ∧ w = w' := by
  obtain ⟨r, hr2⟩ : ∃ r : Nat, r = (v ||| u) % 2 ^ 32 := ⟨_, rfl⟩
  rw [← hr2]
  have q : bits .or .u32 (v : Int) (u : Int) = (r : Int) := by rw [hr2, u32_or_nat _ _ hv hu, Nat.mod_eq_of_lt (Nat.or_lt_two_pow (show v < 2 ^ 32 from hv) (show u < 2 ^ 32 from hu))]
  clear hr2
  go_enter Tryd.func26, Tryd.ntmps26
  go_wp2
  go_ret2
  first | exact ⟨rfl, rfl⟩ | exact ⟨congrArg (fun z => Ending.returned (Value.tuple #[Value.int .u32 z, Value.int .i64 0])) q, rfl⟩
theorem artwo9 {w : World} (v u : Nat) (hv : v < 4294967296) (hu : u < 4294967296) : Calls Tryd.prog 26 #[.int .u8 24, .int .u32 v, .int .u32 u] w fun e w' => e = .returned (.tuple #[.int .u32 (((v ^^^ u) % 2 ^ 32 : Nat)), .int .i64 (0)]) ∧ w = w' := by
  obtain ⟨r, hr2⟩ : ∃ r : Nat, r = (v ^^^ u) % 2 ^ 32 := ⟨_, rfl⟩
  rw [← hr2]
  have q : bits .xor .u32 (v : Int) (u : Int) = (r : Int) := by rw [hr2, u32_xor_nat _ _ hv hu, Nat.mod_eq_of_lt (Nat.xor_lt_two_pow (show v < 2 ^ 32 from hv) (show u < 2 ^ 32 from hu))]
  clear hr2
  go_enter Tryd.func26, Tryd.ntmps26
  go_wp2
  go_ret2
  first | exact ⟨rfl, rfl⟩ | exact ⟨congrArg (fun z => Ending.returned (Value.tuple #[Value.int .u32 z, Value.int .i64 0])) q, rfl⟩
theorem artwo3 {w : World} (v u : Nat) (hv : v < 4294967296) (hu : u < 4294967296) : Calls Tryd.prog 26 #[.int .u8 18, .int .u32 v, .int .u32 u] w fun e w' => e = .returned (.tuple #[.int .u32 ((quoN 32 0 v u).1), .int .i64 ((quoN 32 0 v u).2)]) ∧ w = w' := by
  have HD := Lib.hid (ardiv0 (w := w) v u hv hu)
  generalize quoN 32 0 v u = p at *
  go_enter Tryd.func26, Tryd.ntmps26
  go_wp2_with (go_at_call 32; (with_reducible refine HD.out.mono ?_); rintro e w0 ⟨rfl, rfl⟩)
  go_ret2
  exact ⟨rfl, rfl⟩
theorem artwo4 {w : World} (v u : Nat) (hv : v < 4294967296) (hu : u < 4294967296) : Calls Tryd.prog 26 #[.int .u8 19, .int .u32 v, .int .u32 u] w fun e w' => e = .returned (.tuple #[.int .u32 ((quoN 32 1 v u).1), .int .i64 ((quoN 32 1 v u).2)]) ∧ w = w' := by
  have HD := Lib.hid (ardiv1 (w := w) v u hv hu)
  generalize quoN 32 1 v u = p at *
  go_enter Tryd.func26, Tryd.ntmps26
  go_wp2_with (go_at_call 32; (with_reducible refine HD.out.mono ?_); rintro e w0 ⟨rfl, rfl⟩)
  go_ret2
  exact ⟨rfl, rfl⟩
theorem artwo5 {w : World} (v u : Nat) (hv : v < 4294967296) (hu : u < 4294967296) : Calls Tryd.prog 26 #[.int .u8 20, .int .u32 v, .int .u32 u] w fun e w' => e = .returned (.tuple #[.int .u32 ((quoN 32 2 v u).1), .int .i64 ((quoN 32 2 v u).2)]) ∧ w = w' := by
  have HD := Lib.hid (ardiv2 (w := w) v u hv hu)
  generalize quoN 32 2 v u = p at *
  go_enter Tryd.func26, Tryd.ntmps26
  go_wp2_with (go_at_call 32; (with_reducible refine HD.out.mono ?_); rintro e w0 ⟨rfl, rfl⟩)
  go_ret2
  exact ⟨rfl, rfl⟩
theorem artwo6 {w : World} (v u : Nat) (hv : v < 4294967296) (hu : u < 4294967296) : Calls Tryd.prog 26 #[.int .u8 21, .int .u32 v, .int .u32 u] w fun e w' => e = .returned (.tuple #[.int .u32 ((quoN 32 3 v u).1), .int .i64 ((quoN 32 3 v u).2)]) ∧ w = w' := by
  have HD := Lib.hid (ardiv3 (w := w) v u hv hu)
  generalize quoN 32 3 v u = p at *
  go_enter Tryd.func26, Tryd.ntmps26
  go_wp2_with (go_at_call 32; (with_reducible refine HD.out.mono ?_); rintro e w0 ⟨rfl, rfl⟩)
  go_ret2
  exact ⟨rfl, rfl⟩
theorem artwo10 {w : World} (v u : Nat) (hv : v < 4294967296) (hu : u < 4294967296) : Calls Tryd.prog 26 #[.int .u8 25, .int .u32 v, .int .u32 u] w fun e w' => e = .returned (.tuple #[.int .u32 ((v * 2 ^ (u % 32) % 4294967296 : Nat)), .int .i64 (0)]) ∧ w = w' := by
  have HD := Lib.hid (arsh0 (w := w) v (u % 32) hv (by omega))
  have e1 : (u : Int) % 32 = ((u % 32 : Nat) : Int) := by omega
  generalize u % 32 = q at *
  generalize v * 2 ^ q % 4294967296 = r at *
  have HW := Lib.hid (fun W => arwid (w := W))
  go_enter Tryd.func26, Tryd.ntmps26
  go_wp2_with (first | (go_at_call 28; (with_reducible refine (HW.out _).mono ?_); rintro e w0 ⟨rfl, rfl⟩) | (go_at_call 33; (with_reducible refine HD.out.mono ?_); rintro e w0 ⟨rfl, rfl⟩))
  go_ret2
  exact ⟨rfl, rfl⟩
theorem artwo11 {w : World} (v u : Nat) (hv : v < 4294967296) (hu : u < 4294967296) : Calls Tryd.prog 26 #[.int .u8 26, .int .u32 v, .int .u32 u] w fun e w' => e = .returned (.tuple #[.int .u32 (((sg 32 v / 2 ^ (u % 32) % 4294967296).toNat : Nat)), .int .i64 (0)]) ∧ w = w' := by
  have HD := Lib.hid (arsh1 (w := w) v (u % 32) hv (by omega))
  have e1 : (u : Int) % 32 = ((u % 32 : Nat) : Int) := by omega
  generalize u % 32 = q at *
  generalize (sg 32 v / 2 ^ q % 4294967296).toNat = r at *
  have HW := Lib.hid (fun W => arwid (w := W))
  go_enter Tryd.func26, Tryd.ntmps26
  go_wp2_with (first | (go_at_call 28; (with_reducible refine (HW.out _).mono ?_); rintro e w0 ⟨rfl, rfl⟩) | (go_at_call 33; (with_reducible refine HD.out.mono ?_); rintro e w0 ⟨rfl, rfl⟩))
  go_ret2
  exact ⟨rfl, rfl⟩
theorem artwo12 {w : World} (v u : Nat) (hv : v < 4294967296) (hu : u < 4294967296) : Calls Tryd.prog 26 #[.int .u8 27, .int .u32 v, .int .u32 u] w fun e w' => e = .returned (.tuple #[.int .u32 ((v / 2 ^ (u % 32) : Nat)), .int .i64 (0)]) ∧ w = w' := by
  have HD := Lib.hid (arsh2 (w := w) v (u % 32) hv (by omega))
  have e1 : (u : Int) % 32 = ((u % 32 : Nat) : Int) := by omega
  generalize u % 32 = q at *
  generalize v / 2 ^ q = r at *
  have HW := Lib.hid (fun W => arwid (w := W))
  go_enter Tryd.func26, Tryd.ntmps26
  go_wp2_with (first | (go_at_call 28; (with_reducible refine (HW.out _).mono ?_); rintro e w0 ⟨rfl, rfl⟩) | (go_at_call 33; (with_reducible refine HD.out.mono ?_); rintro e w0 ⟨rfl, rfl⟩))
  go_ret2
  exact ⟨rfl, rfl⟩
theorem artwo13 {w : World} (v u : Nat) (hv : v < 4294967296) (hu : u < 4294967296) : Calls Tryd.prog 26 #[.int .u8 28, .int .u32 v, .int .u32 u] w fun e w' => e = .returned (.tuple #[.int .u32 ((rotN 32 v (u % 32) : Nat)), .int .i64 (0)]) ∧ w = w' := by
  have HD := Lib.hid (arsh3 (w := w) v (u % 32) hv (by omega))
  have e1 : (u : Int) % 32 = ((u % 32 : Nat) : Int) := by omega
  generalize u % 32 = q at *
  generalize rotN 32 v q = r at *
  have HW := Lib.hid (fun W => arwid (w := W))
  go_enter Tryd.func26, Tryd.ntmps26
  go_wp2_with (first | (go_at_call 28; (with_reducible refine (HW.out _).mono ?_); rintro e w0 ⟨rfl, rfl⟩) | (go_at_call 33; (with_reducible refine HD.out.mono ?_); rintro e w0 ⟨rfl, rfl⟩))
  go_ret2
  exact ⟨rfl, rfl⟩
theorem artwo14 {w : World} (v u : Nat) (hv : v < 4294967296) (hu : u < 4294967296) : Calls Tryd.prog 26 #[.int .u8 29, .int .u32 v, .int .u32 u] w fun e w' => e = .returned (.tuple #[.int .u32 ((rotN 32 v ((32 - u % 32) % 32) : Nat)), .int .i64 (0)]) ∧ w = w' := by
  have HD := Lib.hid (arsh4 (w := w) v (u % 32) hv (by omega))
  have e1 : (u : Int) % 32 = ((u % 32 : Nat) : Int) := by omega
  generalize u % 32 = q at *
  generalize rotN 32 v ((32 - q) % 32) = r at *
  have HW := Lib.hid (fun W => arwid (w := W))
  go_enter Tryd.func26, Tryd.ntmps26
  go_wp2_with (first | (go_at_call 28; (with_reducible refine (HW.out _).mono ?_); rintro e w0 ⟨rfl, rfl⟩) | (go_at_call 33; (with_reducible refine HD.out.mono ?_); rintro e w0 ⟨rfl, rfl⟩))
  go_ret2
  exact ⟨rfl, rfl⟩
theorem artwoCmp {w : World} (op : Int) (v u : Nat) (x y : Int) (h : op < 15 ∨ 29 < op) (hC : Calls Tryd.prog 34 #[.int .u8 op, .int .u32 v, .int .u32 u] w fun e w' => e = .returned (.tuple #[.int .u32 (x), .int .i64 (y)]) ∧ w = w') : Calls Tryd.prog 26 #[.int .u8 op, .int .u32 v, .int .u32 u] w fun e w' => e = .returned (.tuple #[.int .u32 (x), .int .i64 (y)]) ∧ w = w' := by
  have HC := Lib.hid hC
  clear hC
  have d0 : (op == 15) = false := by simp; omega
  have d1 : (op == 16) = false := by simp; omega
  have d2 : (op == 17) = false := by simp; omega
  have d3 : (op == 18) = false := by simp; omega
  have d4 : (op == 19) = false := by simp; omega
  have d5 : (op == 20) = false := by simp; omega
  have d6 : (op == 21) = false := by simp; omega
  have d7 : (op == 22) = false := by simp; omega
  have d8 : (op == 23) = false := by simp; omega
  have d9 : (op == 24) = false := by simp; omega
  have d10 : (op == 25) = false := by simp; omega
  have d11 : (op == 26) = false := by simp; omega
  have d12 : (op == 27) = false := by simp; omega
  have d13 : (op == 28) = false := by simp; omega
  have d14 : (op == 29) = false := by simp; omega
  clear h
  go_enter Tryd.func26, Tryd.ntmps26
  go_wp2_with (go_at_call 34; (with_reducible refine HC.out.mono ?_); rintro e w0 ⟨rfl, rfl⟩)
  go_ret2
  exact ⟨rfl, rfl⟩
theorem artwoA {w : World} (op v u : Nat) (ho : op < 256) (hv : v < 4294967296) (hu : u < 4294967296) : Calls Tryd.prog 26 #[.int .u8 (ofN 70 106 op), .int .u32 v, .int .u32 u] w fun e w' => e = .returned (.tuple #[.int .u32 ((twoN 32 70 106 op v u).1), .int .i64 ((twoN 32 70 106 op v u).2)]) ∧ w = w' := by
  by_cases hc : 70 ≤ op ∧ op ≤ 79
  · have e : twoN 32 70 106 op v u = ((cmpN 32 (op - 70) v u).toNat, 0) := by unfold twoN; rw [if_pos hc]
    have eo : ofN 70 106 op = 2 + (op - 70) := by unfold ofN; rw [if_pos (by omega)]; omega
    rw [e, eo]
    obtain ⟨k, rfl, hk⟩ : ∃ k, op = 70 + k ∧ k < 10 := ⟨op - 70, by omega, by omega⟩
    rw [show 70 + k - 70 = k by omega]
    refine artwoCmp _ v u _ _ (by omega) ?_
    clear e eo hc
    match k, hk with
    | 0, _ => exact arcmp0 v u hv hu
    | 1, _ => exact arcmp1 v u hv hu
    | 2, _ => exact arcmp2 v u hv hu
    | 3, _ => exact arcmp3 v u hv hu
    | 4, _ => exact arcmp4 v u hv hu
    | 5, _ => exact arcmp5 v u hv hu
    | 6, _ => exact arcmp6 v u hv hu
    | 7, _ => exact arcmp7 v u hv hu
    | 8, _ => exact arcmp8 v u hv hu
    | 9, _ => exact arcmp9 v u hv hu
    | k + 10, h => omega
  by_cases ha : 106 ≤ op ∧ op ≤ 120
  · have e : twoN 32 70 106 op v u = arN 32 (op - 106) v u := by unfold twoN; rw [if_neg hc, if_pos ha]
    have eo : ofN 70 106 op = 15 + (op - 106) := by unfold ofN; rw [if_neg (by omega), if_pos (by omega)]; omega
    rw [e, eo]
    obtain ⟨k, rfl, hk⟩ : ∃ k, op = 106 + k ∧ k < 15 := ⟨op - 106, by omega, by omega⟩
    rw [show 106 + k - 106 = k by omega]
    clear e eo hc ha
    match k, hk with
    | 0, _ => exact artwo0 v u hv hu
    | 1, _ => exact artwo1 v u hv hu
    | 2, _ => exact artwo2 v u hv hu
    | 3, _ => exact artwo3 v u hv hu
    | 4, _ => exact artwo4 v u hv hu
    | 5, _ => exact artwo5 v u hv hu
    | 6, _ => exact artwo6 v u hv hu
    | 7, _ => exact artwo7 v u hv hu
    | 8, _ => exact artwo8 v u hv hu
    | 9, _ => exact artwo9 v u hv hu
    | 10, _ => exact artwo10 v u hv hu
    | 11, _ => exact artwo11 v u hv hu
    | 12, _ => exact artwo12 v u hv hu
    | 13, _ => exact artwo13 v u hv hu
    | 14, _ => exact artwo14 v u hv hu
    | k + 15, h => omega
  · have e : twoN 32 70 106 op v u = (0, 9) := by unfold twoN; rw [if_neg hc, if_neg ha]
    have eo : ofN 70 106 op < 2 ∨ (11 < ofN 70 106 op ∧ ofN 70 106 op < 15) := by unfold ofN; split <;> (try split) <;> omega
    rw [e]
    exact artwoCmp _ v u _ _ (by omega) (arcmpNot _ v u hv hu (by omega))
theorem arof {w : World} (op : Nat) (ho : op < 256) : Calls Tryd.prog 13 #[.int .u8 op, .int .u8 69, .int .u8 103] w fun e w' => e = .returned (.int .u8 (ofN 70 106 op)) ∧ w = w' := by
  obtain ⟨n, hn⟩ : ∃ n : Nat, n = (op + 256 - 69) % 256 := ⟨_, rfl⟩
  obtain ⟨m, hm⟩ : ∃ m : Nat, m = (op + 256 - 103) % 256 := ⟨_, rfl⟩
  have e1 : IntKind.u8.wrap ((op : Int) - 69) = n := by rw [IntKind.wrap_u8]; omega
  have e2 : IntKind.u8.wrap ((op : Int) - 103) = m := by rw [IntKind.wrap_u8]; omega
  have e3 : ((op : Int) - 69) % 256 = n := by omega
  have e4 : ((op : Int) - 103) % 256 = m := by omega
  by_cases h1 : n ≤ 10
  · have hr : ofN 70 106 op = 1 + n := by unfold ofN; rw [if_pos (by omega)]; omega
    have q : IntKind.u8.wrap (1 + (n : Int)) = ((1 + n : Nat) : Int) := by rw [IntKind.wrap_u8]; omega
    have q1 : (1 + (n : Int)) % 256 = ((1 + n : Nat) : Int) := by omega
    rw [hr]
    generalize 1 + n = r at *
    clear hn hm hr e2 e4
    go_enter Tryd.func13, Tryd.ntmps13
    go_wp2
    go_ret
    exact ⟨rfl, rfl⟩
  by_cases h2 : m ≤ 17
  · have hr : ofN 70 106 op = 12 + m := by unfold ofN; rw [if_neg (by omega), if_pos (by omega)]; omega
    have q : IntKind.u8.wrap (12 + (m : Int)) = ((12 + m : Nat) : Int) := by rw [IntKind.wrap_u8]; omega
    have q1 : (12 + (m : Int)) % 256 = ((12 + m : Nat) : Int) := by omega
    rw [hr]
    generalize 12 + m = r at *
    clear hn hm hr
    go_enter Tryd.func13, Tryd.ntmps13
    go_wp2
    go_ret
    exact ⟨rfl, rfl⟩
  · have hr : ofN 70 106 op = 0 := by unfold ofN; rw [if_neg (by omega), if_neg (by omega)]
    rw [hr]
    clear hn hm hr
    go_enter Tryd.func13, Tryd.ntmps13
    go_wp2
    go_ret
    exact ⟨rfl, rfl⟩
theorem ar_two {w : World} (op v u : Nat) (hv : v < 4294967296) (hu : u < 4294967296) (ho : op < 256 := by decide) : Calls Tryd.prog 16 #[.int .u8 op, .int .u32 v, .int .u32 u] w fun e w' => e = .returned (.tuple #[.int .u32 ((twoN 32 70 106 op v u).1), .int .i64 ((twoN 32 70 106 op v u).2)]) ∧ w = w' := by
  have HO := Lib.hid (arof (w := w) op ho)
  have HT := Lib.hid (artwoA (w := w) op v u ho hv hu)
  generalize twoN 32 70 106 op v u = p at *
  generalize ofN 70 106 op = r at *
  go_enter Tryd.func16, Tryd.ntmps16
  go_wp2_with (first | (go_at_call 13; (with_reducible refine HO.out.mono ?_); rintro e w0 ⟨rfl, rfl⟩) | (go_at_call 26; (with_reducible refine HT.out.mono ?_); rintro e w0 ⟨rfl, rfl⟩))
  go_ret2
  exact ⟨rfl, rfl⟩
end Go.Proofs.YtjgdfajooccalaaDoor
