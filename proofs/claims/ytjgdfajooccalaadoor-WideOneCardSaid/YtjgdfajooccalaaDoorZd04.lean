/- Package arith at 64 bits: width, signed, quotient, divide, shift, as plain functions of numbers. (By gen/genAr.py.) -/
import Derived.Test.YtjgdfajooccalaaDoorZd02
import Derived.Deep.QuietTactic
import Derived.Deep.CutBlock
import Derived.Deep.DeepCutAuto
import Derived.WalkLawsBesides
import Derived.BigQuiet
import Derived.LoopTactic
import Derived.Deep.DeepMust
namespace Go.Proofs.YtjgdfajooccalaaDoor
open Go.RowKit
set_option linter.unusedVariables false
set_option maxRecDepth 100000
theorem awtruth (b : Bool) (w : World) : Calls Tryd.prog 21 #[.bool b] w fun e w' => e = .returned (.int .u64 ((b.toNat : Nat))) ∧ w = w' := by
  cases b
  · go_enter Tryd.func21, Tryd.ntmps21
    go_wp2
    go_ret
    exact ⟨rfl, rfl⟩
  · go_enter Tryd.func21, Tryd.ntmps21
    go_wp2
    go_ret
    exact ⟨rfl, rfl⟩
theorem awwid {w : World} : Calls Tryd.prog 22 #[] w fun e w' => e = .returned (.int .u64 (64)) ∧ w = w' := by
  have HO := Lib.hid (ones_64 (w := w))
  have em := xor_64
  have en := xor_64A
  go_enter Tryd.func22, Tryd.ntmps22
  go_wp2_with (go_at_call 25; (with_reducible refine HO.out.mono ?_); rintro e w0 ⟨rfl, rfl⟩)
  go_ret
  exact ⟨rfl, rfl⟩
theorem awsq {v : Nat} (hv : v < 18446744073709551616) : wrap64 (v : Int) = sg 64 v := by
  unfold sg wrap64
  rw [show (2 : Int) ^ 64 = 18446744073709551616 by decide, show 2 ^ 64 = 18446744073709551616 by decide]
  split <;> omega
theorem awsi {v : Nat} (hv : v < 18446744073709551616) : wrap64 (sg 64 v) = sg 64 v := by rw [← awsq hv]; unfold wrap64; omega
theorem awsgn {w : World} (v : Nat) (hv : v < 18446744073709551616) : Calls Tryd.prog 36 #[.int .u64 v] w fun e w' => e = .returned (.int .i64 (sg 64 v)) ∧ w = w' := by
  have q := awsq hv
  have q0 := awsi hv
  generalize sg 64 v = x at *
  have HW := Lib.hid (fun W => awwid (w := W))
  go_enter Tryd.func36, Tryd.ntmps36
  go_wp2_with (go_at_call 22; (with_reducible refine (HW.out _).mono ?_); rintro e w0 ⟨rfl, rfl⟩)
  go_ret
  first | exact ⟨rfl, rfl⟩ | exact ⟨congrArg (fun x => Ending.returned (Value.int .i64 x)) q, rfl⟩
theorem awquo {w : World} (v u : Nat) (hv : v < 18446744073709551616) (hu : u < 18446744073709551616) (h0 : u ≠ 0) : Calls Tryd.prog 35 #[.int .u64 v, .int .u64 u] w fun e w' => e = .returned (.tuple #[.int .u64 ((quoN 64 0 v u).1), .int .i64 ((quoN 64 0 v u).2)]) ∧ w = w' := by
  have em := xor_64
  have en := xor_64A
  by_cases hc : v = 9223372036854775808 ∧ u = 18446744073709551615
  · have hr : quoN 64 0 v u = (0, 62) := by unfold quoN; rw [if_neg h0, if_pos rfl, if_pos hc]
    rw [hr]
    have d1 : ((v : Int) == 9223372036854775808) = true := by simp; omega
    have d2 : ((u : Int) == 18446744073709551615) = true := by simp; omega
    clear hr hc
    have HW := Lib.hid (fun W => awwid (w := W))
    go_enter Tryd.func35, Tryd.ntmps35
    go_wp2_with (go_at_call 22; (with_reducible refine (HW.out _).mono ?_); rintro e w0 ⟨rfl, rfl⟩)
    go_ret2
    exact ⟨rfl, rfl⟩
  have hr : quoN 64 0 v u = ((sg 64 v).tdiv (sg 64 u) % 2 ^ 64 |>.toNat, 0) := by unfold quoN; rw [if_neg h0, if_pos rfl, if_neg hc]
  have hz : sg 64 u ≠ 0 := fun h => h0 ((sg_zero (n := 64) hu).1 h)
  rw [hr]
  have q : IntKind.u64.wrap (wrap64 ((sg 64 v).tdiv (sg 64 u))) = ((((sg 64 v).tdiv (sg 64 u) % 2 ^ 64).toNat : Nat) : Int) := by rw [show (2 : Int) ^ 64 = 18446744073709551616 by decide]; rw [IntKind.wrap_u64]; unfold wrap64; omega
  obtain ⟨r, hr2⟩ : ∃ r : Nat, r = ((sg 64 v).tdiv (sg 64 u) % 2 ^ 64).toNat := ⟨_, rfl⟩
  rw [← hr2] at q ⊢
  have HS0 := Lib.hid (fun W => awsgn (w := W) v hv)
  have HS1 := Lib.hid (fun W => awsgn (w := W) u hu)
  clear hr hr2
  generalize sg 64 v = x at *
  generalize sg 64 u = y at *
  have d0 : (y == 0) = false := by simp; omega
  have HW := Lib.hid (fun W => awwid (w := W))
  by_cases hx : v = 9223372036854775808
  · have d1 : ((v : Int) == 9223372036854775808) = true := by simp; omega
    have d2 : ((u : Int) == 18446744073709551615) = false := by simp; omega
    clear hc hx
    go_enter Tryd.func35, Tryd.ntmps35
    go_wp2_with (first | (go_at_call 22; (with_reducible refine (HW.out _).mono ?_); rintro e w0 ⟨rfl, rfl⟩) | (go_at_call 36; (with_reducible refine (HS0.out _).mono ?_); rintro e w0 ⟨rfl, rfl⟩) | (go_at_call 36; (with_reducible refine (HS1.out _).mono ?_); rintro e w0 ⟨rfl, rfl⟩))
    go_ret2
    first | exact ⟨rfl, rfl⟩ | exact ⟨congrArg (fun z => Ending.returned (Value.tuple #[Value.int .u64 z, Value.int .i64 0])) q, rfl⟩
  · have d1 : ((v : Int) == 9223372036854775808) = false := by simp; omega
    clear hc hx
    go_enter Tryd.func35, Tryd.ntmps35
    go_wp2_with (first | (go_at_call 22; (with_reducible refine (HW.out _).mono ?_); rintro e w0 ⟨rfl, rfl⟩) | (go_at_call 36; (with_reducible refine (HS0.out _).mono ?_); rintro e w0 ⟨rfl, rfl⟩) | (go_at_call 36; (with_reducible refine (HS1.out _).mono ?_); rintro e w0 ⟨rfl, rfl⟩))
    go_ret2
    first | exact ⟨rfl, rfl⟩ | exact ⟨congrArg (fun z => Ending.returned (Value.tuple #[Value.int .u64 z, Value.int .i64 0])) q, rfl⟩
theorem awdiv0 {w : World} (v u : Nat) (hv : v < 18446744073709551616) (hu : u < 18446744073709551616) : Calls Tryd.prog 29 #[.int .u8 18, .int .u64 v, .int .u64 u] w fun e w' => e = .returned (.tuple #[.int .u64 ((quoN 64 0 v u).1), .int .i64 ((quoN 64 0 v u).2)]) ∧ w = w' := by
  by_cases h0 : u = 0
  · subst h0
    go_enter Tryd.func29, Tryd.ntmps29
    go_wp2
    go_ret2
    exact ⟨rfl, rfl⟩
  have d0 : ((u : Int) == 0) = false := by simp; omega
  have HQ := Lib.hid (awquo (w := w) v u hv hu h0)
  generalize quoN 64 0 v u = p at *
  go_enter Tryd.func29, Tryd.ntmps29
  go_wp2_with (go_at_call 35; (with_reducible refine HQ.out.mono ?_); rintro e w0 ⟨rfl, rfl⟩)
  go_ret2
  exact ⟨rfl, rfl⟩
theorem awdiv1 {w : World} (v u : Nat) (hv : v < 18446744073709551616) (hu : u < 18446744073709551616) : Calls Tryd.prog 29 #[.int .u8 19, .int .u64 v, .int .u64 u] w fun e w' => e = .returned (.tuple #[.int .u64 ((quoN 64 1 v u).1), .int .i64 ((quoN 64 1 v u).2)]) ∧ w = w' := by
  by_cases h0 : u = 0
  · subst h0
    go_enter Tryd.func29, Tryd.ntmps29
    go_wp2
    go_ret2
    exact ⟨rfl, rfl⟩
  have d0 : ((u : Int) == 0) = false := by simp; omega
  have q : IntKind.u64.wrap ((v : Int) / (u : Int)) = (((quoN 64 1 v u).1 : Nat) : Int) := by
    unfold quoN
    rw [if_neg h0]
    have h := Nat.div_le_self v u
    show _ = ((v / u : Nat) : Int)
    rw [IntKind.wrap_u64, ← Int.natCast_ediv]
    generalize v / u = d at *
    omega
  have q2 : (quoN 64 1 v u).2 = 0 := by unfold quoN; rw [if_neg h0]; rfl
  rw [q2]
  go_enter Tryd.func29, Tryd.ntmps29
  go_wp2
  go_ret2
  first | exact ⟨rfl, rfl⟩ | exact ⟨congrArg (fun z => Ending.returned (Value.tuple #[Value.int .u64 z, Value.int .i64 0])) q, rfl⟩
theorem awdiv2 {w : World} (v u : Nat) (hv : v < 18446744073709551616) (hu : u < 18446744073709551616) : Calls Tryd.prog 29 #[.int .u8 20, .int .u64 v, .int .u64 u] w fun e w' => e = .returned (.tuple #[.int .u64 ((quoN 64 2 v u).1), .int .i64 ((quoN 64 2 v u).2)]) ∧ w = w' := by
  by_cases h0 : u = 0
  · subst h0
    go_enter Tryd.func29, Tryd.ntmps29
    go_wp2
    go_ret2
    exact ⟨rfl, rfl⟩
  have d0 : ((u : Int) == 0) = false := by simp; omega
  have hr : quoN 64 2 v u = ((sg 64 v).tmod (sg 64 u) % 2 ^ 64 |>.toNat, 0) := by unfold quoN; rw [if_neg h0]; rfl
  rw [hr]
  have hz : sg 64 u ≠ 0 := fun h => h0 ((sg_zero (n := 64) hu).1 h)
  have q : IntKind.u64.wrap ((sg 64 v).tmod (sg 64 u)) = ((((sg 64 v).tmod (sg 64 u) % 2 ^ 64).toNat : Nat) : Int) := by rw [show (2 : Int) ^ 64 = 18446744073709551616 by decide, IntKind.wrap_u64]; omega
  obtain ⟨r, hr2⟩ : ∃ r : Nat, r = ((sg 64 v).tmod (sg 64 u) % 2 ^ 64).toNat := ⟨_, rfl⟩
  rw [← hr2] at q ⊢
  have HS0 := Lib.hid (fun W => awsgn (w := W) v hv)
  have HS1 := Lib.hid (fun W => awsgn (w := W) u hu)
  clear hr hr2
  generalize sg 64 v = x at *
  generalize sg 64 u = y at *
  have d1 : (y == 0) = false := by simp; omega
  go_enter Tryd.func29, Tryd.ntmps29
  go_wp2_with (first | (go_at_call 36; (with_reducible refine (HS0.out _).mono ?_); rintro e w0 ⟨rfl, rfl⟩) | (go_at_call 36; (with_reducible refine (HS1.out _).mono ?_); rintro e w0 ⟨rfl, rfl⟩))
  go_ret2
  first | exact ⟨rfl, rfl⟩ | exact ⟨congrArg (fun z => Ending.returned (Value.tuple #[Value.int .u64 z, Value.int .i64 0])) q, rfl⟩
theorem awdiv3 {w : World} (v u : Nat) (hv : v < 18446744073709551616) (hu : u < 18446744073709551616) : Calls Tryd.prog 29 #[.int .u8 21, .int .u64 v, .int .u64 u] w fun e w' => e = .returned (.tuple #[.int .u64 ((quoN 64 3 v u).1), .int .i64 ((quoN 64 3 v u).2)]) ∧ w = w' := by
  by_cases h0 : u = 0
  · subst h0
    go_enter Tryd.func29, Tryd.ntmps29
    go_wp2
    go_ret2
    exact ⟨rfl, rfl⟩
  have d0 : ((u : Int) == 0) = false := by simp; omega
  have q : (v : Int) % (u : Int) = (((quoN 64 3 v u).1 : Nat) : Int) := by
    unfold quoN
    rw [if_neg h0]
    have h := Nat.mod_lt v (show 0 < u by omega)
    show _ = ((v % u : Nat) : Int)
    rw [← Int.natCast_emod]
  have q2 : (quoN 64 3 v u).2 = 0 := by unfold quoN; rw [if_neg h0]; rfl
  rw [q2]
  go_enter Tryd.func29, Tryd.ntmps29
  go_wp2
  go_ret2
  first | exact ⟨rfl, rfl⟩ | exact ⟨congrArg (fun z => Ending.returned (Value.tuple #[Value.int .u64 z, Value.int .i64 0])) q, rfl⟩
theorem awsh0 {w : World} (v u : Nat) (hv : v < 18446744073709551616) (hu : u < 64) : Calls Tryd.prog 30 #[.int .u8 25, .int .u64 v, .int .u64 u] w fun e w' => e = .returned (.int .u64 ((v * 2 ^ u % 18446744073709551616 : Nat))) ∧ w = w' := by
  have q : IntKind.u64.wrap ((v : Int) * 2 ^ u) = ((v * 2 ^ u % 18446744073709551616 : Nat) : Int) := by rw [IntKind.wrap_u64]; rw [Int.natCast_emod, Int.natCast_mul, Int.natCast_pow]; rfl
  go_enter Tryd.func30, Tryd.ntmps30
  go_wp2
  go_ret
  first | exact ⟨rfl, rfl⟩ | exact ⟨congrArg (fun x => Ending.returned (Value.int .u64 x)) q, rfl⟩
theorem awsh1 {w : World} (v u : Nat) (hv : v < 18446744073709551616) (hu : u < 64) : Calls Tryd.prog 30 #[.int .u8 26, .int .u64 v, .int .u64 u] w fun e w' => e = .returned (.int .u64 (((sg 64 v / 2 ^ u % 18446744073709551616).toNat : Nat))) ∧ w = w' := by
  have q : IntKind.u64.wrap (sg 64 v / 2 ^ u) = (((sg 64 v / 2 ^ u % 18446744073709551616).toNat : Nat) : Int) := by rw [IntKind.wrap_u64]; omega
  obtain ⟨r, hr2⟩ : ∃ r : Nat, r = (sg 64 v / 2 ^ u % 18446744073709551616).toNat := ⟨_, rfl⟩
  rw [← hr2] at q ⊢
  have HS0 := Lib.hid (fun W => awsgn (w := W) v hv)
  clear hr2
  generalize sg 64 v = x at *
  go_enter Tryd.func30, Tryd.ntmps30
  go_wp2_with (go_at_call 36; (with_reducible refine (HS0.out _).mono ?_); rintro e w0 ⟨rfl, rfl⟩)
  go_ret
  first | exact ⟨rfl, rfl⟩ | exact ⟨congrArg (fun x => Ending.returned (Value.int .u64 x)) q, rfl⟩
theorem awsh2 {w : World} (v u : Nat) (hv : v < 18446744073709551616) (hu : u < 64) : Calls Tryd.prog 30 #[.int .u8 27, .int .u64 v, .int .u64 u] w fun e w' => e = .returned (.int .u64 ((v / 2 ^ u : Nat))) ∧ w = w' := by
  obtain ⟨r, hr2⟩ : ∃ r : Nat, r = v / 2 ^ u := ⟨_, rfl⟩
  have q : (v : Int) / 2 ^ u = (r : Int) := by rw [hr2, Int.natCast_ediv, Int.natCast_pow]; rfl
  rw [← hr2]
  clear hr2
  go_enter Tryd.func30, Tryd.ntmps30
  go_wp2
  go_ret
  first | exact ⟨rfl, rfl⟩ | exact ⟨congrArg (fun x => Ending.returned (Value.int .u64 x)) q, rfl⟩
theorem awsh3 {w : World} (v u : Nat) (hv : v < 18446744073709551616) (hu : u < 64) : Calls Tryd.prog 30 #[.int .u8 28, .int .u64 v, .int .u64 u] w fun e w' => e = .returned (.int .u64 ((rotN 64 v u : Nat))) ∧ w = w' := by
  have e3 : IntKind.u64.wrap (64 - (u : Int)) = ((64 - u : Nat) : Int) := by rw [IntKind.wrap_u64]; omega
  have q : bits .or .u64 (IntKind.u64.wrap ((v : Int) * 2 ^ u)) ((v : Int) / 2 ^ (64 - u)) = ((rotN 64 v u : Nat) : Int) := by
    have h := or_rot (n := 64) (v := v) hv hu
    rw [← h]
    have p1 : v * 2 ^ u % 18446744073709551616 < 18446744073709551616 := Nat.mod_lt _ (by decide)
    have p2 : v / 2 ^ (64 - u) < 18446744073709551616 := Nat.lt_of_le_of_lt (Nat.div_le_self _ _) hv
    rw [← u64_or_nat _ _ p1 p2, IntKind.wrap_u64, Int.natCast_emod, Int.natCast_mul, Int.natCast_ediv, Int.natCast_pow, Int.natCast_pow]
    rfl
  obtain ⟨r, hr2⟩ : ∃ r : Nat, r = rotN 64 v u := ⟨_, rfl⟩
  rw [← hr2] at q ⊢
  clear hr2
  have HW := Lib.hid (fun W => awwid (w := W))
  go_enter Tryd.func30, Tryd.ntmps30
  go_wp2_with (go_at_call 22; (with_reducible refine (HW.out _).mono ?_); rintro e w0 ⟨rfl, rfl⟩)
  go_ret
  first | exact ⟨rfl, rfl⟩ | exact ⟨congrArg (fun x => Ending.returned (Value.int .u64 x)) q, rfl⟩
theorem awsh4 {w : World} (v u : Nat) (hv : v < 18446744073709551616) (hu : u < 64) : Calls Tryd.prog 30 #[.int .u8 29, .int .u64 v, .int .u64 u] w fun e w' => e = .returned (.int .u64 ((rotN 64 v ((64 - u) % 64) : Nat))) ∧ w = w' := by
  have e3 : IntKind.u64.wrap (64 - (u : Int)) = ((64 - u : Nat) : Int) := by rw [IntKind.wrap_u64]; omega
  have q : bits .or .u64 ((v : Int) / 2 ^ u) (IntKind.u64.wrap ((v : Int) * 2 ^ (64 - u))) = ((rotN 64 v ((64 - u) % 64) : Nat) : Int) := by
    have h := or_rotr (n := 64) (v := v) hv hu
    rw [← h]
    have p1 : v * 2 ^ (64 - u) % 18446744073709551616 < 18446744073709551616 := Nat.mod_lt _ (by decide)
    have p2 : v / 2 ^ u < 18446744073709551616 := Nat.lt_of_le_of_lt (Nat.div_le_self _ _) hv
    rw [← u64_or_nat _ _ p2 p1, IntKind.wrap_u64, Int.natCast_emod, Int.natCast_mul, Int.natCast_ediv, Int.natCast_pow, Int.natCast_pow]
    rfl
  obtain ⟨r, hr2⟩ : ∃ r : Nat, r = rotN 64 v ((64 - u) % 64) := ⟨_, rfl⟩
  rw [← hr2] at q ⊢
  clear hr2
  have HW := Lib.hid (fun W => awwid (w := W))
  go_enter Tryd.func30, Tryd.ntmps30
  go_wp2_with (go_at_call 22; (with_reducible refine (HW.out _).mono ?_); rintro e w0 ⟨rfl, rfl⟩)
  go_ret
  first | exact ⟨rfl, rfl⟩ | exact ⟨congrArg (fun x => Ending.returned (Value.int .u64 x)) q, rfl⟩
end Go.Proofs.YtjgdfajooccalaaDoor

/- Package arith at 64 bits: compare, as plain functions of numbers. (By gen/genAr.py.) -/
namespace Go.Proofs.YtjgdfajooccalaaDoor
open Go.RowKit
set_option linter.unusedVariables false
set_option maxRecDepth 100000
theorem awcmp0 {w : World} (v u : Nat) (hv : v < 18446744073709551616) (hu : u < 18446744073709551616) : Calls Tryd.prog 31 #[.int .u8 2, .int .u64 v, .int .u64 u] w fun e w' => e = .returned (.tuple #[.int .u64 (((cmpN 64 0 v u).toNat : Nat)), .int .i64 (0)]) ∧ w = w' := by
  obtain ⟨d, hd⟩ : ∃ d, d = cmpN 64 0 v u := ⟨_, rfl⟩
  rw [← hd]
  have hd2 : ((v : Int) == (u : Int)) = d := by rw [hd, int_beq]; rfl
  clear hd
  have HT := Lib.hid (awtruth d w)
  go_enter Tryd.func31, Tryd.ntmps31
  go_wp2_with (go_at_call 21; (with_reducible refine HT.out.mono ?_); rintro e w0 ⟨rfl, rfl⟩)
  go_ret2
  exact ⟨rfl, rfl⟩
theorem awcmp1 {w : World} (v u : Nat) (hv : v < 18446744073709551616) (hu : u < 18446744073709551616) : Calls Tryd.prog 31 #[.int .u8 3, .int .u64 v, .int .u64 u] w fun e w' => e = .returned (.tuple #[.int .u64 (((cmpN 64 1 v u).toNat : Nat)), .int .i64 (0)]) ∧ w = w' := by
  obtain ⟨d, hd⟩ : ∃ d, d = cmpN 64 1 v u := ⟨_, rfl⟩
  rw [← hd]
  have hd2 : ((v : Int) != (u : Int)) = d := by rw [hd, bne, int_beq]; rfl
  clear hd
  have HT := Lib.hid (awtruth d w)
  go_enter Tryd.func31, Tryd.ntmps31
  go_wp2_with (go_at_call 21; (with_reducible refine HT.out.mono ?_); rintro e w0 ⟨rfl, rfl⟩)
  go_ret2
  exact ⟨rfl, rfl⟩
theorem awcmp2 {w : World} (v u : Nat) (hv : v < 18446744073709551616) (hu : u < 18446744073709551616) : Calls Tryd.prog 31 #[.int .u8 4, .int .u64 v, .int .u64 u] w fun e w' => e = .returned (.tuple #[.int .u64 (((cmpN 64 2 v u).toNat : Nat)), .int .i64 (0)]) ∧ w = w' := by
  obtain ⟨d, hd⟩ : ∃ d, d = cmpN 64 2 v u := ⟨_, rfl⟩
  rw [← hd]
  have hd2 : decide (sg 64 v < sg 64 u) = d := by rw [hd]; rfl
  clear hd
  have HS0 := Lib.hid (fun W => awsgn (w := W) v hv)
  have HS1 := Lib.hid (fun W => awsgn (w := W) u hu)
  generalize sg 64 v = x at *
  generalize sg 64 u = y at *
  have HT := Lib.hid (awtruth d w)
  go_enter Tryd.func31, Tryd.ntmps31
  go_wp2_with (first | (go_at_call 36; (with_reducible refine (HS0.out _).mono ?_); rintro e w0 ⟨rfl, rfl⟩) | (go_at_call 36; (with_reducible refine (HS1.out _).mono ?_); rintro e w0 ⟨rfl, rfl⟩) | (go_at_call 21; (with_reducible refine HT.out.mono ?_); rintro e w0 ⟨rfl, rfl⟩))
  go_ret2
  exact ⟨rfl, rfl⟩
theorem awcmp3 {w : World} (v u : Nat) (hv : v < 18446744073709551616) (hu : u < 18446744073709551616) : Calls Tryd.prog 31 #[.int .u8 5, .int .u64 v, .int .u64 u] w fun e w' => e = .returned (.tuple #[.int .u64 (((cmpN 64 3 v u).toNat : Nat)), .int .i64 (0)]) ∧ w = w' := by
  obtain ⟨d, hd⟩ : ∃ d, d = cmpN 64 3 v u := ⟨_, rfl⟩
  rw [← hd]
  have hd2 : decide (v < u) = d := by rw [hd]; rfl
  clear hd
  have HT := Lib.hid (awtruth d w)
  go_enter Tryd.func31, Tryd.ntmps31
  go_wp2_with (go_at_call 21; (with_reducible refine HT.out.mono ?_); rintro e w0 ⟨rfl, rfl⟩)
  go_ret2
  exact ⟨rfl, rfl⟩
theorem awcmp4 {w : World} (v u : Nat) (hv : v < 18446744073709551616) (hu : u < 18446744073709551616) : Calls Tryd.prog 31 #[.int .u8 6, .int .u64 v, .int .u64 u] w fun e w' => e = .returned (.tuple #[.int .u64 (((cmpN 64 4 v u).toNat : Nat)), .int .i64 (0)]) ∧ w = w' := by
  obtain ⟨d, hd⟩ : ∃ d, d = cmpN 64 4 v u := ⟨_, rfl⟩
  rw [← hd]
  have hd2 : decide (sg 64 v > sg 64 u) = d := by rw [hd]; rfl
  clear hd
  have HS0 := Lib.hid (fun W => awsgn (w := W) v hv)
  have HS1 := Lib.hid (fun W => awsgn (w := W) u hu)
  generalize sg 64 v = x at *
  generalize sg 64 u = y at *
  have HT := Lib.hid (awtruth d w)
  go_enter Tryd.func31, Tryd.ntmps31
  go_wp2_with (first | (go_at_call 36; (with_reducible refine (HS0.out _).mono ?_); rintro e w0 ⟨rfl, rfl⟩) | (go_at_call 36; (with_reducible refine (HS1.out _).mono ?_); rintro e w0 ⟨rfl, rfl⟩) | (go_at_call 21; (with_reducible refine HT.out.mono ?_); rintro e w0 ⟨rfl, rfl⟩))
  go_ret2
  exact ⟨rfl, rfl⟩
theorem awcmp5 {w : World} (v u : Nat) (hv : v < 18446744073709551616) (hu : u < 18446744073709551616) : Calls Tryd.prog 31 #[.int .u8 7, .int .u64 v, .int .u64 u] w fun e w' => e = .returned (.tuple #[.int .u64 (((cmpN 64 5 v u).toNat : Nat)), .int .i64 (0)]) ∧ w = w' := by
  obtain ⟨d, hd⟩ : ∃ d, d = cmpN 64 5 v u := ⟨_, rfl⟩
  rw [← hd]
  have hd2 : decide (v > u) = d := by rw [hd]; rfl
  clear hd
  have HT := Lib.hid (awtruth d w)
  go_enter Tryd.func31, Tryd.ntmps31
  go_wp2_with (go_at_call 21; (with_reducible refine HT.out.mono ?_); rintro e w0 ⟨rfl, rfl⟩)
  go_ret2
  exact ⟨rfl, rfl⟩
theorem awcmp6 {w : World} (v u : Nat) (hv : v < 18446744073709551616) (hu : u < 18446744073709551616) : Calls Tryd.prog 31 #[.int .u8 8, .int .u64 v, .int .u64 u] w fun e w' => e = .returned (.tuple #[.int .u64 (((cmpN 64 6 v u).toNat : Nat)), .int .i64 (0)]) ∧ w = w' := by
  obtain ⟨d, hd⟩ : ∃ d, d = cmpN 64 6 v u := ⟨_, rfl⟩
  rw [← hd]
  have hd2 : decide (sg 64 v ≤ sg 64 u) = d := by rw [hd]; rfl
  clear hd
  have HS0 := Lib.hid (fun W => awsgn (w := W) v hv)
  have HS1 := Lib.hid (fun W => awsgn (w := W) u hu)
  generalize sg 64 v = x at *
  generalize sg 64 u = y at *
  have HT := Lib.hid (awtruth d w)
  go_enter Tryd.func31, Tryd.ntmps31
  go_wp2_with (first | (go_at_call 36; (with_reducible refine (HS0.out _).mono ?_); rintro e w0 ⟨rfl, rfl⟩) | (go_at_call 36; (with_reducible refine (HS1.out _).mono ?_); rintro e w0 ⟨rfl, rfl⟩) | (go_at_call 21; (with_reducible refine HT.out.mono ?_); rintro e w0 ⟨rfl, rfl⟩))
  go_ret2
  exact ⟨rfl, rfl⟩
theorem awcmp7 {w : World} (v u : Nat) (hv : v < 18446744073709551616) (hu : u < 18446744073709551616) : Calls Tryd.prog 31 #[.int .u8 9, .int .u64 v, .int .u64 u] w fun e w' => e = .returned (.tuple #[.int .u64 (((cmpN 64 7 v u).toNat : Nat)), .int .i64 (0)]) ∧ w = w' := by
  obtain ⟨d, hd⟩ : ∃ d, d = cmpN 64 7 v u := ⟨_, rfl⟩
  rw [← hd]
  have hd2 : decide (v ≤ u) = d := by rw [hd]; rfl
  clear hd
  have HT := Lib.hid (awtruth d w)
  go_enter Tryd.func31, Tryd.ntmps31
  go_wp2_with (go_at_call 21; (with_reducible refine HT.out.mono ?_); rintro e w0 ⟨rfl, rfl⟩)
  go_ret2
  exact ⟨rfl, rfl⟩
theorem awcmp8 {w : World} (v u : Nat) (hv : v < 18446744073709551616) (hu : u < 18446744073709551616) : Calls Tryd.prog 31 #[.int .u8 10, .int .u64 v, .int .u64 u] w fun e w' => e = .returned (.tuple #[.int .u64 (((cmpN 64 8 v u).toNat : Nat)), .int .i64 (0)]) ∧ w = w' := by
  obtain ⟨d, hd⟩ : ∃ d, d = cmpN 64 8 v u := ⟨_, rfl⟩
  rw [← hd]
  have hd2 : decide (sg 64 v ≥ sg 64 u) = d := by rw [hd]; rfl
  clear hd
  have HS0 := Lib.hid (fun W => awsgn (w := W) v hv)
  have HS1 := Lib.hid (fun W => awsgn (w := W) u hu)
  generalize sg 64 v = x at *
  generalize sg 64 u = y at *
  have HT := Lib.hid (awtruth d w)
  go_enter Tryd.func31, Tryd.ntmps31
  go_wp2_with (first | (go_at_call 36; (with_reducible refine (HS0.out _).mono ?_); rintro e w0 ⟨rfl, rfl⟩) | (go_at_call 36; (with_reducible refine (HS1.out _).mono ?_); rintro e w0 ⟨rfl, rfl⟩) | (go_at_call 21; (with_reducible refine HT.out.mono ?_); rintro e w0 ⟨rfl, rfl⟩))
  go_ret2
  exact ⟨rfl, rfl⟩
theorem awcmp9 {w : World} (v u : Nat) (hv : v < 18446744073709551616) (hu : u < 18446744073709551616) : Calls Tryd.prog 31 #[.int .u8 11, .int .u64 v, .int .u64 u] w fun e w' => e = .returned (.tuple #[.int .u64 (((cmpN 64 9 v u).toNat : Nat)), .int .i64 (0)]) ∧ w = w' := by
  obtain ⟨d, hd⟩ : ∃ d, d = cmpN 64 9 v u := ⟨_, rfl⟩
  rw [← hd]
  have hd2 : decide (v ≥ u) = d := by rw [hd]; rfl
  clear hd
  have HT := Lib.hid (awtruth d w)
  go_enter Tryd.func31, Tryd.ntmps31
  go_wp2_with (go_at_call 21; (with_reducible refine HT.out.mono ?_); rintro e w0 ⟨rfl, rfl⟩)
  go_ret2
  exact ⟨rfl, rfl⟩
theorem awcmpNot {w : World} (op : Int) (v u : Nat) (hv : v < 18446744073709551616) (hu : u < 18446744073709551616) (h : op < 2 ∨ 11 < op) : Calls Tryd.prog 31 #[.int .u8 op, .int .u64 v, .int .u64 u] w fun e w' => e = .returned (.tuple #[.int .u64 (0), .int .i64 (9)]) ∧ w = w' := by
  have d0 : (op == 2) = false := by simp; omega
  have d1 : (op == 3) = false := by simp; omega
  have d2 : (op == 4) = false := by simp; omega
  have d3 : (op == 5) = false := by simp; omega
  have d4 : (op == 6) = false := by simp; omega
  have d5 : (op == 7) = false := by simp; omega
  have d6 : (op == 8) = false := by simp; omega
  have d7 : (op == 9) = false := by simp; omega
  have d8 : (op == 10) = false := by simp; omega
  have d9 : (op == 11) = false := by simp; omega
  clear h
  go_enter Tryd.func31, Tryd.ntmps31
  go_wp2
  go_ret2
  exact ⟨rfl, rfl⟩
end Go.Proofs.YtjgdfajooccalaaDoor
