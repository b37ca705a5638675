/- Package arith at 32 bits: width, signed, quotient, divide, shift, as plain functions of numbers. (By gen/genAr.py.) -/
import Derived.Test.YtjgdfajooccalaaDoorZb02
import Derived.Deep.QuietTactic
import Derived.Deep.CutBlock
import Derived.Deep.DeepCutAuto
import Derived.WalkLawsBesides
import Derived.BigQuiet
import Derived.LoopTactic
import Derived.Deep.DeepMust
namespace Go.Proofs.YtjgdfajooccalaaDoor
open Go.RowKit
set_option linter.unusedVariables false
set_option maxRecDepth 100000
theorem artruth (b : Bool) (w : World) : Calls Tryd.prog 27 #[.bool b] w fun e w' => e = .returned (.int .u32 ((b.toNat : Nat))) ∧ w = w' := by
  cases b
  · go_enter Tryd.func27, Tryd.ntmps27
    go_wp2
    go_ret
    exact ⟨rfl, rfl⟩
  · go_enter Tryd.func27, Tryd.ntmps27
    go_wp2
    go_ret
    exact ⟨rfl, rfl⟩
theorem arwid {w : World} : Calls Tryd.prog 28 #[] w fun e w' => e = .returned (.int .u32 (32)) ∧ w = w' := by
  have HO := Lib.hid (ones_32 (w := w))
  have em := xor_32
  have en := xor_32A
  go_enter Tryd.func28, Tryd.ntmps28
  go_wp2_with (go_at_call 25; (with_reducible refine HO.out.mono ?_); rintro e w0 ⟨rfl, rfl⟩)
  go_ret
  exact ⟨rfl, rfl⟩
theorem arsq {v : Nat} (hv : v < 4294967296) : wrap64 ((v : Int) * 2 ^ 32) / 2 ^ 32 = sg 32 v := by
  unfold sg wrap64
  rw [show (2 : Int) ^ 32 = 4294967296 by decide, show 2 ^ 32 = 4294967296 by decide]
  split <;> omega
theorem arsgn {w : World} (v : Nat) (hv : v < 4294967296) : Calls Tryd.prog 38 #[.int .u32 v] w fun e w' => e = .returned (.int .i64 (sg 32 v)) ∧ w = w' := by
  have q := arsq hv
  have q0 : wrap64 (v : Int) = v := by unfold wrap64; omega
  generalize sg 32 v = x at *
  have HW := Lib.hid (fun W => arwid (w := W))
  go_enter Tryd.func38, Tryd.ntmps38
  go_wp2_with (go_at_call 28; (with_reducible refine (HW.out _).mono ?_); rintro e w0 ⟨rfl, rfl⟩)
  go_ret
  first | exact ⟨rfl, rfl⟩ | exact ⟨congrArg (fun x => Ending.returned (Value.int .i64 x)) q, rfl⟩
theorem arquo {w : World} (v u : Nat) (hv : v < 4294967296) (hu : u < 4294967296) (h0 : u ≠ 0) : Calls Tryd.prog 37 #[.int .u32 v, .int .u32 u] w fun e w' => e = .returned (.tuple #[.int .u32 ((quoN 32 0 v u).1), .int .i64 ((quoN 32 0 v u).2)]) ∧ w = w' := by
  have em := xor_32
  have en := xor_32A
  by_cases hc : v = 2147483648 ∧ u = 4294967295
  · have hr : quoN 32 0 v u = (0, 62) := by unfold quoN; rw [if_neg h0, if_pos rfl, if_pos hc]
    rw [hr]
    have d1 : ((v : Int) == 2147483648) = true := by simp; omega
    have d2 : ((u : Int) == 4294967295) = true := by simp; omega
    clear hr hc
    have HW := Lib.hid (fun W => arwid (w := W))
    go_enter Tryd.func37, Tryd.ntmps37
    go_wp2_with (go_at_call 28; (with_reducible refine (HW.out _).mono ?_); rintro e w0 ⟨rfl, rfl⟩)
    go_ret2
    exact ⟨rfl, rfl⟩
  have hr : quoN 32 0 v u = ((sg 32 v).tdiv (sg 32 u) % 2 ^ 32 |>.toNat, 0) := by unfold quoN; rw [if_neg h0, if_pos rfl, if_neg hc]
  have hz : sg 32 u ≠ 0 := fun h => h0 ((sg_zero (n := 32) hu).1 h)
  rw [hr]
  have q : (wrap64 ((sg 32 v).tdiv (sg 32 u))) % 4294967296 = ((((sg 32 v).tdiv (sg 32 u) % 2 ^ 32).toNat : Nat) : Int) := by rw [show (2 : Int) ^ 32 = 4294967296 by decide]; unfold wrap64; omega
  obtain ⟨r, hr2⟩ : ∃ r : Nat, r = ((sg 32 v).tdiv (sg 32 u) % 2 ^ 32).toNat := ⟨_, rfl⟩
  rw [← hr2] at q ⊢
  have HS0 := Lib.hid (fun W => arsgn (w := W) v hv)
  have HS1 := Lib.hid (fun W => arsgn (w := W) u hu)
  clear hr hr2
  generalize sg 32 v = x at *
  generalize sg 32 u = y at *
  have d0 : (y == 0) = false := by simp; omega
  have HW := Lib.hid (fun W => arwid (w := W))
  by_cases hx : v = 2147483648
  · have d1 : ((v : Int) == 2147483648) = true := by simp; omega
    have d2 : ((u : Int) == 4294967295) = false := by simp; omega
    clear hc hx
    go_enter Tryd.func37, Tryd.ntmps37
    go_wp2_with (first | (go_at_call 28; (with_reducible refine (HW.out _).mono ?_); rintro e w0 ⟨rfl, rfl⟩) | (go_at_call 38; (with_reducible refine (HS0.out _).mono ?_); rintro e w0 ⟨rfl, rfl⟩) | (go_at_call 38; (with_reducible refine (HS1.out _).mono ?_); rintro e w0 ⟨rfl, rfl⟩))
    go_ret2
    first | exact ⟨rfl, rfl⟩ | exact ⟨congrArg (fun z => Ending.returned (Value.tuple #[Value.int .u32 z, Value.int .i64 0])) q, rfl⟩
  · have d1 : ((v : Int) == 2147483648) = false := by simp; omega
    clear hc hx
    go_enter Tryd.func37, Tryd.ntmps37
    go_wp2_with (first | (go_at_call 28; (with_reducible refine (HW.out _).mono ?_); rintro e w0 ⟨rfl, rfl⟩) | (go_at_call 38; (with_reducible refine (HS0.out _).mono ?_); rintro e w0 ⟨rfl, rfl⟩) | (go_at_call 38; (with_reducible refine (HS1.out _).mono ?_); rintro e w0 ⟨rfl, rfl⟩))
    go_ret2
    first | exact ⟨rfl, rfl⟩ | exact ⟨congrArg (fun z => Ending.returned (Value.tuple #[Value.int .u32 z, Value.int .i64 0])) q, rfl⟩
theorem ardiv0 {w : World} (v u : Nat) (hv : v < 4294967296) (hu : u < 4294967296) : Calls Tryd.prog 32 #[.int .u8 18, .int .u32 v, .int .u32 u] w fun e w' => e = .returned (.tuple #[.int .u32 ((quoN 32 0 v u).1), .int .i64 ((quoN 32 0 v u).2)]) ∧ w = w' := by
  by_cases h0 : u = 0
  · subst h0
    go_enter Tryd.func32, Tryd.ntmps32
    go_wp2
    go_ret2
    exact ⟨rfl, rfl⟩
  have d0 : ((u : Int) == 0) = false := by simp; omega
  have HQ := Lib.hid (arquo (w := w) v u hv hu h0)
  generalize quoN 32 0 v u = p at *
  go_enter Tryd.func32, Tryd.ntmps32
  go_wp2_with (go_at_call 37; (with_reducible refine HQ.out.mono ?_); rintro e w0 ⟨rfl, rfl⟩)
  go_ret2
  exact ⟨rfl, rfl⟩
theorem ardiv1 {w : World} (v u : Nat) (hv : v < 4294967296) (hu : u < 4294967296) : Calls Tryd.prog 32 #[.int .u8 19, .int .u32 v, .int .u32 u] w fun e w' => e = .returned (.tuple #[.int .u32 ((quoN 32 1 v u).1), .int .i64 ((quoN 32 1 v u).2)]) ∧ w = w' := by
  by_cases h0 : u = 0
  · subst h0
    go_enter Tryd.func32, Tryd.ntmps32
    go_wp2
    go_ret2
    exact ⟨rfl, rfl⟩
  have d0 : ((u : Int) == 0) = false := by simp; omega
  have q : ((v : Int) / (u : Int)) % 4294967296 = (((quoN 32 1 v u).1 : Nat) : Int) := by
    unfold quoN
    rw [if_neg h0]
    have h := Nat.div_le_self v u
    show _ = ((v / u : Nat) : Int)
    rw [← Int.natCast_ediv]
    generalize v / u = d at *
    omega
  have q2 : (quoN 32 1 v u).2 = 0 := by unfold quoN; rw [if_neg h0]; rfl
  rw [q2]
  go_enter Tryd.func32, Tryd.ntmps32
  go_wp2
  go_ret2
  first | exact ⟨rfl, rfl⟩ | exact ⟨congrArg (fun z => Ending.returned (Value.tuple #[Value.int .u32 z, Value.int .i64 0])) q, rfl⟩
theorem ardiv2 {w : World} (v u : Nat) (hv : v < 4294967296) (hu : u < 4294967296) : Calls Tryd.prog 32 #[.int .u8 20, .int .u32 v, .int .u32 u] w fun e w' => e = .returned (.tuple #[.int .u32 ((quoN 32 2 v u).1), .int .i64 ((quoN 32 2 v u).2)]) ∧ w = w' := by
  by_cases h0 : u = 0
  · subst h0
    go_enter Tryd.func32, Tryd.ntmps32
    go_wp2
    go_ret2
    exact ⟨rfl, rfl⟩
  have d0 : ((u : Int) == 0) = false := by simp; omega
  have hr : quoN 32 2 v u = ((sg 32 v).tmod (sg 32 u) % 2 ^ 32 |>.toNat, 0) := by unfold quoN; rw [if_neg h0]; rfl
  rw [hr]
  have hz : sg 32 u ≠ 0 := fun h => h0 ((sg_zero (n := 32) hu).1 h)
  have q : ((sg 32 v).tmod (sg 32 u)) % 4294967296 = ((((sg 32 v).tmod (sg 32 u) % 2 ^ 32).toNat : Nat) : Int) := by rw [show (2 : Int) ^ 32 = 4294967296 by decide]; omega
  obtain ⟨r, hr2⟩ : ∃ r : Nat, r = ((sg 32 v).tmod (sg 32 u) % 2 ^ 32).toNat := ⟨_, rfl⟩
  rw [← hr2] at q ⊢
  have HS0 := Lib.hid (fun W => arsgn (w := W) v hv)
  have HS1 := Lib.hid (fun W => arsgn (w := W) u hu)
  clear hr hr2
  generalize sg 32 v = x at *
  generalize sg 32 u = y at *
  have d1 : (y == 0) = false := by simp; omega
  go_enter Tryd.func32, Tryd.ntmps32
  go_wp2_with (first | (go_at_call 38; (with_reducible refine (HS0.out _).mono ?_); rintro e w0 ⟨rfl, rfl⟩) | (go_at_call 38; (with_reducible refine (HS1.out _).mono ?_); rintro e w0 ⟨rfl, rfl⟩))
  go_ret2
  first | exact ⟨rfl, rfl⟩ | exact ⟨congrArg (fun z => Ending.returned (Value.tuple #[Value.int .u32 z, Value.int .i64 0])) q, rfl⟩
theorem ardiv3 {w : World} (v u : Nat) (hv : v < 4294967296) (hu : u < 4294967296) : Calls Tryd.prog 32 #[.int .u8 21, .int .u32 v, .int .u32 u] w fun e w' => e = .returned (.tuple #[.int .u32 ((quoN 32 3 v u).1), .int .i64 ((quoN 32 3 v u).2)]) ∧ w = w' := by
  by_cases h0 : u = 0
  · subst h0
    go_enter Tryd.func32, Tryd.ntmps32
    go_wp2
    go_ret2
    exact ⟨rfl, rfl⟩
  have d0 : ((u : Int) == 0) = false := by simp; omega
  have q : (v : Int) % (u : Int) = (((quoN 32 3 v u).1 : Nat) : Int) := by
    unfold quoN
    rw [if_neg h0]
    have h := Nat.mod_lt v (show 0 < u by omega)
    show _ = ((v % u : Nat) : Int)
    rw [← Int.natCast_emod]
  have q2 : (quoN 32 3 v u).2 = 0 := by unfold quoN; rw [if_neg h0]; rfl
  rw [q2]
  go_enter Tryd.func32, Tryd.ntmps32
  go_wp2
  go_ret2
  first | exact ⟨rfl, rfl⟩ | exact ⟨congrArg (fun z => Ending.returned (Value.tuple #[Value.int .u32 z, Value.int .i64 0])) q, rfl⟩
theorem arsh0 {w : World} (v u : Nat) (hv : v < 4294967296) (hu : u < 32) : Calls Tryd.prog 33 #[.int .u8 25, .int .u32 v, .int .u32 u] w fun e w' => e = .returned (.int .u32 ((v * 2 ^ u % 4294967296 : Nat))) ∧ w = w' := by
  have q : ((v : Int) * 2 ^ u) % 4294967296 = ((v * 2 ^ u % 4294967296 : Nat) : Int) := by rw [Int.natCast_emod, Int.natCast_mul, Int.natCast_pow]; rfl
  go_enter Tryd.func33, Tryd.ntmps33
  go_wp2
  go_ret
  first | exact ⟨rfl, rfl⟩ | exact ⟨congrArg (fun x => Ending.returned (Value.int .u32 x)) q, rfl⟩
theorem arsh1 {w : World} (v u : Nat) (hv : v < 4294967296) (hu : u < 32) : Calls Tryd.prog 33 #[.int .u8 26, .int .u32 v, .int .u32 u] w fun e w' => e = .returned (.int .u32 (((sg 32 v / 2 ^ u % 4294967296).toNat : Nat))) ∧ w = w' := by
  have q : (sg 32 v / 2 ^ u) % 4294967296 = (((sg 32 v / 2 ^ u % 4294967296).toNat : Nat) : Int) := by omega
  obtain ⟨r, hr2⟩ : ∃ r : Nat, r = (sg 32 v / 2 ^ u % 4294967296).toNat := ⟨_, rfl⟩
  rw [← hr2] at q ⊢
  have HS0 := Lib.hid (fun W => arsgn (w := W) v hv)
  clear hr2
  generalize sg 32 v = x at *
  go_enter Tryd.func33, Tryd.ntmps33
  go_wp2_with (go_at_call 38; (with_reducible refine (HS0.out _).mono ?_); rintro e w0 ⟨rfl, rfl⟩)
  go_ret
  first | exact ⟨rfl, rfl⟩ | exact ⟨congrArg (fun x => Ending.returned (Value.int .u32 x)) q, rfl⟩
theorem arsh2 {w : World} (v u : Nat) (hv : v < 4294967296) (hu : u < 32) : Calls Tryd.prog 33 #[.int .u8 27, .int .u32 v, .int .u32 u] w fun e w' => e = .returned (.int .u32 ((v / 2 ^ u : Nat))) ∧ w = w' := by
  obtain ⟨r, hr2⟩ : ∃ r : Nat, r = v / 2 ^ u := ⟨_, rfl⟩
  have q : (v : Int) / 2 ^ u = (r : Int) := by rw [hr2, Int.natCast_ediv, Int.natCast_pow]; rfl
  rw [← hr2]
  clear hr2
  go_enter Tryd.func33, Tryd.ntmps33
  go_wp2
  go_ret
  first | exact ⟨rfl, rfl⟩ | exact ⟨congrArg (fun x => Ending.returned (Value.int .u32 x)) q, rfl⟩
theorem arsh3 {w : World} (v u : Nat) (hv : v < 4294967296) (hu : u < 32) : Calls Tryd.prog 33 #[.int .u8 28, .int .u32 v, .int .u32 u] w fun e w' => e = .returned (.int .u32 ((rotN 32 v u : Nat))) ∧ w = w' := by
  have e3 : (32 - (u : Int)) % 4294967296 = ((32 - u : Nat) : Int) := by omega
  have q : bits .or .u32 (((v : Int) * 2 ^ u) % 4294967296) ((v : Int) / 2 ^ (32 - u)) = ((rotN 32 v u : Nat) : Int) := by
    have h := or_rot (n := 32) (v := v) hv hu
    rw [← h]
    have p1 : v * 2 ^ u % 4294967296 < 4294967296 := Nat.mod_lt _ (by decide)
    have p2 : v / 2 ^ (32 - u) < 4294967296 := Nat.lt_of_le_of_lt (Nat.div_le_self _ _) hv
    rw [← u32_or_nat _ _ p1 p2, Int.natCast_emod, Int.natCast_mul, Int.natCast_ediv, Int.natCast_pow, Int.natCast_pow]
    rfl
  obtain ⟨r, hr2⟩ : ∃ r : Nat, r = rotN 32 v u := ⟨_, rfl⟩
  rw [← hr2] at q ⊢
  clear hr2
  have HW := Lib.hid (fun W => arwid (w := W))
  go_enter Tryd.func33, Tryd.ntmps33
  go_wp2_with (go_at_call 28; (with_reducible refine (HW.out _).mono ?_); rintro e w0 ⟨rfl, rfl⟩)
  go_ret
  first | exact ⟨rfl, rfl⟩ | exact ⟨congrArg (fun x => Ending.returned (Value.int .u32 x)) q, rfl⟩
theorem arsh4 {w : World} (v u : Nat) (hv : v < 4294967296) (hu : u < 32) : Calls Tryd.prog 33 #[.int .u8 29, .int .u32 v, .int .u32 u] w fun e w' => e = .returned (.int .u32 ((rotN 32 v ((32 - u) % 32) : Nat))) ∧ w = w' := by
  have e3 : (32 - (u : Int)) % 4294967296 = ((32 - u : Nat) : Int) := by omega
  have q : bits .or .u32 ((v : Int) / 2 ^ u) (((v : Int) * 2 ^ (32 - u)) % 4294967296) = ((rotN 32 v ((32 - u) % 32) : Nat) : Int) := by
    have h := or_rotr (n := 32) (v := v) hv hu
    rw [← h]
    have p1 : v * 2 ^ (32 - u) % 4294967296 < 4294967296 := Nat.mod_lt _ (by decide)
    have p2 : v / 2 ^ u < 4294967296 := Nat.lt_of_le_of_lt (Nat.div_le_self _ _) hv
    rw [← u32_or_nat _ _ p2 p1, Int.natCast_emod, Int.natCast_mul, Int.natCast_ediv, Int.natCast_pow, Int.natCast_pow]
    rfl
  obtain ⟨r, hr2⟩ : ∃ r : Nat, r = rotN 32 v ((32 - u) % 32) := ⟨_, rfl⟩
  rw [← hr2] at q ⊢
  clear hr2
  have HW := Lib.hid (fun W => arwid (w := W))
  go_enter Tryd.func33, Tryd.ntmps33
  go_wp2_with (go_at_call 28; (with_reducible refine (HW.out _).mono ?_); rintro e w0 ⟨rfl, rfl⟩)
  go_ret
  first | exact ⟨rfl, rfl⟩ | exact ⟨congrArg (fun x => Ending.returned (Value.int .u32 x)) q, rfl⟩
end Go.Proofs.YtjgdfajooccalaaDoor

/- Package arith at 32 bits: compare, as plain functions of numbers. (By gen/genAr.py.) -/
namespace Go.Proofs.YtjgdfajooccalaaDoor
open Go.RowKit
set_option linter.unusedVariables false
set_option maxRecDepth 100000
theorem arcmp0 {w : World} (v u : Nat) (hv : v < 4294967296) (hu : u < 4294967296) : Calls Tryd.prog 34 #[.int .u8 2, .int .u32 v, .int .u32 u] w fun e w' => e = .returned (.tuple #[.int .u32 (((cmpN 32 0 v u).toNat : Nat)), .int .i64 (0)]) ∧ w = w' := by
  obtain ⟨d, hd⟩ : ∃ d, d = cmpN 32 0 v u := ⟨_, rfl⟩
  rw [← hd]
  have hd2 : ((v : Int) == (u : Int)) = d := by rw [hd, int_beq]; rfl
  clear hd
  have HT := Lib.hid (artruth d w)
  go_enter Tryd.func34, Tryd.ntmps34
  go_wp2_with (go_at_call 27; (with_reducible refine HT.out.mono ?_); rintro e w0 ⟨rfl, rfl⟩)
  go_ret2
  exact ⟨rfl, rfl⟩
theorem arcmp1 {w : World} (v u : Nat) (hv : v < 4294967296) (hu : u < 4294967296) : Calls Tryd.prog 34 #[.int .u8 3, .int .u32 v, .int .u32 u] w fun e w' => e = .returned (.tuple #[.int .u32 (((cmpN 32 1 v u).toNat : Nat)), .int .i64 (0)]) ∧ w = w' := by
  obtain ⟨d, hd⟩ : ∃ d, d = cmpN 32 1 v u := ⟨_, rfl⟩
  rw [← hd]
  have hd2 : ((v : Int) != (u : Int)) = d := by rw [hd, bne, int_beq]; rfl
  clear hd
  have HT := Lib.hid (artruth d w)
  go_enter Tryd.func34, Tryd.ntmps34
  go_wp2_with (go_at_call 27; (with_reducible refine HT.out.mono ?_); rintro e w0 ⟨rfl, rfl⟩)
  go_ret2
  exact ⟨rfl, rfl⟩
theorem arcmp2 {w : World} (v u : Nat) (hv : v < 4294967296) (hu : u < 4294967296) : Calls Tryd.prog 34 #[.int .u8 4, .int .u32 v, .int .u32 u] w fun e w' => e = .returned (.tuple #[.int .u32 (((cmpN 32 2 v u).toNat : Nat)), .int .i64 (0)]) ∧ w = w' := by
  obtain ⟨d, hd⟩ : ∃ d, d = cmpN 32 2 v u := ⟨_, rfl⟩
  rw [← hd]
  have hd2 : decide (sg 32 v < sg 32 u) = d := by rw [hd]; rfl
  clear hd
  have HS0 := Lib.hid (fun W => arsgn (w := W) v hv)
  have HS1 := Lib.hid (fun W => arsgn (w := W) u hu)
  generalize sg 32 v = x at *
  generalize sg 32 u = y at *
  have HT := Lib.hid (artruth d w)
  go_enter Tryd.func34, Tryd.ntmps34
  go_wp2_with (first | (go_at_call 38; (with_reducible refine (HS0.out _).mono ?_); rintro e w0 ⟨rfl, rfl⟩) | (go_at_call 38; (with_reducible refine (HS1.out _).mono ?_); rintro e w0 ⟨rfl, rfl⟩) | (go_at_call 27; (with_reducible refine HT.out.mono ?_); rintro e w0 ⟨rfl, rfl⟩))
  go_ret2
  exact ⟨rfl, rfl⟩
theorem arcmp3 {w : World} (v u : Nat) (hv : v < 4294967296) (hu : u < 4294967296) : Calls Tryd.prog 34 #[.int .u8 5, .int .u32 v, .int .u32 u] w fun e w' => e = .returned (.tuple #[.int .u32 (((cmpN 32 3 v u).toNat : Nat)), .int .i64 (0)]) ∧ w = w' := by
  obtain ⟨d, hd⟩ : ∃ d, d = cmpN 32 3 v u := ⟨_, rfl⟩
  rw [← hd]
  have hd2 : decide (v < u) = d := by rw [hd]; rfl
  clear hd
  have HT := Lib.hid (artruth d w)
  go_enter Tryd.func34, Tryd.ntmps34
  go_wp2_with (go_at_call 27; (with_reducible refine HT.out.mono ?_); rintro e w0 ⟨rfl, rfl⟩)
  go_ret2
  exact ⟨rfl, rfl⟩
theorem arcmp4 {w : World} (v u : Nat) (hv : v < 4294967296) (hu : u < 4294967296) : Calls Tryd.prog 34 #[.int .u8 6, .int .u32 v, .int .u32 u] w fun e w' => e = .returned (.tuple #[.int .u32 (((cmpN 32 4 v u).toNat : Nat)), .int .i64 (0)]) ∧ w = w' := by
  obtain ⟨d, hd⟩ : ∃ d, d = cmpN 32 4 v u := ⟨_, rfl⟩
  rw [← hd]
  have hd2 : decide (sg 32 v > sg 32 u) = d := by rw [hd]; rfl
  clear hd
  have HS0 := Lib.hid (fun W => arsgn (w := W) v hv)
  have HS1 := Lib.hid (fun W => arsgn (w := W) u hu)
  generalize sg 32 v = x at *
  generalize sg 32 u = y at *
  have HT := Lib.hid (artruth d w)
  go_enter Tryd.func34, Tryd.ntmps34
  go_wp2_with (first | (go_at_call 38; (with_reducible refine (HS0.out _).mono ?_); rintro e w0 ⟨rfl, rfl⟩) | (go_at_call 38; (with_reducible refine (HS1.out _).mono ?_); rintro e w0 ⟨rfl, rfl⟩) | (go_at_call 27; (with_reducible refine HT.out.mono ?_); rintro e w0 ⟨rfl, rfl⟩))
  go_ret2
  exact ⟨rfl, rfl⟩
theorem arcmp5 {w : World} (v u : Nat) (hv : v < 4294967296) (hu : u < 4294967296) : Calls Tryd.prog 34 #[.int .u8 7, .int .u32 v, .int .u32 u] w fun e w' => e = .returned (.tuple #[.int .u32 (((cmpN 32 5 v u).toNat : Nat)), .int .i64 (0)]) ∧ w = w' := by
  obtain ⟨d, hd⟩ : ∃ d, d = cmpN 32 5 v u := ⟨_, rfl⟩
  rw [← hd]
  have hd2 : decide (v > u) = d := by rw [hd]; rfl
  clear hd
  have HT := Lib.hid (artruth d w)
  go_enter Tryd.func34, Tryd.ntmps34
  go_wp2_with (go_at_call 27; (with_reducible refine HT.out.mono ?_); rintro e w0 ⟨rfl, rfl⟩)
  go_ret2
  exact ⟨rfl, rfl⟩
theorem arcmp6 {w : World} (v u : Nat) (hv : v < 4294967296) (hu : u < 4294967296) : Calls Tryd.prog 34 #[.int .u8 8, .int .u32 v, .int .u32 u] w fun e w' => e = .returned (.tuple #[.int .u32 (((cmpN 32 6 v u).toNat : Nat)), .int .i64 (0)]) ∧ w = w' := by
  obtain ⟨d, hd⟩ : ∃ d, d = cmpN 32 6 v u := ⟨_, rfl⟩
  rw [← hd]
  have hd2 : decide (sg 32 v ≤ sg 32 u) = d := by rw [hd]; rfl
  clear hd
  have HS0 := Lib.hid (fun W => arsgn (w := W) v hv)
  have HS1 := Lib.hid (fun W => arsgn (w := W) u hu)
  generalize sg 32 v = x at *
  generalize sg 32 u = y at *
  have HT := Lib.hid (artruth d w)
  go_enter Tryd.func34, Tryd.ntmps34
  go_wp2_with (first | (go_at_call 38; (with_reducible refine (HS0.out _).mono ?_); rintro e w0 ⟨rfl, rfl⟩) | (go_at_call 38; (with_reducible refine (HS1.out _).mono ?_); rintro e w0 ⟨rfl, rfl⟩) | (go_at_call 27; (with_reducible refine HT.out.mono ?_); rintro e w0 ⟨rfl, rfl⟩))
  go_ret2
  exact ⟨rfl, rfl⟩
theorem arcmp7 {w : World} (v u : Nat) (hv : v < 4294967296) (hu : u < 4294967296) : Calls Tryd.prog 34 #[.int .u8 9, .int .u32 v, .int .u32 u] w fun e w' => e = .returned (.tuple #[.int .u32 (((cmpN 32 7 v u).toNat : Nat)), .int .i64 (0)]) ∧ w = w' := by
  obtain ⟨d, hd⟩ : ∃ d, d = cmpN 32 7 v u := ⟨_, rfl⟩
  rw [← hd]
  have hd2 : decide (v ≤ u) = d := by rw [hd]; rfl
  clear hd
  have HT := Lib.hid (artruth d w)
  go_enter Tryd.func34, Tryd.ntmps34
  go_wp2_with (go_at_call 27; (with_reducible refine HT.out.mono ?_); rintro e w0 ⟨rfl, rfl⟩)
  go_ret2
  exact ⟨rfl, rfl⟩
theorem arcmp8 {w : World} (v u : Nat) (hv : v < 4294967296) (hu : u < 4294967296) : Calls Tryd.prog 34 #[.int .u8 10, .int .u32 v, .int .u32 u] w fun e w' => e = .returned (.tuple #[.int .u32 (((cmpN 32 8 v u).toNat : Nat)), .int .i64 (0)]) ∧ w = w' := by
  obtain ⟨d, hd⟩ : ∃ d, d = cmpN 32 8 v u := ⟨_, rfl⟩
  rw [← hd]
  have hd2 : decide (sg 32 v ≥ sg 32 u) = d := by rw [hd]; rfl
  clear hd
  have HS0 := Lib.hid (fun W => arsgn (w := W) v hv)
  have HS1 := Lib.hid (fun W => arsgn (w := W) u hu)
  generalize sg 32 v = x at *
  generalize sg 32 u = y at *
  have HT := Lib.hid (artruth d w)
  go_enter Tryd.func34, Tryd.ntmps34
  go_wp2_with (first | (go_at_call 38; (with_reducible refine (HS0.out _).mono ?_); rintro e w0 ⟨rfl, rfl⟩) | (go_at_call 38; (with_reducible refine (HS1.out _).mono ?_); rintro e w0 ⟨rfl, rfl⟩) | (go_at_call 27; (with_reducible refine HT.out.mono ?_); rintro e w0 ⟨rfl, rfl⟩))
  go_ret2
  exact ⟨rfl, rfl⟩
theorem arcmp9 {w : World} (v u : Nat) (hv : v < 4294967296) (hu : u < 4294967296) : Calls Tryd.prog 34 #[.int .u8 11, .int .u32 v, .int .u32 u] w fun e w' => e = .returned (.tuple #[.int .u32 (((cmpN 32 9 v u).toNat : Nat)), .int .i64 (0)]) ∧ w = w' := by
  obtain ⟨d, hd⟩ : ∃ d, d = cmpN 32 9 v u := ⟨_, rfl⟩
  rw [← hd]
  have hd2 : decide (v ≥ u) = d := by rw [hd]; rfl
  clear hd
  have HT := Lib.hid (artruth d w)
  go_enter Tryd.func34, Tryd.ntmps34
  go_wp2_with (go_at_call 27; (with_reducible refine HT.out.mono ?_); rintro e w0 ⟨rfl, rfl⟩)
  go_ret2
  exact ⟨rfl, rfl⟩
theorem arcmpNot {w : World} (op : Int) (v u : Nat) (hv : v < 4294967296) (hu : u < 4294967296) (h : op < 2 ∨ 11 < op) : Calls Tryd.prog 34 #[.int .u8 op, .int .u32 v, .int .u32 u] w fun e w' => e = .returned (.tuple #[.int .u32 (0), .int .i64 (9)]) ∧ w = w' := by
  have d0 : (op == 2) = false := by simp; omega
  have d1 : (op == 3) = false := by simp; omega
  have d2 : (op == 4) = false := by simp; omega
  have d3 : (op == 5) = false := by simp; omega
  have d4 : (op == 6) = false := by simp; omega
  have d5 : (op == 7) = false := by simp; omega
  have d6 : (op == 8) = false := by simp; omega
  have d7 : (op == 9) = false := by simp; omega
  have d8 : (op == 10) = false := by simp; omega
  have d9 : (op == 11) = false := by simp; omega
  clear h
  go_enter Tryd.func34, Tryd.ntmps34
  go_wp2
  go_ret2
  exact ⟨rfl, rfl⟩
end Go.Proofs.YtjgdfajooccalaaDoor
