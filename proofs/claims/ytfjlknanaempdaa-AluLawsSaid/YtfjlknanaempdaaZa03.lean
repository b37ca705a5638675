/- The program's compare of 32 bits, as plain functions of numbers. (By gen/genAl.py.) -/
import Derived.Test.YtfjlknanaempdaaZa02
import Derived.Deep.QuietTactic
import Derived.Deep.CutBlock
import Derived.Deep.DeepCutAuto
import Derived.WalkLawsBesides
import Derived.BigQuiet
import Derived.LoopTactic
import Derived.Deep.DeepMust
import Derived.Test.YtfjlknanaempdaaZa01
import Derived.Deep.OwnRows
import Derived.OwnWalk
import Derived.Lib.Hide
namespace Go.Proofs.Ytfjlknanaempdaa
open Go.RowKit
set_option linter.unusedVariables false
set_option maxRecDepth 100000
theorem alcmp0 {w : World} (v u : Nat) (hv : v < 4294967296) (hu : u < 4294967296) : Calls Try.prog 11 #[.int .u8 70, .int .u32 v, .int .u32 u] w fun e w' => e = .returned (.tuple #[.int .u32 (((cmpN 32 0 v u).toNat : Nat)), .int .i64 (0)]) ∧ w = w' := by
  obtain ⟨d, hd⟩ : ∃ d, d = cmpN 32 0 v u := ⟨_, rfl⟩
  rw [← hd]
  have hd2 : ((v : Int) == (u : Int)) = d := by rw [hd, int_beq]; rfl
  clear hd
  have HT := Lib.hid (altruth d w)
  go_enter Try.func11, Try.ntmps11
  go_wp2_with (go_at_call 24; (with_reducible refine HT.out.mono ?_); rintro e w0 ⟨rfl, rfl⟩)
  go_ret2
  exact ⟨rfl, rfl⟩
theorem alcmp1 {w : World} (v u : Nat) (hv : v < 4294967296) (hu : u < 4294967296) : Calls Try.prog 11 #[.int .u8 71, .int .u32 v, .int .u32 u] w fun e w' => e = .returned (.tuple #[.int .u32 (((cmpN 32 1 v u).toNat : Nat)), .int .i64 (0)]) ∧ w = w' := by
  obtain ⟨d, hd⟩ : ∃ d, d = cmpN 32 1 v u := ⟨_, rfl⟩
  rw [← hd]
  have hd2 : ((v : Int) != (u : Int)) = d := by rw [hd, bne, int_beq]; rfl
  clear hd
  have HT := Lib.hid (altruth d w)
  go_enter Try.func11, Try.ntmps11
  go_wp2_with (go_at_call 24; (with_reducible refine HT.out.mono ?_); rintro e w0 ⟨rfl, rfl⟩)
  go_ret2
  exact ⟨rfl, rfl⟩
theorem alcmp2 {w : World} (v u : Nat) (hv : v < 4294967296) (hu : u < 4294967296) : Calls Try.prog 11 #[.int .u8 72, .int .u32 v, .int .u32 u] w fun e w' => e = .returned (.tuple #[.int .u32 (((cmpN 32 2 v u).toNat : Nat)), .int .i64 (0)]) ∧ w = w' := by
  have ev := alwr hv
  have eu := alwr hu
  obtain ⟨d, hd⟩ : ∃ d, d = cmpN 32 2 v u := ⟨_, rfl⟩
  rw [← hd]
  have hd2 : decide (sg 32 v < sg 32 u) = d := by rw [hd]; rfl
  clear hd
  generalize sg 32 v = x at *
  generalize sg 32 u = y at *
  have HT := Lib.hid (altruth d w)
  go_enter Try.func11, Try.ntmps11
  go_wp2_with (go_at_call 24; (with_reducible refine HT.out.mono ?_); rintro e w0 ⟨rfl, rfl⟩)
  go_ret2
  exact ⟨rfl, rfl⟩
theorem alcmp3 {w : World} (v u : Nat) (hv : v < 4294967296) (hu : u < 4294967296) : Calls Try.prog 11 #[.int .u8 73, .int .u32 v, .int .u32 u] w fun e w' => e = .returned (.tuple #[.int .u32 (((cmpN 32 3 v u).toNat : Nat)), .int .i64 (0)]) ∧ w = w' := by
  obtain ⟨d, hd⟩ : ∃ d, d = cmpN 32 3 v u := ⟨_, rfl⟩
  rw [← hd]
  have hd2 : decide (v < u) = d := by rw [hd]; rfl
  clear hd
  have HT := Lib.hid (altruth d w)
  go_enter Try.func11, Try.ntmps11
  go_wp2_with (go_at_call 24; (with_reducible refine HT.out.mono ?_); rintro e w0 ⟨rfl, rfl⟩)
  go_ret2
  exact ⟨rfl, rfl⟩
theorem alcmp4 {w : World} (v u : Nat) (hv : v < 4294967296) (hu : u < 4294967296) : Calls Try.prog 11 #[.int .u8 74, .int .u32 v, .int .u32 u] w fun e w' => e = .returned (.tuple #[.int .u32 (((cmpN 32 4 v u).toNat : Nat)), .int .i64 (0)]) ∧ w = w' := by
  have ev := alwr hv
  have eu := alwr hu
  obtain ⟨d, hd⟩ : ∃ d, d = cmpN 32 4 v u := ⟨_, rfl⟩
  rw [← hd]
  have hd2 : decide (sg 32 v > sg 32 u) = d := by rw [hd]; rfl
  clear hd
  generalize sg 32 v = x at *
  generalize sg 32 u = y at *
  have HT := Lib.hid (altruth d w)
  go_enter Try.func11, Try.ntmps11
  go_wp2_with (go_at_call 24; (with_reducible refine HT.out.mono ?_); rintro e w0 ⟨rfl, rfl⟩)
  go_ret2
  exact ⟨rfl, rfl⟩
theorem alcmp5 {w : World} (v u : Nat) (hv : v < 4294967296) (hu : u < 4294967296) : Calls Try.prog 11 #[.int .u8 75, .int .u32 v, .int .u32 u] w fun e w' => e = .returned (.tuple #[.int .u32 (((cmpN 32 5 v u).toNat : Nat)), .int .i64 (0)]) ∧ w = w' := by
  obtain ⟨d, hd⟩ : ∃ d, d = cmpN 32 5 v u := ⟨_, rfl⟩
  rw [← hd]
  have hd2 : decide (v > u) = d := by rw [hd]; rfl
  clear hd
  have HT := Lib.hid (altruth d w)
  go_enter Try.func11, Try.ntmps11
  go_wp2_with (go_at_call 24; (with_reducible refine HT.out.mono ?_); rintro e w0 ⟨rfl, rfl⟩)
  go_ret2
  exact ⟨rfl, rfl⟩
theorem alcmp6 {w : World} (v u : Nat) (hv : v < 4294967296) (hu : u < 4294967296) : Calls Try.prog 11 #[.int .u8 76, .int .u32 v, .int .u32 u] w fun e w' => e = .returned (.tuple #[.int .u32 (((cmpN 32 6 v u).toNat : Nat)), .int .i64 (0)]) ∧ w = w' := by
  have ev := alwr hv
  have eu := alwr hu
  obtain ⟨d, hd⟩ : ∃ d, d = cmpN 32 6 v u := ⟨_, rfl⟩
  rw [← hd]
  have hd2 : decide (sg 32 v ≤ sg 32 u) = d := by rw [hd]; rfl
  clear hd
  generalize sg 32 v = x at *
  generalize sg 32 u = y at *
  have HT := Lib.hid (altruth d w)
  go_enter Try.func11, Try.ntmps11
  go_wp2_with (go_at_call 24; (with_reducible refine HT.out.mono ?_); rintro e w0 ⟨rfl, rfl⟩)
  go_ret2
  exact ⟨rfl, rfl⟩
theorem alcmp7 {w : World} (v u : Nat) (hv : v < 4294967296) (hu : u < 4294967296) : Calls Try.prog 11 #[.int .u8 77, .int .u32 v, .int .u32 u] w fun e w' => e = .returned (.tuple #[.int .u32 (((cmpN 32 7 v u).toNat : Nat)), .int .i64 (0)]) ∧ w = w' := by
  obtain ⟨d, hd⟩ : ∃ d, d = cmpN 32 7 v u := ⟨_, rfl⟩
  rw [← hd]
  have hd2 : decide (v ≤ u) = d := by rw [hd]; rfl
  clear hd
  have HT := Lib.hid (altruth d w)
  go_enter Try.func11, Try.ntmps11
  go_wp2_with (go_at_call 24; (with_reducible refine HT.out.mono ?_); rintro e w0 ⟨rfl, rfl⟩)
  go_ret2
  exact ⟨rfl, rfl⟩
theorem alcmp8 {w : World} (v u : Nat) (hv : v < 4294967296) (hu : u < 4294967296) : Calls Try.prog 11 #[.int .u8 78, .int .u32 v, .int .u32 u] w fun e w' => e = .returned (.tuple #[.int .u32 (((cmpN 32 8 v u).toNat : Nat)), .int .i64 (0)]) ∧ w = w' := by
  have ev := alwr hv
  have eu := alwr hu
  obtain ⟨d, hd⟩ : ∃ d, d = cmpN 32 8 v u := ⟨_, rfl⟩
  rw [← hd]
  have hd2 : decide (sg 32 v ≥ sg 32 u) = d := by rw [hd]; rfl
  clear hd
  generalize sg 32 v = x at *
  generalize sg 32 u = y at *
  have HT := Lib.hid (altruth d w)
  go_enter Try.func11, Try.ntmps11
  go_wp2_with (go_at_call 24; (with_reducible refine HT.out.mono ?_); rintro e w0 ⟨rfl, rfl⟩)
  go_ret2
  exact ⟨rfl, rfl⟩
theorem alcmp9 {w : World} (v u : Nat) (hv : v < 4294967296) (hu : u < 4294967296) : Calls Try.prog 11 #[.int .u8 79, .int .u32 v, .int .u32 u] w fun e w' => e = .returned (.tuple #[.int .u32 (((cmpN 32 9 v u).toNat : Nat)), .int .i64 (0)]) ∧ w = w' := by
  obtain ⟨d, hd⟩ : ∃ d, d = cmpN 32 9 v u := ⟨_, rfl⟩
  rw [← hd]
  have hd2 : decide (v ≥ u) = d := by rw [hd]; rfl
  clear hd
  have HT := Lib.hid (altruth d w)
  go_enter Try.func11, Try.ntmps11
  go_wp2_with (go_at_call 24; (with_reducible refine HT.out.mono ?_); rintro e w0 ⟨rfl, rfl⟩)
  go_ret2
  exact ⟨rfl, rfl⟩
theorem alcmpNot {w : World} (op : Int) (v u : Nat) (hv : v < 4294967296) (hu : u < 4294967296) (h : op < 70 ∨ 79 < op) : Calls Try.prog 11 #[.int .u8 op, .int .u32 v, .int .u32 u] w fun e w' => e = .returned (.tuple #[.int .u32 (0), .int .i64 (9)]) ∧ w = w' := by
  have d0 : (op == 70) = false := by simp; omega
  have d1 : (op == 71) = false := by simp; omega
  have d2 : (op == 72) = false := by simp; omega
  have d3 : (op == 73) = false := by simp; omega
  have d4 : (op == 74) = false := by simp; omega
  have d5 : (op == 75) = false := by simp; omega
  have d6 : (op == 76) = false := by simp; omega
  have d7 : (op == 77) = false := by simp; omega
  have d8 : (op == 78) = false := by simp; omega
  have d9 : (op == 79) = false := by simp; omega
  clear h
  go_enter Try.func11, Try.ntmps11
  go_wp2
  go_ret2
  exact ⟨rfl, rfl⟩
end Go.Proofs.Ytfjlknanaempdaa

/- The program's Two of 32 bits, as a plain function of numbers. (By gen/genAl.py.) -/
namespace Go.Proofs.Ytfjlknanaempdaa
open Go.RowKit
set_option linter.unusedVariables false
set_option maxRecDepth 100000
theorem altwo0 {w : World} (v u : Nat) (hv : v < 4294967296) (hu : u < 4294967296) : Calls Try.prog 6 #[.int .u8 106, .int .u32 v, .int .u32 u] w fun e w' => e = .returned (.tuple #[.int .u32 (((v + u) % 2 ^ 32 : Nat)), .int .i64 (0)]) ∧ w = w' := by
  obtain ⟨r, hr2⟩ : ∃ r : Nat, r = (v + u) % 2 ^ 32 := ⟨_, rfl⟩
  rw [← hr2]
  have q : ((v : Int) + (u : Int)) % 4294967296 = (r : Int) := by rw [hr2, show 2 ^ 32 = 4294967296 by decide]; omega
  clear hr2
  go_enter Try.func6, Try.ntmps6
  go_wp2
  go_ret2
  first | exact ⟨rfl, rfl⟩ | exact ⟨congrArg (fun z => Ending.returned (Value.tuple #[Value.int .u32 z, Value.int .i64 0])) q, rfl⟩
theorem altwo1 {w : World} (v u : Nat) (hv : v < 4294967296) (hu : u < 4294967296) : Calls Try.prog 6 #[.int .u8 107, .int .u32 v, .int .u32 u] w fun e w' => e = .returned (.tuple #[.int .u32 (((v + (2 ^ 32 - u)) % 2 ^ 32 : Nat)), .int .i64 (0)]) ∧ w = w' := by
  obtain ⟨r, hr2⟩ : ∃ r : Nat, r = (v + (2 ^ 32 - u)) % 2 ^ 32 := ⟨_, rfl⟩
  rw [← hr2]
  have q : ((v : Int) - (u : Int)) % 4294967296 = (r : Int) := by rw [hr2, show 2 ^ 32 = 4294967296 by decide]; omega
  clear hr2
  go_enter Try.func6, Try.ntmps6
  go_wp2
  go_ret2
  first | exact ⟨rfl, rfl⟩ | exact ⟨congrArg (fun z => Ending.returned (Value.tuple #[Value.int .u32 z, Value.int .i64 0])) q, rfl⟩
theorem altwo2 {w : World} (v u : Nat) (hv : v < 4294967296) (hu : u < 4294967296) : Calls Try.prog 6 #[.int .u8 108, .int .u32 v, .int .u32 u] w fun e w' => e = .returned (.tuple #[.int .u32 ((v * u % 2 ^ 32 : Nat)), .int .i64 (0)]) ∧ w = w' := by
  obtain ⟨r, hr2⟩ : ∃ r : Nat, r = v * u % 2 ^ 32 := ⟨_, rfl⟩
  rw [← hr2]
  have q : ((v : Int) * (u : Int)) % 4294967296 = (r : Int) := by rw [hr2, show 2 ^ 32 = 4294967296 by decide, Int.natCast_emod, Int.natCast_mul]; rfl
  clear hr2
  go_enter Try.func6, Try.ntmps6
  go_wp2
  go_ret2
  first | exact ⟨rfl, rfl⟩ | exact ⟨congrArg (fun z => Ending.returned (Value.tuple #[Value.int .u32 z, Value.int .i64 0])) q, rfl⟩
theorem altwo7 {w : World} (v u : Nat) (hv : v < 4294967296) (hu : u < 4294967296) : Calls Try.prog 6 #[.int .u8 113, .int .u32 v, .int .u32 u] w fun e w' => e = .returned (.tuple #[.int .u32 (((v &&& u) % 2 ^ 32 : Nat)), .int .i64 (0)]) ∧ w = w' := by
  obtain ⟨r, hr2⟩ : ∃ r : Nat, r = (v &&& u) % 2 ^ 32 := ⟨_, rfl⟩
  rw [← hr2]
  have q : bits .and .u32 (v : Int) (u : Int) = (r : Int) := by rw [hr2, u32_and_nat _ _ hv hu, Nat.mod_eq_of_lt (Nat.and_lt_two_pow _ (show u < 2 ^ 32 from hu))]
  clear hr2
  go_enter Try.func6, Try.ntmps6
  go_wp2
  go_ret2
  first | exact ⟨rfl, rfl⟩ | exact ⟨congrArg (fun z => Ending.returned (Value.tuple #[Value.int .u32 z, Value.int .i64 0])) q, rfl⟩
theorem altwo8 {w : World} (v u : Nat) (hv : v < 4294967296) (hu : u < 4294967296) : Calls Try.prog 6 #[.int .u8 114, .int .u32 v, .int .u32 u] w fun e w' => e = .returned (.tuple #[.int .u32 (((v ||| u) % 2 ^ 32 : Nat)), .int .i64 (0)]) ∧ w = w' := by
  obtain ⟨r, hr2⟩ : ∃ r : Nat, r = (v ||| u) % 2 ^ 32 := ⟨_, rfl⟩
  rw [← hr2]
  have q : bits .or .u32 (v : Int) (u : Int) = (r : Int) := by rw [hr2, u32_or_nat _ _ hv hu, Nat.mod_eq_of_lt (Nat.or_lt_two_pow (show v < 2 ^ 32 from hv) (show u < 2 ^ 32 from hu))]
  clear hr2
  go_enter Try.func6, Try.ntmps6
  go_wp2
  go_ret2
  first | exact ⟨rfl, rfl⟩ | exact ⟨congrArg (fun z => Ending.returned (Value.tuple #[Value.int .u32 z, Value.int .i64 0])) q, rfl⟩
theorem altwo9 {w : World} (v u : Nat) (hv : v < 4294967296) (hu : u < 4294967296) : Calls Try.prog 6 #[.int .u8 115, .int .u32 v, .int .u32 u] w fun e w' => e = .returned (.tuple #[.int .u32 (((v ^^^ u) % 2 ^ 32 : Nat)), .int .i64 (0)]) ∧ w = w' := by
  obtain ⟨r, hr2⟩ : ∃ r : Nat, r = (v ^^^ u) % 2 ^ 32 := ⟨_, rfl⟩
  rw [← hr2]
  have q : bits .xor .u32 (v : Int) (u : Int) = (r : Int) := by rw [hr2, u32_xor_nat _ _ hv hu, Nat.mod_eq_of_lt (Nat.xor_lt_two_pow (show v < 2 ^ 32 from hv) (show u < 2 ^ 32 from hu))]
  clear hr2
  go_enter Try.func6, Try.ntmps6
  go_wp2
  go_ret2
  first | exact ⟨rfl, rfl⟩ | exact ⟨congrArg (fun z => Ending.returned (Value.tuple #[Value.int .u32 z, Value.int .i64 0])) q, rfl⟩
theorem altwo3 {w : World} (v u : Nat) (hv : v < 4294967296) (hu : u < 4294967296) : Calls Try.prog 6 #[.int .u8 109, .int .u32 v, .int .u32 u] w fun e w' => e = .returned (.tuple #[.int .u32 ((quoN 32 0 v u).1), .int .i64 ((quoN 32 0 v u).2)]) ∧ w = w' := by
  have HD := Lib.hid (aldiv0 (w := w) v u hv hu)
  generalize quoN 32 0 v u = p at *
  go_enter Try.func6, Try.ntmps6
  go_wp2_with (go_at_call 9; (with_reducible refine HD.out.mono ?_); rintro e w0 ⟨rfl, rfl⟩)
  go_ret2
  exact ⟨rfl, rfl⟩
theorem altwo4 {w : World} (v u : Nat) (hv : v < 4294967296) (hu : u < 4294967296) : Calls Try.prog 6 #[.int .u8 110, .int .u32 v, .int .u32 u] w fun e w' => e = .returned (.tuple #[.int .u32 ((quoN 32 1 v u).1), .int .i64 ((quoN 32 1 v u).2)]) ∧ w = w' := by
  have HD := Lib.hid (aldiv1 (w := w) v u hv hu)
  generalize quoN 32 1 v u = p at *
  go_enter Try.func6, Try.ntmps6
  go_wp2_with (go_at_call 9; (with_reducible refine HD.out.mono ?_); rintro e w0 ⟨rfl, rfl⟩)
  go_ret2
  exact ⟨rfl, rfl⟩
theorem altwo5 {w : World} (v u : Nat) (hv : v < 4294967296) (hu : u < 4294967296) : Calls Try.prog 6 #[.int .u8 111, .int .u32 v, .int .u32 u] w fun e w' => e = .returned (.tuple #[.int .u32 ((quoN 32 2 v u).1), .int .i64 ((quoN 32 2 v u).2)]) ∧ w = w' := by
  have HD := Lib.hid (aldiv2 (w := w) v u hv hu)
  generalize quoN 32 2 v u = p at *
  go_enter Try.func6, Try.ntmps6
  go_wp2_with (go_at_call 9; (with_reducible refine HD.out.mono ?_); rintro e w0 ⟨rfl, rfl⟩)
  go_ret2
  exact ⟨rfl, rfl⟩
theorem altwo6 {w : World} (v u : Nat) (hv : v < 4294967296) (hu : u < 4294967296) : Calls Try.prog 6 #[.int .u8 112, .int .u32 v, .int .u32 u] w fun e w' => e = .returned (.tuple #[.int .u32 ((quoN 32 3 v u).1), .int .i64 ((quoN 32 3 v u).2)]) ∧ w = w' := by
  have HD := Lib.hid (aldiv3 (w := w) v u hv hu)
  generalize quoN 32 3 v u = p at *
  go_enter Try.func6, Try.ntmps6
  go_wp2_with (go_at_call 9; (with_reducible refine HD.out.mono ?_); rintro e w0 ⟨rfl, rfl⟩)
  go_ret2
  exact ⟨rfl, rfl⟩
theorem altwo10 {w : World} (v u : Nat) (hv : v < 4294967296) (hu : u < 4294967296) : Calls Try.prog 6 #[.int .u8 116, .int .u32 v, .int .u32 u] w fun e w' => e = .returned (.tuple #[.int .u32 ((v * 2 ^ (u % 32) % 4294967296 : Nat)), .int .i64 (0)]) ∧ w = w' := by
  have HD := Lib.hid (alsh0 (w := w) v (u % 32) hv (by omega))
  have e1 : (u : Int) % 32 = ((u % 32 : Nat) : Int) := by omega
  generalize u % 32 = q at *
  generalize v * 2 ^ q % 4294967296 = r at *
  go_enter Try.func6, Try.ntmps6
  go_wp2_with (go_at_call 10; (with_reducible refine HD.out.mono ?_); rintro e w0 ⟨rfl, rfl⟩)
  go_ret2
  exact ⟨rfl, rfl⟩
theorem altwo11 {w : World} (v u : Nat) (hv : v < 4294967296) (hu : u < 4294967296) : Calls Try.prog 6 #[.int .u8 117, .int .u32 v, .int .u32 u] w fun e w' => e = .returned (.tuple #[.int .u32 (((sg 32 v / 2 ^ (u % 32) % 4294967296).toNat : Nat)), .int .i64 (0)]) ∧ w = w' := by
  have HD := Lib.hid (alsh1 (w := w) v (u % 32) hv (by omega))
  have e1 : (u : Int) % 32 = ((u % 32 : Nat) : Int) := by omega
  generalize u % 32 = q at *
  generalize (sg 32 v / 2 ^ q % 4294967296).toNat = r at *
  go_enter Try.func6, Try.ntmps6
  go_wp2_with (go_at_call 10; (with_reducible refine HD.out.mono ?_); rintro e w0 ⟨rfl, rfl⟩)
  go_ret2
  exact ⟨rfl, rfl⟩
theorem altwo12 {w : World} (v u : Nat) (hv : v < 4294967296) (hu : u < 4294967296) : Calls Try.prog 6 #[.int .u8 118, .int .u32 v, .int .u32 u] w fun e w' => e = .returned (.tuple #[.int .u32 ((v / 2 ^ (u % 32) : Nat)), .int .i64 (0)]) ∧ w = w' := by
  have HD := Lib.hid (alsh2 (w := w) v (u % 32) hv (by omega))
  have e1 : (u : Int) % 32 = ((u % 32 : Nat) : Int) := by omega
  generalize u % 32 = q at *
  generalize v / 2 ^ q = r at *
  go_enter Try.func6, Try.ntmps6
  go_wp2_with (go_at_call 10; (with_reducible refine HD.out.mono ?_); rintro e w0 ⟨rfl, rfl⟩)
  go_ret2
  exact ⟨rfl, rfl⟩
theorem altwo13 {w : World} (v u : Nat) (hv : v < 4294967296) (hu : u < 4294967296) : Calls Try.prog 6 #[.int .u8 119, .int .u32 v, .int .u32 u] w fun e w' => e = .returned (.tuple #[.int .u32 ((rotN 32 v (u % 32) : Nat)), .int .i64 (0)]) ∧ w = w' := by
  have HD := Lib.hid (alsh3 (w := w) v (u % 32) hv (by omega))
  have e1 : (u : Int) % 32 = ((u % 32 : Nat) : Int) := by omega
  generalize u % 32 = q at *
  generalize rotN 32 v q = r at *
  go_enter Try.func6, Try.ntmps6
  go_wp2_with (go_at_call 10; (with_reducible refine HD.out.mono ?_); rintro e w0 ⟨rfl, rfl⟩)
  go_ret2
  exact ⟨rfl, rfl⟩
theorem altwo14 {w : World} (v u : Nat) (hv : v < 4294967296) (hu : u < 4294967296) : Calls Try.prog 6 #[.int .u8 120, .int .u32 v, .int .u32 u] w fun e w' => e = .returned (.tuple #[.int .u32 ((rotN 32 v ((32 - u % 32) % 32) : Nat)), .int .i64 (0)]) ∧ w = w' := by
  have HD := Lib.hid (alsh4 (w := w) v (u % 32) hv (by omega))
  have e1 : (u : Int) % 32 = ((u % 32 : Nat) : Int) := by omega
  generalize u % 32 = q at *
  generalize rotN 32 v ((32 - q) % 32) = r at *
  go_enter Try.func6, Try.ntmps6
  go_wp2_with (go_at_call 10; (with_reducible refine HD.out.mono ?_); rintro e w0 ⟨rfl, rfl⟩)
  go_ret2
  exact ⟨rfl, rfl⟩
theorem altwoCmp {w : World} (op : Int) (v u : Nat) (x y : Int) (h : op < 106 ∨ 120 < op) (hC : Calls Try.prog 11 #[.int .u8 op, .int .u32 v, .int .u32 u] w fun e w' => e = .returned (.tuple #[.int .u32 (x), .int .i64 (y)]) ∧ w = w') : Calls Try.prog 6 #[.int .u8 op, .int .u32 v, .int .u32 u] w fun e w' => e = .returned (.tuple #[.int .u32 (x), .int .i64 (y)]) ∧ w = w' := by
  have HC := Lib.hid hC
  clear hC
  have d0 : (op == 106) = false := by simp; omega
  have d1 : (op == 107) = false := by simp; omega
  have d2 : (op == 108) = false := by simp; omega
  have d3 : (op == 109) = false := by simp; omega
  have d4 : (op == 110) = false := by simp; omega
  have d5 : (op == 111) = false := by simp; omega
  have d6 : (op == 112) = false := by simp; omega
  have d7 : (op == 113) = false := by simp; omega
  have d8 : (op == 114) = false := by simp; omega
  have d9 : (op == 115) = false := by simp; omega
  have d10 : (op == 116) = false := by simp; omega
  have d11 : (op == 117) = false := by simp; omega
  have d12 : (op == 118) = false := by simp; omega
  have d13 : (op == 119) = false := by simp; omega
  have d14 : (op == 120) = false := by simp; omega
  clear h
  go_enter Try.func6, Try.ntmps6
  go_wp2_with (go_at_call 11; (with_reducible refine HC.out.mono ?_); rintro e w0 ⟨rfl, rfl⟩)
  go_ret2
  exact ⟨rfl, rfl⟩
end Go.Proofs.Ytfjlknanaempdaa

/- Bits that lie somewhere; rows of bits of the call's own. -/
namespace Go.Proofs.Ytfjlknanaempdaa
open Go.RowKit
set_option linter.unusedVariables false
set_option maxRecDepth 100000

def cellsB (l : List Bool) : List Value := l.map fun b => .bool b
theorem cellsB_get {l : List Bool} {i : Nat} {b : Bool} (h : l[i]? = some b) : (cellsB l)[i]? = some (.bool b) := by
  unfold cellsB; rw [List.getElem?_map, h]; rfl
theorem cellsB_len (l : List Bool) : (cellsB l).length = l.length := by simp [cellsB]
theorem infoBool : (Try.prog.info? 4).map (fun i => (i.zero, i.size, i.bytes)) = some (some (.bool false), 1, 1) := by kernel_rfl
/-- The slice at A reads as these bits. -/
def LB (w : World) (A : Option Addr) (l : List Bool) : Prop := Lies w w.heap.size A (cellsB l)
theorem LB.below {w w' : World} {A : Option Addr} {l : List Bool} (h : LB w A l) (hb : Below w.heap.size w w') : LB w' A l := (Lies.below h hb (Nat.le_refl _)).more hb.size
theorem LB.at {w : World} {A : Option Addr} {l : List Bool} (h : LB w A l) {i : Nat} {d : Bool} (hd : l[i]? = some d) : ∃ b off, A = some ⟨b, off, none⟩ ∧ b < w.heap.size ∧ w.cell? ⟨b, off + i, none⟩ = some (.bool d) := h i _ (cellsB_get hd)
def RowB (W : World) (base : Nat) (v : Value) (acc : List Bool) : Prop := W.ownsRow base 4 1 v acc.length (cellsB acc)
theorem RowB.nil (W : World) (base : Nat) : RowB W base (.slice none 0 0) [] := World.ownsRow_nil W base _ 1
theorem RowB.later {W W' : World} {base : Nat} {v : Value} {acc : List Bool} (h : RowB W base v acc) (hb : Below W.heap.size W W') : RowB W' base v acc :=
  World.ownsRow.kept h (gb_of_below none hb) (by cases v.ownBlock with
    | none => exact .inl rfl
    | some k => exact .inr (by simp))
theorem RowB.below {w W W' : World} {base : Nat} {v : Value} {acc : List Bool} (h : RowB W base v acc) (hB : base ≤ W.heap.size) (hg : W.grownBy W' v.ownBlock) : Below base W W' :=
  Below.grown (Below.refl _ _) hg hB (fun k hk => (World.ownsRow.lt h k hk).1)
/-- The beginning of a block of one's own. -/
def OB (W : World) (base : Nat) (A : Option Addr) (l : List Bool) : Prop := ∃ g cur, A = some ⟨g, 0, none⟩ ∧ base ≤ g ∧ Whole W g 4 cur ∧ cur.toList.take l.length = cellsB l
theorem RowB.ob {W : World} {base : Nat} {v : Value} {l : List Bool} (h : RowB W base v l) (hl : 0 < l.length) : ∃ A c, v = .slice A l.length c ∧ OB W base A l := by
  rcases h.2 with ⟨rfl, h0⟩ | ⟨g, cap, cur, rfl, hb, hg, _, _, _, ht⟩
  · omega
  · exact ⟨_, _, rfl, g, cur, rfl, hb, hg, by rw [Nat.mul_one] at ht; exact ht⟩
theorem OB.lb {W : World} {base : Nat} {A : Option Addr} {l : List Bool} (h : OB W base A l) : LB W A l := by
  obtain ⟨g, cur, rfl, _, h, ht⟩ := h
  intro j v hv
  refine ⟨g, 0, rfl, h.lt, ?_⟩
  rw [h.cell]
  have hj : j < l.length := by have := (List.getElem?_eq_some_iff.1 hv).1; rwa [cellsB_len] at this
  rw [← ht] at hv
  rw [List.getElem?_take, if_pos hj] at hv
  simpa using hv
theorem OB.later {W W' : World} {base : Nat} {A : Option Addr} {l : List Bool} (h : OB W base A l) (hb : Below W.heap.size W W') : OB W' base A l := by
  obtain ⟨g, cur, e, h1, h, ht⟩ := h
  exact ⟨g, cur, e, h1, h.below hb, ht⟩
theorem OB.mono {W : World} {base base' : Nat} {A : Option Addr} {l : List Bool} (h : OB W base A l) (hb : base' ≤ base) : OB W base' A l := by
  obtain ⟨g, cur, e, h1, h⟩ := h
  exact ⟨g, cur, e, Nat.le_trans hb h1, h⟩
theorem OB.past {W W' : World} {base b : Nat} {A : Option Addr} {l : List Bool} (h : OB W base A l) (hg : W.grownBy W' (some b)) (hb : b < base) : OB W' base A l := by
  obtain ⟨g, cur, e, h1, h, ht⟩ := h
  exact ⟨g, cur, e, h1, h.grown hg (by simp only [ne_eq, Option.some.injEq]; omega), ht⟩
theorem OB.lt {W : World} {base g : Nat} {l : List Bool} (h : OB W base (some ⟨g, 0, none⟩) l) : base ≤ g ∧ g < W.heap.size := by
  obtain ⟨g2, cur, e, h1, h, _⟩ := h
  injection e with e
  injection e with e
  subst e
  exact ⟨h1, h.lt⟩
theorem OB.below {W W' : World} {base : Nat} {A : Option Addr} {l : List Bool} (h : OB W base A l) (hb : Below W.heap.size W W') : OB W' base A l := h.later hb
/-- Another block was written. -/
theorem OB.keep {W W' : World} {base g b : Nat} {l : List Bool} (h : OB W base (some ⟨g, 0, none⟩) l) (hg : W.grownBy W' (some b)) (hb : g ≠ b) : OB W' base (some ⟨g, 0, none⟩) l := by
  obtain ⟨g2, cur, e, h1, h, ht⟩ := h
  injection e with e
  injection e with e
  subst e
  exact ⟨g, cur, rfl, h1, h.grown hg (by simp only [ne_eq, Option.some.injEq]; exact hb), ht⟩
theorem OB.keep2 {W W' : World} {base b : Nat} {A : Option Addr} {l : List Bool} (h : OB W base A l) (hg : W.grownBy W' (some b)) (hb : b < base) : OB W' base A l := h.past hg hb
/-- A new block of zero bits. -/
theorem OB.zero (w : World) (n : Nat) : OB (w.alloc (.cells (madeCells #[.bool false] n) 4)) w.heap.size (some ⟨w.heap.size, 0, none⟩) (List.replicate n false) := by
  refine ⟨_, _, rfl, Nat.le_refl _, Whole.made w _ _, ?_⟩
  unfold cellsB
  rw [List.length_replicate, List.map_replicate]
  apply List.ext_getElem?
  intro i
  rw [List.getElem?_take]
  by_cases h : i < n
  · rw [if_pos h, List.getElem?_replicate, if_pos h, Array.getElem?_toList]
    unfold madeCells
    simp [h, Nat.mod_one]
  · rw [if_neg h, List.getElem?_replicate, if_neg h]
theorem hmk_any (n : Nat) (hn : n ≤ 1000) (w : World) : (Instr.makeSlice 35 (.int .i64 n) (.int .i64 n)).run Try.prog w = .ok (.slice (some ⟨w.heap.size, 0, none⟩) n n) (w.alloc (.cells (madeCells #[.bool false] n) 4)) :=
  run_make_row' 35 4 (.bool false) 1 Try.underlying35 infoBool rfl .i64 .i64 n (by omega) (by omega) w
/-- One bit is set. -/
theorem OB.put {W : World} {base g : Nat} {l : List Bool} (h : OB W base (some ⟨g, 0, none⟩) l) (i : Nat) (b : Bool) (hi : i < l.length) : OB (W.setCell ⟨g, i, none⟩ (.bool b)) base (some ⟨g, 0, none⟩) (l.set i b) := by
  obtain ⟨g2, cur, e, h1, h, ht⟩ := h
  injection e with e
  injection e with e1
  subst e1
  refine ⟨g, _, rfl, h1, h.put i _, ?_⟩
  have hc : l.length ≤ cur.size := by
    have h9 := congrArg List.length ht
    simp only [List.length_take, cellsB_len, Array.length_toList] at h9
    omega
  unfold cellsB at *
  rw [List.length_set, List.map_set, ← ht, Array.toList_setIfInBounds, List.take_set]
theorem OB.at {W : World} {base : Nat} {A : Option Addr} {l : List Bool} (h : OB W base A l) {i : Nat} {d : Bool} (hd : l[i]? = some d) : ∃ g, A = some ⟨g, 0, none⟩ ∧ base ≤ g ∧ g < W.heap.size ∧ W.cell? ⟨g, i, none⟩ = some (.bool d) ∧ W.frozen? ⟨g, i, none⟩ = false := by
  obtain ⟨b, off, e, h2, h3⟩ := h.lb.at hd
  obtain ⟨g, cur, rfl, h4, h5, _⟩ := h
  injection e with e
  injection e with e1 e2
  subst e1; subst e2
  rw [Nat.zero_add] at h3
  exact ⟨g, rfl, h4, h5.lt, h3, h5.frozen i⟩
/-- append of a new block of one bit. -/
theorem rowB_new {w : World} {ops : Array Oper} {rest : List Oper} {o : Oper} {a : Act} {Q : Exit → Act → World → Prop} (hgd : o.guard = none) (s x : Operand)
    (ho : o.op = .call { callee := .builtin .append, args := #[s, x], argTypes := #[35, 35] })
    (B : Nat) (v : Value) (acc : List Bool) (hs : a.eval s = v) (hr : RowB w B v acc) (g : Nat) (y : Bool) (hx : a.eval x = .slice (some ⟨g, 0, none⟩) 1 1)
    (hg : Whole w g 4 #[.bool y]) (hb : acc.length ≤ 1000) (hB : B ≤ w.heap.size)
    (h : ∀ v' w', RowB w' B v' (acc ++ [y]) → Below B w w' → wpList Try.prog ops Q rest (a.put o.dst v') w') : wpList Try.prog ops Q (o :: rest) a w := by
  obtain ⟨i0, hi0, hz0, hz1, hz2⟩ := info_parts infoBool
  refine wpList_append_own _ hgd s x _ ho B 4 i0 _ 1 1 Try.underlying35 hi0 hz0 hz1 hz2 rfl (by omega) v _ _ hs hr ⟨g, 0, none⟩ 1 1 [.bool y] hx rfl ?_ ?_ (by unfold maxLen; omega) (by omega) hB (fun v' w' h2 h3 _ => h v' w' ?_ (RowB.below (w := w) hr hB h3))
  · intro j u hu
    rw [Go.WideShapes.add_plain, Nat.zero_add, hg.cell]
    simpa using hu
  · intro u hu
    simp only [List.mem_cons, List.not_mem_nil, or_false] at hu
    subst hu
    rfl
  · unfold RowB
    rw [List.length_append]
    unfold cellsB at *
    rw [List.map_append]
    simpa using h2
theorem step_valueB {w : World} {ops : Array Oper} {o : Oper} {a : Act} {K : Act → World → Prop} {Q : Exit → Act → World → Prop} {E : Prop} {v : Value} {w' : World} (hgd : o.guard = none) (h : (execOp a.eval o).run Try.prog w = .ok (.value v) w') (hK : K (a.put o.dst v) w') :
    if Region.wanted o (yielded ops a.tmps) = true then Oper.wp Try.prog o a w K Q else E := by
  have hw : Region.wanted o (yielded ops a.tmps) = true := by simp [Region.wanted, hgd]
  rw [if_pos hw]
  unfold Oper.wp
  rw [h]
  exact hK
/-- make of n bits, at a step of a region that draws. -/
theorem step_make {w : World} {ops : Array Oper} {o : Oper} {a : Act} {K : Act → World → Prop} {Q : Exit → Act → World → Prop} {E : Prop} (hgd : o.guard = none) (n : Nat) (hn : n ≤ 1000) (l c : Operand) (ho : o.op = .makeSlice 35 l c) (hl : a.eval l = .int .i64 n) (hc : a.eval c = .int .i64 n)
    (h : ∀ g wa, w.heap.size ≤ g → Below w.heap.size w wa → OB wa w.heap.size (some ⟨g, 0, none⟩) (List.replicate n false) → K (a.put o.dst (.slice (some ⟨g, 0, none⟩) n n)) wa) :
    if Region.wanted o (yielded ops a.tmps) = true then Oper.wp Try.prog o a w K Q else E := by
  refine step_valueB (v := .slice (some ⟨w.heap.size, 0, none⟩) n n) (w' := w.alloc (.cells (madeCells #[.bool false] n) 4)) hgd ?_ (h _ _ (Nat.le_refl _) ((Below.refl _ _).alloc (Nat.le_refl _) _) (OB.zero w n))
  have hm := hmk_any n hn w
  cases o
  subst ho
  clear h
  generalize a.eval = ev at hl hc ⊢
  simp [go_sem, hl, hc, hm]
theorem step_buildB {w : World} {ops : Array Oper} {o : Oper} {a : Act} {K : Act → World → Prop} {Q : Exit → Act → World → Prop} {E : Prop} (hgd : o.guard = none) (x : Operand) (ho : o.op = .buildSlice 35 1 #[(0, x)]) (b : Bool) (hx : a.eval x = .bool b)
    (h : ∀ g wa, w.heap.size ≤ g → Below w.heap.size w wa → Whole wa g 4 #[.bool b] → K (a.put o.dst (.slice (some ⟨g, 0, none⟩) 1 1)) wa) :
    if Region.wanted o (yielded ops a.tmps) = true then Oper.wp Try.prog o a w K Q else E := by
  refine step_valueB (v := .slice (some ⟨w.heap.size, 0, none⟩) 1 1) (w' := w.alloc (.cells #[.bool b] 4)) hgd ?_ (h _ _ (Nat.le_refl _) ((Below.refl _ _).alloc (Nat.le_refl _) _) (Whole.made _ _ _))
  cases o
  subst ho
  clear h
  generalize a.eval = ev at hx ⊢
  simp [go_sem, hx]
theorem step_rowB {w : World} {ops : Array Oper} {o : Oper} {a : Act} {K : Act → World → Prop} {Q : Exit → Act → World → Prop} {E : Prop} (hgd : o.guard = none) (s x : Operand)
    (ho : o.op = .call { callee := .builtin .append, args := #[s, x], argTypes := #[35, 35] })
    (B : Nat) (v : Value) (acc : List Bool) (hs : a.eval s = v) (hr : RowB w B v acc) (g : Nat) (y : Bool) (hx : a.eval x = .slice (some ⟨g, 0, none⟩) 1 1)
    (hg : Whole w g 4 #[.bool y]) (hb : acc.length ≤ 1000) (hB : B ≤ w.heap.size)
    (h : ∀ v' w', RowB w' B v' (acc ++ [y]) → Below B w w' → w.grownBy w' v.ownBlock → K (a.put o.dst v') w') :
    if Region.wanted o (yielded ops a.tmps) = true then Oper.wp Try.prog o a w K Q else E := by
  obtain ⟨i0, hi0, hz0, hz1, hz2⟩ := info_parts infoBool
  have hw : Region.wanted o (yielded ops a.tmps) = true := by simp [Region.wanted, hgd]
  rw [if_pos hw]
  refine wp_append_own _ s x _ ho B 4 i0 _ 1 1 Try.underlying35 hi0 hz0 hz1 hz2 rfl (by omega) v _ _ hs hr ⟨g, 0, none⟩ 1 1 [.bool y] hx rfl ?_ ?_ (by unfold maxLen; omega) (by omega) hB (fun v' w' h2 h3 _ => h v' w' ?_ (RowB.below (w := w) hr hB h3) h3)
  · intro j u hu
    rw [Go.WideShapes.add_plain, Nat.zero_add, hg.cell]
    simpa using hu
  · intro u hu
    simp only [List.mem_cons, List.not_mem_nil, or_false] at hu
    subst hu
    rfl
  · unfold RowB
    rw [List.length_append]
    unfold cellsB at *
    rw [List.map_append]
    simpa using h2
end Go.Proofs.Ytfjlknanaempdaa

/- Bits, Number, truth, add, not, less of creelref18. (By gen/genBt.py.) -/
namespace Go.Proofs.Ytfjlknanaempdaa
open Go.RowKit
set_option linter.unusedVariables false
set_option maxRecDepth 100000

/-- What hands back N bits of its own. -/
def Ownt (l : List Bool) (w : World) (e : Ending) (w' : World) : Prop := ∃ A c, e = .returned (.slice A 32 c) ∧ OB w' w.heap.size A l ∧ Below w.heap.size w w'
set_option maxHeartbeats 1000000 in
theorem bitst (x : Nat) (w : World) (hx : x < 18446744073709551616) : Calls Try.prog 13 #[.int .u64 x] w (Ownt (bitsL 32 x) w) := by
  go_enter Try.func13, Try.ntmps13
  go_wp2
  go_loopw [0, 3, 4] (fun v o i wr => ∃ k : Nat, k ≤ 32 ∧ i = .int .i64 k ∧ v = .int .u64 ((x / 2 ^ k : Nat) : Int) ∧ RowB wr w.heap.size o (bitsL k x) ∧ Below w.heap.size w wr) (fun _ _ i _ => 32 - (intOf i).toNat)
  case atStart => exact ⟨0, Nat.zero_le _, rfl, by simp, RowB.nil _ _, Below.refl _ _⟩
  case round =>
    obtain ⟨k, hk, rfl, rfl, hr, hb⟩ := hrel
    have hz := hb.size
    by_cases hlt : k < 32
    · have hl := bitsL_len k x
      have HS := Lib.hid (bitsL_snoc k x)
      obtain ⟨y, hy⟩ : ∃ y, y = x / 2 ^ k := ⟨_, rfl⟩
      have hy2 : y < 18446744073709551616 := by rw [hy]; exact Nat.lt_of_le_of_lt (Nat.div_le_self _ _) hx
      have HD := Lib.hid (show x / 2 ^ (k + 1) = y / 2 by rw [hy, Nat.div_div_eq_div_mul, Nat.pow_succ])
      rw [← hy]
      rw [← hy] at HS
      obtain ⟨b, hbb⟩ : ∃ b, b = (y % 2 == 1) := ⟨_, rfl⟩
      rw [← hbb] at HS
      have e2 : ((y : Int) % 2 == 1) = b := (odd_eq y).trans hbb.symm
      have HR := Lib.hid (hr.later (below_box wr (.cells #[.bool b] 4)))
      have HB := Lib.hid (hb.alloc hz (.cells #[.bool b] 4))
      have HX := Lib.hid (Whole.made wr 4 #[.bool b])
      have hsz : (wr.alloc (.cells #[.bool b] 4)).heap.size = wr.heap.size + 1 := size_box _ _
      obtain ⟨acc, hacc⟩ : ∃ acc, acc = bitsL k x := ⟨_, rfl⟩
      rw [← hacc] at HR HS hl
      clear hr hb hbb hy hacc
      go_wp2_with (at_builtin; (refine rowB_new rfl _ _ rfl w.heap.size _ acc rfl HR.out wr.heap.size b rfl HX.out (by omega) (by rw [hsz]; omega) ?_; intro v2 w2 hr2 hb2; have HR2 := Lib.hid hr2; have HB2 := Lib.hid (HB.out.trans hb2); clear hr2 hb2))
      go_roundw
      case rel => exact ⟨k + 1, by omega, by go_num, by rw [HD.out, Int.natCast_ediv]; rfl, by rw [HS.out]; exact HR2.out, HB2.out⟩
      case measure => simp [intOf]; omega
    · obtain rfl : k = 32 := by omega
      obtain ⟨A, c, rfl, ho⟩ := hr.ob (by rw [bitsL_len]; omega)
      rw [bitsL_len]
      have HO := Lib.hid ho
      have HB := Lib.hid hb
      clear hr hb ho
      go_wp2
      go_ret
      exact ⟨A, c, rfl, HO.out, HB.out⟩
set_option maxHeartbeats 1000000 in
theorem numbert {w : World} {A : Option Addr} {c : Nat} {l : List Bool} (hl : LB w A l) (hn : l.length = 32) : Calls Try.prog 14 #[.slice A 32 c] w fun e w' => e = .returned (.int .u64 (numL l)) ∧ w = w' := by
  have HL := Lib.hid hl
  have hlt := numL_lt l
  rw [hn] at hlt
  clear hl
  go_enter Try.func14, Try.ntmps14
  go_wp2
  go_loop [3, 4] (fun v i => ∃ k : Nat, k ≤ 32 ∧ i = .int .i64 ((k : Int) - 1) ∧ v = .int .u64 (numL (l.drop k))) (fun _ i => (intOf i + 1).toNat)
  case atStart => exact ⟨32, Nat.le_refl _, rfl, by rw [List.drop_of_length_le (by omega)]; rfl⟩
  case round =>
    obtain ⟨k, hk, rfl, rfl⟩ := hrel
    cases k with
    | succ k =>
      obtain ⟨b, hb⟩ : ∃ b, l[k]? = some b := ⟨_, List.getElem?_eq_getElem (by omega)⟩
      obtain ⟨bl, off, rfl, _, hc⟩ := HL.out.at hb
      have HD := Lib.hid (show numL (l.drop k) = b.toNat + 2 * numL (l.drop (k + 1)) by
        obtain ⟨h1, h2⟩ := List.getElem?_eq_some_iff.1 hb
        rw [List.drop_eq_getElem_cons h1, h2]
        rfl)
      have h3 := numL_lt (l.drop k)
      have h4 : 2 ^ (l.drop k).length ≤ 2 ^ 32 := Nat.pow_le_pow_right (by omega) (by rw [List.length_drop]; omega)
      have h5 := HD.out
      have e0 : (((k + 1 : Nat) : Int) - 1) = k := by omega
      rw [e0]
      obtain ⟨y, hy⟩ : ∃ y, y = numL (l.drop (k + 1)) := ⟨_, rfl⟩
      rw [← hy] at h5 HD ⊢
      have q1 : IntKind.u64.wrap ((y : Int) * 2) = y * 2 := by simp only [IntKind.wrap, IntKind.bits, IntKind.signed]; cases b <;> simp at h5 ⊢ <;> omega
      have q2 : b = true → IntKind.u64.wrap ((y : Int) * 2 + 1) = y * 2 + 1 := by intro e; subst e; simp only [IntKind.wrap, IntKind.bits, IntKind.signed]; simp at h5 ⊢; omega
      cases b
      · clear hb hy h3 h4
        go_wp2
        go_round
        case rel => exact ⟨k, by omega, by go_num, by rw [HD.out]; simp; omega⟩
        case measure => (simp [intOf]; try omega)
      · have q3 := q2 rfl
        clear hb hy h3 h4 q2
        go_wp2
        go_round
        case rel => exact ⟨k, by omega, by go_num, by rw [HD.out]; simp; omega⟩
        case measure => (simp [intOf]; try omega)
    | zero =>
      go_wp2
      go_ret
      exact ⟨rfl, rfl⟩
theorem trutht (b : Bool) (w : World) : Calls Try.prog 25 #[.bool b] w fun e w' => e = .returned (.int .u64 (b.toNat : Nat)) ∧ w = w' := by
  cases b
  · go_enter Try.func25, Try.ntmps25
    go_wp2
    go_ret
    exact ⟨rfl, rfl⟩
  · go_enter Try.func25, Try.ntmps25
    go_wp2
    go_ret
    exact ⟨rfl, rfl⟩
end Go.Proofs.Ytfjlknanaempdaa
