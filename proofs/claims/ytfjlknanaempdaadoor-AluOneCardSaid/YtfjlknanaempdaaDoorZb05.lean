/- The program's compare of 32 bits, as plain functions of numbers. (By gen/genAl.py.) -/
import Derived.Test.YtfjlknanaempdaaDoorZb04
import Derived.Test.YtfjlknanaempdaaDoorZb02
import Derived.Deep.QuietTactic
import Derived.Deep.CutBlock
import Derived.Deep.DeepCutAuto
import Derived.WalkLawsBesides
import Derived.BigQuiet
import Derived.LoopTactic
import Derived.Deep.DeepMust
namespace Go.Proofs.YtfjlknanaempdaaDoor
open Go.RowKit
set_option linter.unusedVariables false
set_option maxRecDepth 100000
theorem alcmp0 {w : World} (v u : Nat) (hv : v < 4294967296) (hu : u < 4294967296) : Calls Tryd.prog 16 #[.int .u8 70, .int .u32 v, .int .u32 u] w fun e w' => e = .returned (.tuple #[.int .u32 (((cmpN 32 0 v u).toNat : Nat)), .int .i64 (0)]) ∧ w = w' := by
  obtain ⟨d, hd⟩ : ∃ d, d = cmpN 32 0 v u := ⟨_, rfl⟩
  rw [← hd]
  have hd2 : ((v : Int) == (u : Int)) = d := by rw [hd, int_beq]; rfl
  clear hd
  have HT := Lib.hid (altruth d w)
  go_enter Tryd.func16, Tryd.ntmps16
  go_wp2_with (go_at_call 8; (with_reducible refine HT.out.mono ?_); rintro e w0 ⟨rfl, rfl⟩)
  go_ret2
  exact ⟨rfl, rfl⟩
theorem alcmp1 {w : World} (v u : Nat) (hv : v < 4294967296) (hu : u < 4294967296) : Calls Tryd.prog 16 #[.int .u8 71, .int .u32 v, .int .u32 u] w fun e w' => e = .returned (.tuple #[.int .u32 (((cmpN 32 1 v u).toNat : Nat)), .int .i64 (0)]) ∧ w = w' := by
  obtain ⟨d, hd⟩ : ∃ d, d = cmpN 32 1 v u := ⟨_, rfl⟩
  rw [← hd]
  have hd2 : ((v : Int) != (u : Int)) = d := by rw [hd, bne, int_beq]; rfl
  clear hd
  have HT := Lib.hid (altruth d w)
  go_enter Tryd.func16, Tryd.ntmps16
  go_wp2_with (go_at_call 8; (with_reducible refine HT.out.mono ?_); rintro e w0 ⟨rfl, rfl⟩)
  go_ret2
  exact ⟨rfl, rfl⟩
theorem alcmp2 {w : World} (v u : Nat) (hv : v < 4294967296) (hu : u < 4294967296) : Calls Tryd.prog 16 #[.int .u8 72, .int .u32 v, .int .u32 u] w fun e w' => e = .returned (.tuple #[.int .u32 (((cmpN 32 2 v u).toNat : Nat)), .int .i64 (0)]) ∧ w = w' := by
  have ev := alwr hv
  have eu := alwr hu
  obtain ⟨d, hd⟩ : ∃ d, d = cmpN 32 2 v u := ⟨_, rfl⟩
  rw [← hd]
  have hd2 : decide (sg 32 v < sg 32 u) = d := by rw [hd]; rfl
  clear hd
  generalize sg 32 v = x at *
  generalize sg 32 u = y at *
  have HT := Lib.hid (altruth d w)
  go_enter Tryd.func16, Tryd.ntmps16
  go_wp2_with (go_at_call 8; (with_reducible refine HT.out.mono ?_); rintro e w0 ⟨rfl, rfl⟩)
  go_ret2
  exact ⟨rfl, rfl⟩
theorem alcmp3 {w : World} (v u : Nat) (hv : v < 4294967296) (hu : u < 4294967296) : Calls Tryd.prog 16 #[.int .u8 73, .int .u32 v, .int .u32 u] w fun e w' => e = .returned (.tuple #[.int .u32 (((cmpN 32 3 v u).toNat : Nat)), .int .i64 (0)]) ∧ w = w' := by
  obtain ⟨d, hd⟩ : ∃ d, d = cmpN 32 3 v u := ⟨_, rfl⟩
  rw [← hd]
  have hd2 : decide (v < u) = d := by rw [hd]; rfl
  clear hd
  have HT := Lib.hid (altruth d w)
  go_enter Tryd.func16, Tryd.ntmps16
  go_wp2_with (go_at_call 8; (with_reducible refine HT.out.mono ?_); rintro e w0 ⟨rfl, rfl⟩)
  go_ret2
  exact ⟨rfl, rfl⟩
theorem alcmp4 {w : World} (v u : Nat) (hv : v < 4294967296) (hu : u < 4294967296) : Calls Tryd.prog 16 #[.int .u8 74, .int .u32 v, .int .u32 u] w fun e w' => e = .returned (.tuple #[.int .u32 (((cmpN 32 4 v u).toNat : Nat)), .int .i64 (0)]) ∧ w = w' := by
  have ev := alwr hv
  have eu := alwr hu
  obtain ⟨d, hd⟩ : ∃ d, d = cmpN 32 4 v u := ⟨_, rfl⟩
  rw [← hd]
  have hd2 : decide (sg 32 v > sg 32 u) = d := by rw [hd]; rfl
  clear hd
  generalize sg 32 v = x at *
  generalize sg 32 u = y at *
  have HT := Lib.hid (altruth d w)
  go_enter Tryd.func16, Tryd.ntmps16
  go_wp2_with (go_at_call 8; (with_reducible refine HT.out.mono ?_); rintro e w0 ⟨rfl, rfl⟩)
  go_ret2
  exact ⟨rfl, rfl⟩
theorem alcmp5 {w : World} (v u : Nat) (hv : v < 4294967296) (hu : u < 4294967296) : Calls Tryd.prog 16 #[.int .u8 75, .int .u32 v, .int .u32 u] w fun e w' => e = .returned (.tuple #[.int .u32 (((cmpN 32 5 v u).toNat : Nat)), .int .i64 (0)]) ∧ w = w' := by
  obtain ⟨d, hd⟩ : ∃ d, d = cmpN 32 5 v u := ⟨_, rfl⟩
  rw [← hd]
  have hd2 : decide (v > u) = d := by rw [hd]; rfl
  clear hd
  have HT := Lib.hid (altruth d w)
  go_enter Tryd.func16, Tryd.ntmps16
  go_wp2_with (go_at_call 8; (with_reducible refine HT.out.mono ?_); rintro e w0 ⟨rfl, rfl⟩)
  go_ret2
  exact ⟨rfl, rfl⟩
theorem alcmp6 {w : World} (v u : Nat) (hv : v < 4294967296) (hu : u < 4294967296) : Calls Tryd.prog 16 #[.int .u8 76, .int .u32 v, .int .u32 u] w fun e w' => e = .returned (.tuple #[.int .u32 (((cmpN 32 6 v u).toNat : Nat)), .int .i64 (0)]) ∧ w = w' := by
  have ev := alwr hv
  have eu := alwr hu
  obtain ⟨d, hd⟩ : ∃ d, d = cmpN 32 6 v u := ⟨_, rfl⟩
  rw [← hd]
  have hd2 : decide (sg 32 v ≤ sg 32 u) = d := by rw [hd]; rfl
  clear hd
  generalize sg 32 v = x at *
  generalize sg 32 u = y at *
  have HT := Lib.hid (altruth d w)
  go_enter Tryd.func16, Tryd.ntmps16
  go_wp2_with (go_at_call 8; (with_reducible refine HT.out.mono ?_); rintro e w0 ⟨rfl, rfl⟩)
  go_ret2
  exact ⟨rfl, rfl⟩
theorem alcmp7 {w : World} (v u : Nat) (hv : v < 4294967296) (hu : u < 4294967296) : Calls Tryd.prog 16 #[.int .u8 77, .int .u32 v, .int .u32 u] w fun e w' => e = .returned (.tuple #[.int .u32 (((cmpN 32 7 v u).toNat : Nat)), .int .i64 (0)]) ∧ w = w' := by
  obtain ⟨d, hd⟩ : ∃ d, d = cmpN 32 7 v u := ⟨_, rfl⟩
  rw [← hd]
  have hd2 : decide (v ≤ u) = d := by rw [hd]; rfl
  clear hd
  have HT := Lib.hid (altruth d w)
  go_enter Tryd.func16, Tryd.ntmps16
  go_wp2_with (go_at_call 8; (with_reducible refine HT.out.mono ?_); rintro e w0 ⟨rfl, rfl⟩)
  go_ret2
  exact ⟨rfl, rfl⟩
theorem alcmp8 {w : World} (v u : Nat) (hv : v < 4294967296) (hu : u < 4294967296) : Calls Tryd.prog 16 #[.int .u8 78, .int .u32 v, .int .u32 u] w fun e w' => e = .returned (.tuple #[.int .u32 (((cmpN 32 8 v u).toNat : Nat)), .int .i64 (0)]) ∧ w = w' := by
  have ev := alwr hv
  have eu := alwr hu
  obtain ⟨d, hd⟩ : ∃ d, d = cmpN 32 8 v u := ⟨_, rfl⟩
  rw [← hd]
  have hd2 : decide (sg 32 v ≥ sg 32 u) = d := by rw [hd]; rfl
  clear hd
  generalize sg 32 v = x at *
  generalize sg 32 u = y at *
  have HT := Lib.hid (altruth d w)
  go_enter Tryd.func16, Tryd.ntmps16
  go_wp2_with (go_at_call 8; (with_reducible refine HT.out.mono ?_); rintro e w0 ⟨rfl, rfl⟩)
  go_ret2
  exact ⟨rfl, rfl⟩
theorem alcmp9 {w : World} (v u : Nat) (hv : v < 4294967296) (hu : u < 4294967296) : Calls Tryd.prog 16 #[.int .u8 79, .int .u32 v, .int .u32 u] w fun e w' => e = .returned (.tuple #[.int .u32 (((cmpN 32 9 v u).toNat : Nat)), .int .i64 (0)]) ∧ w = w' := by
  obtain ⟨d, hd⟩ : ∃ d, d = cmpN 32 9 v u := ⟨_, rfl⟩
  rw [← hd]
  have hd2 : decide (v ≥ u) = d := by rw [hd]; rfl
  clear hd
  have HT := Lib.hid (altruth d w)
  go_enter Tryd.func16, Tryd.ntmps16
  go_wp2_with (go_at_call 8; (with_reducible refine HT.out.mono ?_); rintro e w0 ⟨rfl, rfl⟩)
  go_ret2
  exact ⟨rfl, rfl⟩
theorem alcmpNot {w : World} (op : Int) (v u : Nat) (hv : v < 4294967296) (hu : u < 4294967296) (h : op < 70 ∨ 79 < op) : Calls Tryd.prog 16 #[.int .u8 op, .int .u32 v, .int .u32 u] w fun e w' => e = .returned (.tuple #[.int .u32 (0), .int .i64 (9)]) ∧ w = w' := by
  have d0 : (op == 70) = false := by simp; omega
  have d1 : (op == 71) = false := by simp; omega
  have d2 : (op == 72) = false := by simp; omega
  have d3 : (op == 73) = false := by simp; omega
  have d4 : (op == 74) = false := by simp; omega
  have d5 : (op == 75) = false := by simp; omega
  have d6 : (op == 76) = false := by simp; omega
  have d7 : (op == 77) = false := by simp; omega
  have d8 : (op == 78) = false := by simp; omega
  have d9 : (op == 79) = false := by simp; omega
  clear h
  go_enter Tryd.func16, Tryd.ntmps16
  go_wp2
  go_ret2
  exact ⟨rfl, rfl⟩
end Go.Proofs.YtfjlknanaempdaaDoor

/- The program's Two of 32 bits, as a plain function of numbers. (By gen/genAl.py.) -/
namespace Go.Proofs.YtfjlknanaempdaaDoor
open Go.RowKit
set_option linter.unusedVariables false
set_option maxRecDepth 100000
theorem altwo0 {w : World} (v u : Nat) (hv : v < 4294967296) (hu : u < 4294967296) : Calls Tryd.prog 7 #[.int .u8 106, .int .u32 v, .int .u32 u] w fun e w' => e = .returned (.tuple #[.int .u32 (((v + u) % 2 ^ 32 : Nat)), .int .i64 (0)]) ∧ w = w' := by
  obtain ⟨r, hr2⟩ : ∃ r : Nat, r = (v + u) % 2 ^ 32 := ⟨_, rfl⟩
  rw [← hr2]
  have q : ((v : Int) + (u : Int)) % 4294967296 = (r : Int) := by rw [hr2, show 2 ^ 32 = 4294967296 by decide]; omega
  clear hr2
  go_enter Tryd.func7, Tryd.ntmps7
  go_wp2
  go_ret2
  first | exact ⟨rfl, rfl⟩ | exact ⟨congrArg (fun z => Ending.returned (Value.tuple #[Value.int .u32 z, Value.int .i64 0])) q, rfl⟩
theorem altwo1 {w : World} (v u : Nat) (hv : v < 4294967296) (hu : u < 4294967296) : Calls Tryd.prog 7 #[.int .u8 107, .int .u32 v, .int .u32 u] w fun e w' => e = .returned (.tuple #[.int .u32 (((v + (2 ^ 32 - u)) % 2 ^ 32 : Nat)), .int .i64 (0)]) ∧ w = w' := by
  obtain ⟨r, hr2⟩ : ∃ r : Nat, r = (v + (2 ^ 32 - u)) % 2 ^ 32 := ⟨_, rfl⟩
  rw [← hr2]
  have q : ((v : Int) - (u : Int)) % 4294967296 = (r : Int) := by rw [hr2, show 2 ^ 32 = 4294967296 by decide]; omega
  clear hr2
  go_enter Tryd.func7, Tryd.ntmps7
  go_wp2
  go_ret2
  first | exact ⟨rfl, rfl⟩ | exact ⟨congrArg (fun z => Ending.returned (Value.tuple #[Value.int .u32 z, Value.int .i64 0])) q, rfl⟩
theorem altwo2 {w : World} (v u : Nat) (hv : v < 4294967296) (hu : u < 4294967296) : Calls Tryd.prog 7 #[.int .u8 108, .int .u32 v, .int .u32 u] w fun e w' => e = .returned (.tuple #[.int .u32 ((v * u % 2 ^ 32 : Nat)), .int .i64 (0)]) ∧ w = w' := by
  obtain ⟨r, hr2⟩ : ∃ r : Nat, r = v * u % 2 ^ 32 := ⟨_, rfl⟩
  rw [← hr2]
  have q : ((v : Int) * (u : Int)) % 4294967296 = (r : Int) := by rw [hr2, show 2 ^ 32 = 4294967296 by decide, Int.natCast_emod, Int.natCast_mul]; rfl
  clear hr2
  go_enter Tryd.func7, Tryd.ntmps7
  go_wp2
  go_ret2
  first | exact ⟨rfl, rfl⟩ | exact ⟨congrArg (fun z => Ending.returned (Value.tuple #[Value.int .u32 z, Value.int .i64 0])) q, rfl⟩
theorem altwo7 {w : World} (v u : Nat) (hv : v < 4294967296) (hu : u < 4294967296) : Calls Tryd.prog 7 #[.int .u8 113, .int .u32 v, .int .u32 u] w fun e w' => e = .returned (.tuple #[.int .u32 (((v &&& u) % 2 ^ 32 : Nat)), .int .i64 (0)]) ∧ w = w' := by
  obtain ⟨r, hr2⟩ : ∃ r : Nat, r = (v &&& u) % 2 ^ 32 := ⟨_, rfl⟩
  rw [← hr2]
  have q : bits .and .u32 (v : Int) (u : Int) = (r : Int) := by rw [hr2, u32_and_nat _ _ hv hu, Nat.mod_eq_of_lt (Nat.and_lt_two_pow _ (show u < 2 ^ 32 from hu))]
  clear hr2
  go_enter Tryd.func7, Tryd.ntmps7
  go_wp2
  go_ret2
  first | exact ⟨rfl, rfl⟩ | exact ⟨congrArg (fun z => Ending.returned (Value.tuple #[Value.int .u32 z, Value.int .i64 0])) q, rfl⟩
theorem altwo8 {w : World} (v u : Nat) (hv : v < 4294967296) (hu : u < 4294967296) : Calls Tryd.prog 7 #[.int .u8 114, .int .u32 v, .int .u32 u] w fun e w' => e = .returned (.tuple #[.int .u32 (((v ||| u) % 2 ^ 32 : Nat)), .int .i64 (0)]) ∧ w = w' := by
  obtain ⟨r, hr2⟩ : ∃ r : Nat, r = (v ||| u) % 2 ^ 32 := ⟨_, rfl⟩
  rw [← hr2]
  have q : bits .or .u32 (v : Int) (u : Int) = (r : Int) := by rw [hr2, u32_or_nat _ _ hv hu, Nat.mod_eq_of_lt (Nat.or_lt_two_pow (show v < 2 ^ 32 from hv) (show u < 2 ^ 32 from hu))]
  clear hr2
  go_enter Tryd.func7, Tryd.ntmps7
  go_wp2
  go_ret2
  first | exact ⟨rfl, rfl⟩ | exact ⟨congrArg (fun z => Ending.returned (Value.tuple #[Value.int .u32 z, Value.int .i64 0])) q, rfl⟩
theorem altwo9 {w : World} (v u : Nat) (hv : v < 4294967296) (hu : u < 4294967296) : Calls Tryd.prog 7 #[.int .u8 115, .int .u32 v, .int .u32 u] w fun e w' => e = .returned (.tuple #[.int .u32 (((v ^^^ u) % 2 ^ 32 : Nat)), .int .i64 (0)]) ∧ w = w' := by
  obtain ⟨r, hr2⟩ : ∃ r : Nat, r = (v ^^^ u) % 2 ^ 32 := ⟨_, rfl⟩
  rw [← hr2]
  have q : bits .xor .u32 (v : Int) (u : Int) = (r : Int) := by rw [hr2, u32_xor_nat _ _ hv hu, Nat.mod_eq_of_lt (Nat.xor_lt_two_pow (show v < 2 ^ 32 from hv) (show u < 2 ^ 32 from hu))]
  clear hr2
  go_enter Tryd.func7, Tryd.ntmps7
  go_wp2
  go_ret2
  first | exact ⟨rfl, rfl⟩ | exact ⟨congrArg (fun z => Ending.returned (Value.tuple #[Value.int .u32 z, Value.int .i64 0])) q, rfl⟩
theorem altwo3 {w : World} (v u : Nat) (hv : v < 4294967296) (hu : u < 4294967296) : Calls Tryd.prog 7 #[.int .u8 109, .int .u32 v, .int .u32 u] w fun e w' => e = .returned (.tuple #[.int .u32 ((quoN 32 0 v u).1), .int .i64 ((quoN 32 0 v u).2)]) ∧ w = w' := by
  have HD := Lib.hid (aldiv0 (w := w) v u hv hu)
  generalize quoN 32 0 v u = p at *
  go_enter Tryd.func7, Tryd.ntmps7
  go_wp2_with (go_at_call 14; (with_reducible refine HD.out.mono ?_); rintro e w0 ⟨rfl, rfl⟩)
  go_ret2
  exact ⟨rfl, rfl⟩
theorem altwo4 {w : World} (v u : Nat) (hv : v < 4294967296) (hu : u < 4294967296) : Calls Tryd.prog 7 #[.int .u8 110, .int .u32 v, .int .u32 u] w fun e w' => e = .returned (.tuple #[.int .u32 ((quoN 32 1 v u).1), .int .i64 ((quoN 32 1 v u).2)]) ∧ w = w' := by
  have HD := Lib.hid (aldiv1 (w := w) v u hv hu)
  generalize quoN 32 1 v u = p at *
  go_enter Tryd.func7, Tryd.ntmps7
  go_wp2_with (go_at_call 14; (with_reducible refine HD.out.mono ?_); rintro e w0 ⟨rfl, rfl⟩)
  go_ret2
  exact ⟨rfl, rfl⟩
theorem altwo5 {w : World} (v u : Nat) (hv : v < 4294967296) (hu : u < 4294967296) : Calls Tryd.prog 7 #[.int .u8 111, .int .u32 v, .int .u32 u] w fun e w' => e = .returned (.tuple #[.int .u32 ((quoN 32 2 v u).1), .int .i64 ((quoN 32 2 v u).2)]) ∧ w = w' := by
  have HD := Lib.hid (aldiv2 (w := w) v u hv hu)
  generalize quoN 32 2 v u = p at *
  go_enter Tryd.func7, Tryd.ntmps7
  go_wp2_with (go_at_call 14; (with_reducible refine HD.out.mono ?_); rintro e w0 ⟨rfl, rfl⟩)
  go_ret2
  exact ⟨rfl, rfl⟩
theorem altwo6 {w : World} (v u : Nat) (hv : v < 4294967296) (hu : u < 4294967296) : Calls Tryd.prog 7 #[.int .u8 112, .int .u32 v, .int .u32 u] w fun e w' => e = .returned (.tuple #[.int .u32 ((quoN 32 3 v u).1), .int .i64 ((quoN 32 3 v u).2)]) ∧ w = w' := by
  have HD := Lib.hid (aldiv3 (w := w) v u hv hu)
  generalize quoN 32 3 v u = p at *
  go_enter Tryd.func7, Tryd.ntmps7
  go_wp2_with (go_at_call 14; (with_reducible refine HD.out.mono ?_); rintro e w0 ⟨rfl, rfl⟩)
  go_ret2
  exact ⟨rfl, rfl⟩
theorem altwo10 {w : World} (v u : Nat) (hv : v < 4294967296) (hu : u < 4294967296) : Calls Tryd.prog 7 #[.int .u8 116, .int .u32 v, .int .u32 u] w fun e w' => e = .returned (.tuple #[.int .u32 ((v * 2 ^ (u % 32) % 4294967296 : Nat)), .int .i64 (0)]) ∧ w = w' := by
  have HD := Lib.hid (alsh0 (w := w) v (u % 32) hv (by omega))
  have e1 : (u : Int) % 32 = ((u % 32 : Nat) : Int) := by omega
  generalize u % 32 = q at *
  generalize v * 2 ^ q % 4294967296 = r at *
  go_enter Tryd.func7, Tryd.ntmps7
  go_wp2_with (go_at_call 15; (with_reducible refine HD.out.mono ?_); rintro e w0 ⟨rfl, rfl⟩)
  go_ret2
  exact ⟨rfl, rfl⟩
theorem altwo11 {w : World} (v u : Nat) (hv : v < 4294967296) (hu : u < 4294967296) : Calls Tryd.prog 7 #[.int .u8 117, .int .u32 v, .int .u32 u] w fun e w' => e = .returned (.tuple #[.int .u32 (((sg 32 v / 2 ^ (u % 32) % 4294967296).toNat : Nat)), .int .i64 (0)]) ∧ w = w' := by
  have HD := Lib.hid (alsh1 (w := w) v (u % 32) hv (by omega))
  have e1 : (u : Int) % 32 = ((u % 32 : Nat) : Int) := by omega
  generalize u % 32 = q at *
  generalize (sg 32 v / 2 ^ q % 4294967296).toNat = r at *
  go_enter Tryd.func7, Tryd.ntmps7
  go_wp2_with (go_at_call 15; (with_reducible refine HD.out.mono ?_); rintro e w0 ⟨rfl, rfl⟩)
  go_ret2
  exact ⟨rfl, rfl⟩
theorem altwo12 {w : World} (v u : Nat) (hv : v < 4294967296) (hu : u < 4294967296) : Calls Tryd.prog 7 #[.int .u8 118, .int .u32 v, .int .u32 u] w fun e w' => e = .returned (.tuple #[.int .u32 ((v / 2 ^ (u % 32) : Nat)), .int .i64 (0)]) ∧ w = w' := by
  have HD := Lib.hid (alsh2 (w := w) v (u % 32) hv (by omega))
  have e1 : (u : Int) % 32 = ((u % 32 : Nat) : Int) := by omega
  generalize u % 32 = q at *
  generalize v / 2 ^ q = r at *
  go_enter Tryd.func7, Tryd.ntmps7
  go_wp2_with (go_at_call 15; (with_reducible refine HD.out.mono ?_); rintro e w0 ⟨rfl, rfl⟩)
  go_ret2
  exact ⟨rfl, rfl⟩
theorem altwo13 {w : World} (v u : Nat) (hv : v < 4294967296) (hu : u < 4294967296) : Calls Tryd.prog 7 #[.int .u8 119, .int .u32 v, .int .u32 u] w fun e w' => e = .returned (.tuple #[.int .u32 ((rotN 32 v (u % 32) : Nat)), .int .i64 (0)]) ∧ w = w' := by
  have HD := Lib.hid (alsh3 (w := w) v (u % 32) hv (by omega))
  have e1 : (u : Int) % 32 = ((u % 32 : Nat) : Int) := by omega
  generalize u % 32 = q at *
  generalize rotN 32 v q = r at *
  go_enter Tryd.func7, Tryd.ntmps7
  go_wp2_with (go_at_call 15; (with_reducible refine HD.out.mono ?_); rintro e w0 ⟨rfl, rfl⟩)
  go_ret2
  exact ⟨rfl, rfl⟩
theorem altwo14 {w : World} (v u : Nat) (hv : v < 4294967296) (hu : u < 4294967296) : Calls Tryd.prog 7 #[.int .u8 120, .int .u32 v, .int .u32 u] w fun e w' => e = .returned (.tuple #[.int .u32 ((rotN 32 v ((32 - u % 32) % 32) : Nat)), .int .i64 (0)]) ∧ w = w' := by
  have HD := Lib.hid (alsh4 (w := w) v (u % 32) hv (by omega))
  have e1 : (u : Int) % 32 = ((u % 32 : Nat) : Int) := by omega
  generalize u % 32 = q at *
  generalize rotN 32 v ((32 - q) % 32) = r at *
  go_enter Tryd.func7, Tryd.ntmps7
  go_wp2_with (go_at_call 15; (with_reducible refine HD.out.mono ?_); rintro e w0 ⟨rfl, rfl⟩)
  go_ret2
  exact ⟨rfl, rfl⟩
theorem altwoCmp {w : World} (op : Int) (v u : Nat) (x y : Int) (h : op < 106 ∨ 120 < op) (hC : Calls Tryd.prog 16 #[.int .u8 op, .int .u32 v, .int .u32 u] w fun e w' => e = .returned (.tuple #[.int .u32 (x), .int .i64 (y)]) ∧ w = w') : Calls Tryd.prog 7 #[.int .u8 op, .int .u32 v, .int .u32 u] w fun e w' => e = .returned (.tuple #[.int .u32 (x), .int .i64 (y)]) ∧ w = w' := by
  have HC := Lib.hid hC
  clear hC
  have d0 : (op == 106) = false := by simp; omega
  have d1 : (op == 107) = false := by simp; omega
  have d2 : (op == 108) = false := by simp; omega
  have d3 : (op == 109) = false := by simp; omega
  have d4 : (op == 110) = false := by simp; omega
  have d5 : (op == 111) = false := by simp; omega
  have d6 : (op == 112) = false := by simp; omega
  have d7 : (op == 113) = false := by simp; omega
  have d8 : (op == 114) = false := by simp; omega
  have d9 : (op == 115) = false := by simp; omega
  have d10 : (op == 116) = false := by simp; omega
  have d11 : (op == 117) = false := by simp; omega
  have d12 : (op == 118) = false := by simp; omega
  have d13 : (op == 119) = false := by simp; omega
  have d14 : (op == 120) = false := by simp; omega
  clear h
  go_enter Tryd.func7, Tryd.ntmps7
  go_wp2_with (go_at_call 16; (with_reducible refine HC.out.mono ?_); rintro e w0 ⟨rfl, rfl⟩)
  go_ret2
  exact ⟨rfl, rfl⟩
end Go.Proofs.YtfjlknanaempdaaDoor
