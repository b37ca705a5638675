/- quotient, bit of creelref19. (By gen/genBt.py.) -/
import Derived.Test.YtjgdfajooccalaaDoorZd03
import Derived.Test.YtjgdfajooccalaaDoorZd05
import Derived.Deep.QuietTactic
import Derived.Deep.CutBlock
import Derived.Deep.DeepCutAuto
import Derived.WalkLawsBesides
import Derived.BigQuiet
import Derived.LoopTactic
import Derived.Deep.DeepMust
import Derived.Test.YtjgdfajooccalaaDoorZd02
namespace Go.Proofs.YtjgdfajooccalaaDoor
open Go.RowKit
set_option linter.unusedVariables false
set_option maxRecDepth 100000

end Go.Proofs.YtjgdfajooccalaaDoor

/- bit, Compare of creelref19. (By gen/genBt.py.) -/
namespace Go.Proofs.YtjgdfajooccalaaDoor
open Go.RowKit
set_option linter.unusedVariables false
set_option maxRecDepth 100000

end Go.Proofs.YtjgdfajooccalaaDoor

/- Compare of creelref19. (By gen/genBt.py.) -/
namespace Go.Proofs.YtjgdfajooccalaaDoor
open Go.RowKit
set_option linter.unusedVariables false
set_option maxRecDepth 100000

end Go.Proofs.YtjgdfajooccalaaDoor

/- Two of creelref19. (By gen/genBt.py.) -/
namespace Go.Proofs.YtjgdfajooccalaaDoor
open Go.RowKit
set_option linter.unusedVariables false
set_option maxRecDepth 100000

end Go.Proofs.YtjgdfajooccalaaDoor

/- What Two makes, the program's and the reference's, of 64 bits; the page's example; the law of Two. (By gen/genArD.py.) -/
namespace Go.Proofs.YtjgdfajooccalaaDoor
open Go.RowKit
set_option linter.unusedVariables false
set_option maxRecDepth 100000
theorem aw_awake (w : World) : Calls Tryd.prog 5 #[] w fun e w' => e = .returned (.bool true) ∧ w = w' := by
  have H1 := Lib.hid (fun W => show Calls Tryd.prog 11 #[.int .u8 127, .int .u64 18446744073709551609, .int .u64 2] W fun e w' => e = .returned (.tuple #[.int .u64 18446744073709551613, .int .i64 0]) ∧ W = w' from aw_two 127 18446744073709551609 2 (by decide) (by decide))
  have H2 := Lib.hid (fun W => show Calls Tryd.prog 11 #[.int .u8 129, .int .u64 18446744073709551609, .int .u64 2] W fun e w' => e = .returned (.tuple #[.int .u64 18446744073709551615, .int .i64 0]) ∧ W = w' from aw_two 129 18446744073709551609 2 (by decide) (by decide))
  go_enter Tryd.func5, Tryd.ntmps5
  go_wp2_with (first | (go_at_call 11; (with_reducible refine (H1.out _).mono ?_); rintro e w0 ⟨rfl, rfl⟩) | (go_at_call 11; (with_reducible refine (H2.out _).mono ?_); rintro e w0 ⟨rfl, rfl⟩))
  go_ret
  exact ⟨rfl, rfl⟩
end Go.Proofs.YtjgdfajooccalaaDoor

/- One at 64 bits, package arith's, wide's and the reference's; the law of One. (By gen/genArF.py.) -/
namespace Go.Proofs.YtjgdfajooccalaaDoor
open Go.RowKit
set_option linter.unusedVariables false
set_option maxRecDepth 100000

theorem awone0 {w : World} (v : Nat) (hv : v < 18446744073709551616) : Calls Tryd.prog 12 #[.int .u8 1, .int .u64 v] w fun e w' => e = .returned (.tuple #[.int .u64 ((cntL (bitsL 64 v) == 0).toNat : Nat), .bool true]) ∧ w = w' := by
  have hz : ((v : Int) == 0) = (cntL (bitsL 64 v) == 0) := by
    have h := cntL_zero (bitsL 64 v)
    rw [num_of (show v < 2 ^ 64 from hv)] at h
    rw [show ((v : Int) == 0) = (v == 0) from int_beq v 0, Bool.eq_iff_iff, beq_iff_eq, beq_iff_eq]
    exact h.symm
  generalize (cntL (bitsL 64 v) == 0) = b at *
  have HT := Lib.hid (awtruth b w)
  go_enter Tryd.func12, Tryd.ntmps12
  go_wp2_with (go_at_call 21; (with_reducible refine HT.out.mono ?_); rintro e w0 ⟨rfl, rfl⟩)
  go_ret2
  first | exact ⟨rfl, rfl⟩ | exact ⟨congrArg (fun z => Ending.returned (Value.tuple #[Value.int .u64 z, Value.bool true])) q, rfl⟩
theorem awone1 {w : World} (v : Nat) (hv : v < 18446744073709551616) : Calls Tryd.prog 12 #[.int .u8 12, .int .u64 v] w fun e w' => e = .returned (.tuple #[.int .u64 (tzL (bitsL 64 v).reverse : Nat), .bool true]) ∧ w = w' := by
  have hc := clz_of (n := 64) (v := v) hv (by decide)
  have HL := Lib.hid (fun W => Tryd.bits_Len64 (v : Int) W (by omega) (by omega))
  rw [Int.toNat_natCast] at HL
  generalize tzL (bitsL 64 v).reverse = r at *
  generalize Lib.bitLen v = b at *
  have e1 : IntKind.u64.wrap (v : Int) = (v : Int) := by rw [IntKind.wrap_u64]; omega
  have e2 : IntKind.u64.wrap ((b : Int)) = (b : Int) := by rw [IntKind.wrap_u64]; omega
  have q : IntKind.u64.wrap (64 - (b : Int)) = (r : Int) := by rw [IntKind.wrap_u64]; omega
  clear hc
  have HW := Lib.hid (fun W => awwid (w := W))
  go_enter Tryd.func12, Tryd.ntmps12
  go_wp2_with (first | (go_at_call 22; (with_reducible refine (HW.out _).mono ?_); rintro e w0 ⟨rfl, rfl⟩) | (go_at_call 23; (with_reducible refine (HL.out _).mono ?_); rintro e w0 ⟨rfl, rfl⟩))
  go_ret2
  first | exact ⟨rfl, rfl⟩ | exact ⟨congrArg (fun z => Ending.returned (Value.tuple #[Value.int .u64 z, Value.bool true])) q, rfl⟩
theorem awone2 {w : World} (v : Nat) (hv : v < 18446744073709551616) (hT : TabB w) : Calls Tryd.prog 12 #[.int .u8 13, .int .u64 v] w fun e w' => e = .returned (.tuple #[.int .u64 (tzL (bitsL 64 v) : Nat), .bool true]) ∧ w = w' := by
  have HL := Lib.hid (tz_any (w := w) v (by omega) hT)
  rw [ctz_of] at HL
  have hm := tz_min 64 0 v
  have hl := tzL_le (bitsL 64 v)
  rw [bitsL_len] at hl
  rw [show 64 + 0 = 64 from rfl] at hm
  generalize tzL (bitsL 64 v) = r at *
  have e1 : IntKind.u64.wrap (v : Int) = (v : Int) := by rw [IntKind.wrap_u64]; omega
  have e2 : IntKind.u64.wrap ((r : Int)) = (r : Int) := by rw [IntKind.wrap_u64]; omega
  have q : min (r : Int) 64 = (r : Int) := by omega
  clear hm
  have HW := Lib.hid (fun W => awwid (w := W))
  go_enter Tryd.func12, Tryd.ntmps12
  go_wp2_with (first | (go_at_call 22; (with_reducible refine (HW.out _).mono ?_); rintro e w0 ⟨rfl, rfl⟩) | (go_at_call 24; (with_reducible refine HL.out.mono ?_); rintro e w0 ⟨rfl, rfl⟩))
  go_ret2
  first | exact ⟨rfl, rfl⟩ | exact ⟨congrArg (fun z => Ending.returned (Value.tuple #[Value.int .u64 z, Value.bool true])) q, rfl⟩
theorem awone3 {w : World} (v : Nat) (hv : v < 18446744073709551616) : Calls Tryd.prog 12 #[.int .u8 14, .int .u64 v] w fun e w' => e = .returned (.tuple #[.int .u64 (cntL (bitsL 64 v) : Nat), .bool true]) ∧ w = w' := by
  have HL := Lib.hid (ones_any (w := w) v (by omega))
  rw [pop_of (n := 64) hv (by decide), ← cnt_pop] at HL
  have hl := cntL_le (bitsL 64 v)
  rw [bitsL_len] at hl
  generalize cntL (bitsL 64 v) = r at *
  have e1 : IntKind.u64.wrap (v : Int) = (v : Int) := by rw [IntKind.wrap_u64]; omega
  have e2 : IntKind.u64.wrap ((r : Int)) = (r : Int) := by rw [IntKind.wrap_u64]; omega
  go_enter Tryd.func12, Tryd.ntmps12
  go_wp2_with (go_at_call 25; (with_reducible refine HL.out.mono ?_); rintro e w0 ⟨rfl, rfl⟩)
  go_ret2
  first | exact ⟨rfl, rfl⟩ | exact ⟨congrArg (fun z => Ending.returned (Value.tuple #[Value.int .u64 z, Value.bool true])) q, rfl⟩
theorem awoneNot {w : World} (op v : Nat) (h : op ≠ 1 ∧ op ≠ 12 ∧ op ≠ 13 ∧ op ≠ 14) : Calls Tryd.prog 12 #[.int .u8 op, .int .u64 v] w fun e w' => e = .returned (.tuple #[.int .u64 0, .bool false]) ∧ w = w' := by
  have d0 : ((op : Int) == 1) = false := by simp; omega
  have d1 : ((op : Int) == 12) = false := by simp; omega
  have d2 : ((op : Int) == 13) = false := by simp; omega
  have d3 : ((op : Int) == 14) = false := by simp; omega
  clear h
  go_enter Tryd.func12, Tryd.ntmps12
  go_wp2
  go_ret2
  exact ⟨rfl, rfl⟩
theorem awoneP {w : World} (op v x r : Nat) (b : Bool) (ho : op < 256) (hr : ofN 81 124 op = r) (HA : Calls Tryd.prog 12 #[.int .u8 r, .int .u64 v] w fun e w' => e = .returned (.tuple #[.int .u64 x, .bool b]) ∧ w = w') :
    Calls Tryd.prog 6 #[.int .u8 op, .int .u64 v] w fun e w' => e = .returned (.tuple #[.int .u64 x, .bool b]) ∧ w = w' := by
  have HO := Lib.hid (awof (w := w) op ho)
  rw [hr] at HO
  have HB := Lib.hid HA
  clear HA hr
  go_enter Tryd.func6, Tryd.ntmps6
  go_wp2_with (first | (go_at_call 13; (with_reducible refine HO.out.mono ?_); rintro e w0 ⟨rfl, rfl⟩) | (go_at_call 12; (with_reducible refine HB.out.mono ?_); rintro e w0 ⟨rfl, rfl⟩))
  go_ret2
  exact ⟨rfl, rfl⟩
/-- The law, both sides told. -/
theorem awone_both {w : World} (op v x : Nat) (b : Bool) (hv : v < 18446744073709551616) (hx : x < 18446744073709551616) (ho : op < 256)
    (HA : Calls Tryd.prog 6 #[.int .u8 op, .int .u64 v] w fun e w' => e = .returned (.tuple #[.int .u64 x, .bool b]) ∧ w = w')
    (HR : ∀ W, Calls Tryd.prog 7 #[.int .i64 op, .int .u64 v] W fun e w' => e = .returned (.tuple #[.int .u64 x, .bool b]) ∧ Below W.heap.size W w') :
    Calls Tryd.prog 3 #[.int .u8 op, .int .u64 v] w fun e w' => e = .returned (.bool true) ∧ Below w.heap.size w w' := by
  have HA1 := Lib.hid HA
  have HR1 := Lib.hid HR
  clear HA HR
  go_enter Tryd.func3, Tryd.ntmps3
  go_wp2_with (first | (go_at_call 5; (with_reducible refine (aw_awake _).mono ?_); rintro e w0 ⟨rfl, rfl⟩) | (go_at_call 6; (with_reducible refine HA1.out.mono ?_); rintro e w1 ⟨rfl, rfl⟩) | (go_at_call 7; (with_reducible refine (HR1.out _).mono ?_); rintro e w2 ⟨rfl, hb2⟩; have HB2 := Lib.hid hb2; clear hb2))
  go_ret
  exact ⟨rfl, HB2.out⟩
theorem awone_law (op v : Nat) (w : World) (hT : TabB w) (ho : op < 256) (hv : v < 18446744073709551616) : Calls Tryd.prog 3 #[.int .u8 op, .int .u64 v] w fun e w' => e = .returned (.bool true) ∧ Below w.heap.size w w' := by
  have hv6 : v < 18446744073709551616 := by omega
  have lc := cntL_le (bitsL 64 v)
  have lt := tzL_le (bitsL 64 v)
  have lr := tzL_le (bitsL 64 v).reverse
  rw [List.length_reverse, bitsL_len] at lr
  rw [bitsL_len] at lc lt
  by_cases h0 : op = 80
  · subst h0
    exact awone_both 80 v _ true hv (by cases (cntL (bitsL 64 v) == 0) <;> decide) ho (awoneP 80 v _ 1 true ho rfl (awone0 v hv)) (fun W => onew0 v hv6)
  by_cases h1 : op = 121
  · subst h1
    exact awone_both 121 v _ true hv (by omega) ho (awoneP 121 v _ 12 true ho rfl (awone1 v hv)) (fun W => onew1 v hv6)
  by_cases h2 : op = 122
  · subst h2
    exact awone_both 122 v _ true hv (by omega) ho (awoneP 122 v _ 13 true ho rfl (awone2 v hv hT)) (fun W => onew2 v hv6)
  by_cases h3 : op = 123
  · subst h3
    exact awone_both 123 v _ true hv (by omega) ho (awoneP 123 v _ 14 true ho rfl (awone3 v hv)) (fun W => onew3 v hv6)
  · have hr : ofN 81 124 op ≠ 1 ∧ ofN 81 124 op ≠ 12 ∧ ofN 81 124 op ≠ 13 ∧ ofN 81 124 op ≠ 14 := by unfold ofN; split <;> (try split) <;> omega
    exact awone_both op v 0 false hv (by decide) ho (awoneP op v 0 _ false ho rfl (awoneNot _ v hr)) (fun W => oneNow (op : Int) v hv6 (by omega) (by omega) (by omega) (by omega))
end Go.Proofs.YtjgdfajooccalaaDoor
