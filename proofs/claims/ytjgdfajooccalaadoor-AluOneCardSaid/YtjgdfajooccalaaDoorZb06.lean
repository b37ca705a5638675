/- quotient, bit of creelref18. (By gen/genBt.py.) -/
import Derived.Test.YtjgdfajooccalaaDoorZb03
import Derived.Test.YtjgdfajooccalaaDoorZb05
import Derived.Deep.QuietTactic
import Derived.Deep.CutBlock
import Derived.Deep.DeepCutAuto
import Derived.WalkLawsBesides
import Derived.BigQuiet
import Derived.LoopTactic
import Derived.Deep.DeepMust
import Derived.Test.YtjgdfajooccalaaDoorZb02
namespace Go.Proofs.YtjgdfajooccalaaDoor
open Go.RowKit
set_option linter.unusedVariables false
set_option maxRecDepth 100000

end Go.Proofs.YtjgdfajooccalaaDoor

/- bit, Compare of creelref18. (By gen/genBt.py.) -/
namespace Go.Proofs.YtjgdfajooccalaaDoor
open Go.RowKit
set_option linter.unusedVariables false
set_option maxRecDepth 100000

end Go.Proofs.YtjgdfajooccalaaDoor

/- Compare of creelref18. (By gen/genBt.py.) -/
namespace Go.Proofs.YtjgdfajooccalaaDoor
open Go.RowKit
set_option linter.unusedVariables false
set_option maxRecDepth 100000

end Go.Proofs.YtjgdfajooccalaaDoor

/- Two of creelref18. (By gen/genBt.py.) -/
namespace Go.Proofs.YtjgdfajooccalaaDoor
open Go.RowKit
set_option linter.unusedVariables false
set_option maxRecDepth 100000

end Go.Proofs.YtjgdfajooccalaaDoor

/- What Two makes, the program's and the reference's, of 32 bits; the page's example; the law of Two. (By gen/genArD.py.) -/
namespace Go.Proofs.YtjgdfajooccalaaDoor
open Go.RowKit
set_option linter.unusedVariables false
set_option maxRecDepth 100000
theorem ar_awake (w : World) : Calls Tryd.prog 8 #[] w fun e w' => e = .returned (.bool true) ∧ w = w' := by
  have H1 := Lib.hid (fun W => show Calls Tryd.prog 16 #[.int .u8 109, .int .u32 4294967289, .int .u32 2] W fun e w' => e = .returned (.tuple #[.int .u32 4294967293, .int .i64 0]) ∧ W = w' from ar_two 109 4294967289 2 (by decide) (by decide))
  have H2 := Lib.hid (fun W => show Calls Tryd.prog 16 #[.int .u8 111, .int .u32 4294967289, .int .u32 2] W fun e w' => e = .returned (.tuple #[.int .u32 4294967295, .int .i64 0]) ∧ W = w' from ar_two 111 4294967289 2 (by decide) (by decide))
  go_enter Tryd.func8, Tryd.ntmps8
  go_wp2_with (first | (go_at_call 16; (with_reducible refine (H1.out _).mono ?_); rintro e w0 ⟨rfl, rfl⟩) | (go_at_call 16; (with_reducible refine (H2.out _).mono ?_); rintro e w0 ⟨rfl, rfl⟩))
  go_ret
  exact ⟨rfl, rfl⟩
end Go.Proofs.YtjgdfajooccalaaDoor

/- One at 32 bits, package arith's, alu's and the reference's; the law of One. (By gen/genArF.py.) -/
namespace Go.Proofs.YtjgdfajooccalaaDoor
open Go.RowKit
set_option linter.unusedVariables false
set_option maxRecDepth 100000

theorem arone0 {w : World} (v : Nat) (hv : v < 4294967296) : Calls Tryd.prog 17 #[.int .u8 1, .int .u32 v] w fun e w' => e = .returned (.tuple #[.int .u32 ((cntL (bitsL 32 v) == 0).toNat : Nat), .bool true]) ∧ w = w' := by
  have hz : ((v : Int) == 0) = (cntL (bitsL 32 v) == 0) := by
    have h := cntL_zero (bitsL 32 v)
    rw [num_of (show v < 2 ^ 32 from hv)] at h
    rw [show ((v : Int) == 0) = (v == 0) from int_beq v 0, Bool.eq_iff_iff, beq_iff_eq, beq_iff_eq]
    exact h.symm
  generalize (cntL (bitsL 32 v) == 0) = b at *
  have HT := Lib.hid (artruth b w)
  go_enter Tryd.func17, Tryd.ntmps17
  go_wp2_with (go_at_call 27; (with_reducible refine HT.out.mono ?_); rintro e w0 ⟨rfl, rfl⟩)
  go_ret2
  first | exact ⟨rfl, rfl⟩ | exact ⟨congrArg (fun z => Ending.returned (Value.tuple #[Value.int .u32 z, Value.bool true])) q, rfl⟩
theorem arone1 {w : World} (v : Nat) (hv : v < 4294967296) : Calls Tryd.prog 17 #[.int .u8 12, .int .u32 v] w fun e w' => e = .returned (.tuple #[.int .u32 (tzL (bitsL 32 v).reverse : Nat), .bool true]) ∧ w = w' := by
  have hc := clz_of (n := 32) (v := v) hv (by decide)
  have HL := Lib.hid (fun W => Tryd.bits_Len64 (v : Int) W (by omega) (by omega))
  rw [Int.toNat_natCast] at HL
  generalize tzL (bitsL 32 v).reverse = r at *
  generalize Lib.bitLen v = b at *
  have e1 : IntKind.u64.wrap (v : Int) = (v : Int) := by rw [IntKind.wrap_u64]; omega
  have e2 : ((b : Int)) % 4294967296 = (b : Int) := by omega
  have q : (32 - (b : Int)) % 4294967296 = (r : Int) := by omega
  clear hc
  have HW := Lib.hid (fun W => arwid (w := W))
  go_enter Tryd.func17, Tryd.ntmps17
  go_wp2_with (first | (go_at_call 28; (with_reducible refine (HW.out _).mono ?_); rintro e w0 ⟨rfl, rfl⟩) | (go_at_call 23; (with_reducible refine (HL.out _).mono ?_); rintro e w0 ⟨rfl, rfl⟩))
  go_ret2
  first | exact ⟨rfl, rfl⟩ | exact ⟨congrArg (fun z => Ending.returned (Value.tuple #[Value.int .u32 z, Value.bool true])) q, rfl⟩
theorem arone2 {w : World} (v : Nat) (hv : v < 4294967296) (hT : TabB w) : Calls Tryd.prog 17 #[.int .u8 13, .int .u32 v] w fun e w' => e = .returned (.tuple #[.int .u32 (tzL (bitsL 32 v) : Nat), .bool true]) ∧ w = w' := by
  have HL := Lib.hid (tz_any (w := w) v (by omega) hT)
  rw [ctz_of] at HL
  have hm := tz_min 32 32 v
  have hl := tzL_le (bitsL 64 v)
  rw [bitsL_len] at hl
  rw [show 32 + 32 = 64 from rfl] at hm
  generalize tzL (bitsL 32 v) = r at *
  generalize tzL (bitsL 64 v) = c at *
  have e1 : IntKind.u64.wrap (v : Int) = (v : Int) := by rw [IntKind.wrap_u64]; omega
  have e2 : ((c : Int)) % 4294967296 = (c : Int) := by omega
  have q : min (c : Int) 32 = (r : Int) := by omega
  clear hm
  have HW := Lib.hid (fun W => arwid (w := W))
  go_enter Tryd.func17, Tryd.ntmps17
  go_wp2_with (first | (go_at_call 28; (with_reducible refine (HW.out _).mono ?_); rintro e w0 ⟨rfl, rfl⟩) | (go_at_call 24; (with_reducible refine HL.out.mono ?_); rintro e w0 ⟨rfl, rfl⟩))
  go_ret2
  first | exact ⟨rfl, rfl⟩ | exact ⟨congrArg (fun z => Ending.returned (Value.tuple #[Value.int .u32 z, Value.bool true])) q, rfl⟩
theorem arone3 {w : World} (v : Nat) (hv : v < 4294967296) : Calls Tryd.prog 17 #[.int .u8 14, .int .u32 v] w fun e w' => e = .returned (.tuple #[.int .u32 (cntL (bitsL 32 v) : Nat), .bool true]) ∧ w = w' := by
  have HL := Lib.hid (ones_any (w := w) v (by omega))
  rw [pop_of (n := 32) hv (by decide), ← cnt_pop] at HL
  have hl := cntL_le (bitsL 32 v)
  rw [bitsL_len] at hl
  generalize cntL (bitsL 32 v) = r at *
  have e1 : IntKind.u64.wrap (v : Int) = (v : Int) := by rw [IntKind.wrap_u64]; omega
  have e2 : ((r : Int)) % 4294967296 = (r : Int) := by omega
  go_enter Tryd.func17, Tryd.ntmps17
  go_wp2_with (go_at_call 25; (with_reducible refine HL.out.mono ?_); rintro e w0 ⟨rfl, rfl⟩)
  go_ret2
  first | exact ⟨rfl, rfl⟩ | exact ⟨congrArg (fun z => Ending.returned (Value.tuple #[Value.int .u32 z, Value.bool true])) q, rfl⟩
theorem aroneNot {w : World} (op v : Nat) (h : op ≠ 1 ∧ op ≠ 12 ∧ op ≠ 13 ∧ op ≠ 14) : Calls Tryd.prog 17 #[.int .u8 op, .int .u32 v] w fun e w' => e = .returned (.tuple #[.int .u32 0, .bool false]) ∧ w = w' := by
  have d0 : ((op : Int) == 1) = false := by simp; omega
  have d1 : ((op : Int) == 12) = false := by simp; omega
  have d2 : ((op : Int) == 13) = false := by simp; omega
  have d3 : ((op : Int) == 14) = false := by simp; omega
  clear h
  go_enter Tryd.func17, Tryd.ntmps17
  go_wp2
  go_ret2
  exact ⟨rfl, rfl⟩
theorem aroneP {w : World} (op v x r : Nat) (b : Bool) (ho : op < 256) (hr : ofN 70 106 op = r) (HA : Calls Tryd.prog 17 #[.int .u8 r, .int .u32 v] w fun e w' => e = .returned (.tuple #[.int .u32 x, .bool b]) ∧ w = w') :
    Calls Tryd.prog 9 #[.int .u8 op, .int .u32 v] w fun e w' => e = .returned (.tuple #[.int .u32 x, .bool b]) ∧ w = w' := by
  have HO := Lib.hid (arof (w := w) op ho)
  rw [hr] at HO
  have HB := Lib.hid HA
  clear HA hr
  go_enter Tryd.func9, Tryd.ntmps9
  go_wp2_with (first | (go_at_call 13; (with_reducible refine HO.out.mono ?_); rintro e w0 ⟨rfl, rfl⟩) | (go_at_call 17; (with_reducible refine HB.out.mono ?_); rintro e w0 ⟨rfl, rfl⟩))
  go_ret2
  exact ⟨rfl, rfl⟩
/-- The law, both sides told. -/
theorem arone_both {w : World} (op v x : Nat) (b : Bool) (hv : v < 4294967296) (hx : x < 4294967296) (ho : op < 256)
    (HA : Calls Tryd.prog 9 #[.int .u8 op, .int .u32 v] w fun e w' => e = .returned (.tuple #[.int .u32 x, .bool b]) ∧ w = w')
    (HR : ∀ W, Calls Tryd.prog 10 #[.int .i64 op, .int .u64 v] W fun e w' => e = .returned (.tuple #[.int .u64 x, .bool b]) ∧ Below W.heap.size W w') :
    Calls Tryd.prog 4 #[.int .u8 op, .int .u32 v] w fun e w' => e = .returned (.bool true) ∧ Below w.heap.size w w' := by
  have HA1 := Lib.hid HA
  have HR1 := Lib.hid HR
  clear HA HR
  go_enter Tryd.func4, Tryd.ntmps4
  go_wp2_with (first | (go_at_call 8; (with_reducible refine (ar_awake _).mono ?_); rintro e w0 ⟨rfl, rfl⟩) | (go_at_call 9; (with_reducible refine HA1.out.mono ?_); rintro e w1 ⟨rfl, rfl⟩) | (go_at_call 10; (with_reducible refine (HR1.out _).mono ?_); rintro e w2 ⟨rfl, hb2⟩; have HB2 := Lib.hid hb2; clear hb2))
  go_ret
  exact ⟨rfl, HB2.out⟩
theorem arone_law (op v : Nat) (w : World) (hT : TabB w) (ho : op < 256) (hv : v < 4294967296) : Calls Tryd.prog 4 #[.int .u8 op, .int .u32 v] w fun e w' => e = .returned (.bool true) ∧ Below w.heap.size w w' := by
  have hv6 : v < 18446744073709551616 := by omega
  have lc := cntL_le (bitsL 32 v)
  have lt := tzL_le (bitsL 32 v)
  have lr := tzL_le (bitsL 32 v).reverse
  rw [List.length_reverse, bitsL_len] at lr
  rw [bitsL_len] at lc lt
  by_cases h0 : op = 69
  · subst h0
    exact arone_both 69 v _ true hv (by cases (cntL (bitsL 32 v) == 0) <;> decide) ho (aroneP 69 v _ 1 true ho rfl (arone0 v hv)) (fun W => onet0 v hv6)
  by_cases h1 : op = 103
  · subst h1
    exact arone_both 103 v _ true hv (by omega) ho (aroneP 103 v _ 12 true ho rfl (arone1 v hv)) (fun W => onet1 v hv6)
  by_cases h2 : op = 104
  · subst h2
    exact arone_both 104 v _ true hv (by omega) ho (aroneP 104 v _ 13 true ho rfl (arone2 v hv hT)) (fun W => onet2 v hv6)
  by_cases h3 : op = 105
  · subst h3
    exact arone_both 105 v _ true hv (by omega) ho (aroneP 105 v _ 14 true ho rfl (arone3 v hv)) (fun W => onet3 v hv6)
  · have hr : ofN 70 106 op ≠ 1 ∧ ofN 70 106 op ≠ 12 ∧ ofN 70 106 op ≠ 13 ∧ ofN 70 106 op ≠ 14 := by unfold ofN; split <;> (try split) <;> omega
    exact arone_both op v 0 false hv (by decide) ho (aroneP op v 0 _ false ho rfl (aroneNot _ v hr)) (fun W => oneNot (op : Int) v hv6 (by omega) (by omega) (by omega) (by omega))
end Go.Proofs.YtjgdfajooccalaaDoor
