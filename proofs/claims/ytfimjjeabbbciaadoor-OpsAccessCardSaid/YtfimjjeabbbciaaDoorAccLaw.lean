/- The law OpsAccess. -/
import Derived.Test.YtfimjjeabbbciaaDoorAwake
import Derived.Test.YtfimjjeabbbciaaDoorRefAcc
namespace Go.Proofs.YtfimjjeabbbciaaDoor
open Go.RowKit

def AccLawPost (w : World) (e : Ending) (w' : World) : Prop := e = .returned (.bool true) ∧ Below w.heap.size w w'
set_option maxRecDepth 100000 in
theorem accLaw_none (n : Nat) (w : World) (hT : Tabs w) (hn : n ≤ 255) (h : refAcc n = none) : Calls Tryd.prog 5 #[.int .u8 n] w (AccLawPost w) := by
  have hs := acc_all n (by omega)
  unfold sameAcc at hs
  rw [h] at hs
  simp only [Bool.and_eq_true, Bool.not_eq_true', beq_iff_eq] at hs
  have HA := Lib.hid (fun W (hT : Tabs W) => show Calls Tryd.prog 15 #[.int .u8 n] W fun e w' => e = .returned (.tuple #[.agg #[.int .i64 0, .int .u8 0, .bool false, .bool false], .bool false]) ∧ Below W.heap.size W w' by have := access_any n W hT hn; rw [accV, hs.1, hs.2] at this; exact this)
  have HR := Lib.hid (fun W => show Calls Tryd.prog 16 #[.int .i64 n] W fun e w' => e = .returned (.tuple #[.int .i64 0, .bool false, .bool false, .bool false, .bool false]) ∧ Below W.heap.size W w' by have := refAccess_any n W hn; rw [h] at this; exact this)
  have G0 := Lib.hid (Good.start hT)
  clear hs h hT
  go_enter Tryd.func5, Tryd.ntmps5
  go_wp2_with (first | (go_at_call 6; go_must (refine (awake_any _ G0.out.tabs).mono ?_; rintro e w1 ⟨rfl, hb1⟩; have G1 := Lib.hid (G0.out.call hb1); clear hb1)) | (go_at_call 15; go_must (refine (HA.out _ G1.out.tabs).mono ?_; rintro e w2 ⟨rfl, hb2⟩; have G2 := Lib.hid (G1.out.call hb2); clear hb2)) | (go_at_call 16; go_must (refine (HR.out _).mono ?_; rintro e w3 ⟨rfl, hb3⟩; have W3 := Lib.hid ((Whole.made w2 42 #[.int .i64 0, .int .u8 0, .bool false, .bool false]).below hb3); have G3 := Lib.hid (Good.call (G2.out.alloc _) hb3); clear hb3; have c0 : w3.cell? ⟨w2.heap.size, 0, none⟩ = some (.int .i64 0) := W3.out.cell 0; have c1 : w3.cell? ⟨w2.heap.size, 1, none⟩ = some (.int .u8 0) := W3.out.cell 1; have c2 : w3.cell? ⟨w2.heap.size, 2, none⟩ = some (.bool false) := W3.out.cell 2; have c3 : w3.cell? ⟨w2.heap.size, 3, none⟩ = some (.bool false) := W3.out.cell 3)))
  go_ret
  exact ⟨rfl, G3.out.below⟩
set_option maxRecDepth 100000 in
theorem accLaw_some (n : Nat) (w : World) (hT : Tabs w) (hn : n ≤ 255) (b : Nat) (l wr sg : Bool) (h : refAcc n = some (b, l, wr, sg)) : Calls Tryd.prog 5 #[.int .u8 n] w (AccLawPost w) := by
  have hs := acc_all n (by omega)
  unfold sameAcc at hs
  rw [h] at hs
  simp only [Bool.and_eq_true, beq_iff_eq] at hs
  have HA := Lib.hid (fun W (hT : Tabs W) => show Calls Tryd.prog 15 #[.int .u8 n] W fun e w' => e = .returned (.tuple #[.agg #[.int .i64 b, .int .u8 ((if l then 126 else 127 : Nat) : Int), .bool wr, .bool sg], .bool true]) ∧ Below W.heap.size W w' by have := access_any n W hT hn; rw [accV, hs.1, hs.2] at this; exact this)
  have HR := Lib.hid (fun W => show Calls Tryd.prog 16 #[.int .i64 n] W fun e w' => e = .returned (.tuple #[.int .i64 b, .bool l, .bool wr, .bool sg, .bool true]) ∧ Below W.heap.size W w' by have := refAccess_any n W hn; rw [h] at this; exact this)
  have G0 := Lib.hid (Good.start hT)
  clear hs h hT
  cases l with
  | true =>
    have HA1 := Lib.hid (fun W (hT : Tabs W) => show Calls Tryd.prog 15 #[.int .u8 n] W fun e w' => e = .returned (.tuple #[.agg #[.int .i64 b, .int .u8 126, .bool wr, .bool sg], .bool true]) ∧ Below W.heap.size W w' from HA.out W hT)
    clear HA
    go_enter Tryd.func5, Tryd.ntmps5
    go_wp2_with (first | (go_at_call 6; go_must (refine (awake_any _ G0.out.tabs).mono ?_; rintro e w1 ⟨rfl, hb1⟩; have G1 := Lib.hid (G0.out.call hb1); clear hb1)) | (go_at_call 15; go_must (refine (HA1.out _ G1.out.tabs).mono ?_; rintro e w2 ⟨rfl, hb2⟩; have G2 := Lib.hid (G1.out.call hb2); clear hb2)) | (go_at_call 16; go_must (refine (HR.out _).mono ?_; rintro e w3 ⟨rfl, hb3⟩; have W3 := Lib.hid ((Whole.made w2 42 #[.int .i64 b, .int .u8 126, .bool wr, .bool sg]).below hb3); have G3 := Lib.hid (Good.call (G2.out.alloc _) hb3); clear hb3; have c0 : w3.cell? ⟨w2.heap.size, 0, none⟩ = some (.int .i64 b) := W3.out.cell 0; have c1 : w3.cell? ⟨w2.heap.size, 1, none⟩ = some (.int .u8 126) := W3.out.cell 1; have c2 : w3.cell? ⟨w2.heap.size, 2, none⟩ = some (.bool wr) := W3.out.cell 2; have c3 : w3.cell? ⟨w2.heap.size, 3, none⟩ = some (.bool sg) := W3.out.cell 3)))
    go_ret
    exact ⟨rfl, G3.out.below⟩
  | false =>
    have HA1 := Lib.hid (fun W (hT : Tabs W) => show Calls Tryd.prog 15 #[.int .u8 n] W fun e w' => e = .returned (.tuple #[.agg #[.int .i64 b, .int .u8 127, .bool wr, .bool sg], .bool true]) ∧ Below W.heap.size W w' from HA.out W hT)
    clear HA
    go_enter Tryd.func5, Tryd.ntmps5
    go_wp2_with (first | (go_at_call 6; go_must (refine (awake_any _ G0.out.tabs).mono ?_; rintro e w1 ⟨rfl, hb1⟩; have G1 := Lib.hid (G0.out.call hb1); clear hb1)) | (go_at_call 15; go_must (refine (HA1.out _ G1.out.tabs).mono ?_; rintro e w2 ⟨rfl, hb2⟩; have G2 := Lib.hid (G1.out.call hb2); clear hb2)) | (go_at_call 16; go_must (refine (HR.out _).mono ?_; rintro e w3 ⟨rfl, hb3⟩; have W3 := Lib.hid ((Whole.made w2 42 #[.int .i64 b, .int .u8 127, .bool wr, .bool sg]).below hb3); have G3 := Lib.hid (Good.call (G2.out.alloc _) hb3); clear hb3; have c0 : w3.cell? ⟨w2.heap.size, 0, none⟩ = some (.int .i64 b) := W3.out.cell 0; have c1 : w3.cell? ⟨w2.heap.size, 1, none⟩ = some (.int .u8 127) := W3.out.cell 1; have c2 : w3.cell? ⟨w2.heap.size, 2, none⟩ = some (.bool wr) := W3.out.cell 2; have c3 : w3.cell? ⟨w2.heap.size, 3, none⟩ = some (.bool sg) := W3.out.cell 3)))
    go_ret
    exact ⟨rfl, G3.out.below⟩
theorem access_law (n : Nat) (w : World) (hT : Tabs w) (hn : n ≤ 255) : Calls Tryd.prog 5 #[.int .u8 n] w (AccLawPost w) := by
  cases h : refAcc n with
  | none => exact accLaw_none n w hT hn h
  | some x =>
    obtain ⟨b, l, wr, sg⟩ := x
    exact accLaw_some n w hT hn b l wr sg h
end Go.Proofs.YtfimjjeabbbciaaDoor

