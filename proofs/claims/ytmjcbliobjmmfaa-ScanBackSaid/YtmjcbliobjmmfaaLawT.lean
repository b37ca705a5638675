/- ScanBack where it asks nothing. -/
import Derived.Test.YtmjcbliobjmmfaaLawS
namespace Go.Proofs.Ytmjcbliobjmmfaa
open Go.RowKit
set_option linter.unusedVariables false

abbrev argF (p r : List UInt8) : Value := .agg #[.string (S p), .string (S r)]
abbrev argL (a b : Int) (c : Bool) : Value := .agg #[.int .u32 a, .int .u32 b, .bool c]
abbrev argG (t : UInt8) (m : Bool) : Value := .agg #[.int .u8 t.toNat, .bool m]
/-- The law's answer. -/
def Yes (w : World) (e : Ending) (w' : World) : Prop := e = .returned (.bool true) ∧ Below w.heap.size w w'

set_option maxHeartbeats 1000000 in
theorem back_long (p r : List UInt8) (a b : Int) (c : Bool) (t : UInt8) (m : Bool) (w : World) (h : 500 < p.length) :
    Calls Try.prog 3 #[argF p r, argL a b c, argG t m] w (Yes w) := by
  have hp : 500 < (S p).size := by rw [S_size]; exact h
  have HB := Lib.hid (Box3.start w p r a b c t m)
  clear h
  go_enter Try.func3, Try.ntmps3
  go_wp2_with (go_at_call 4; go_must ((with_reducible refine (awake_any _).mono ?_); rintro e w1 ⟨rfl, hb⟩; have HB1 := Lib.hid (HB.out.on hb); obtain ⟨⟨x0, x1⟩, ⟨y0, y1, y2⟩, ⟨z0, z1⟩⟩ := HB1.out.cells; clear hb))
  go_ret
  exact ⟨rfl, HB1.out.2⟩
set_option maxHeartbeats 1000000 in
theorem back_func (p r : List UInt8) (a b : Int) (c : Bool) (t : UInt8) (m : Bool) (w : World) (h : p.length ≤ 500) (hz : ¬ funcZ p r = 0) :
    Calls Try.prog 3 #[argF p r, argL a b c, argG t m] w (Yes w) := by
  have hp : ¬ 500 < (S p).size := by rw [S_size]; omega
  have hp2 : decide ((500 : Int) < ((S p).size : Int)) = false := by simp; omega
  have F := Lib.hid (fun W => refFunc_all p r W h)
  obtain ⟨z, hzz⟩ : ∃ z, z = funcZ p r := ⟨_, rfl⟩
  rw [← hzz] at F hz
  have e1 : (z != 0) = true := by simpa using hz
  have e2 : (z == 0) = false := by simpa using hz
  have HB := Lib.hid (Box3.start w p r a b c t m)
  clear h hz hzz
  go_enter Try.func3, Try.ntmps3
  go_wp2_with (first
    | (go_at_call 4; go_must ((with_reducible refine (awake_any _).mono ?_); rintro e w1 ⟨rfl, hb⟩; have HB1 := Lib.hid (HB.out.on hb); obtain ⟨⟨x0, x1⟩, ⟨y0, y1, y2⟩, ⟨z0, z1⟩⟩ := HB1.out.cells; clear hb))
    | (go_at_call 5; go_must ((with_reducible refine (F.out _).mono ?_); rintro e w2 ⟨rfl, hb⟩; have HB2 := Lib.hid (HB1.out.on hb); clear hb x0 x1 y0 y1 y2 z0 z1; obtain ⟨⟨x0, x1⟩, ⟨y0, y1, y2⟩, ⟨z0, z1⟩⟩ := HB2.out.cells)))
  go_ret
  exact ⟨rfl, HB2.out.2⟩
set_option maxHeartbeats 1000000 in
theorem back_val (p r : List UInt8) (a b : Int) (c : Bool) (t : UInt8) (m : Bool) (w : World) (h : p.length ≤ 500) (hz : funcZ p r = 0) (ht : ¬ valueZ t.toNat = 0) :
    Calls Try.prog 3 #[argF p r, argL a b c, argG t m] w (Yes w) := by
  have hp : ¬ 500 < (S p).size := by rw [S_size]; omega
  have hp2 : decide ((500 : Int) < ((S p).size : Int)) = false := by simp; omega
  have F := Lib.hid (fun W => refFunc_all p r W h)
  have V := Lib.hid (fun W => refValue_any (t.toNat : Int) W)
  obtain ⟨z, hzz⟩ : ∃ z, z = valueZ t.toNat := ⟨_, rfl⟩
  rw [hz] at F
  rw [← hzz] at V ht
  have e1 : (z != 0) = true := by simpa using ht
  have e2 : (z == 0) = false := by simpa using ht
  have hw : wrap64 (t.toNat : Int) = t.toNat := wrap_byte t
  have HB := Lib.hid (Box3.start w p r a b c t m)
  clear h hz hzz ht
  go_enter Try.func3, Try.ntmps3
  go_wp2_with (first
    | (go_at_call 4; go_must ((with_reducible refine (awake_any _).mono ?_); rintro e w1 ⟨rfl, hb⟩; have HB1 := Lib.hid (HB.out.on hb); obtain ⟨⟨x0, x1⟩, ⟨y0, y1, y2⟩, ⟨z0, z1⟩⟩ := HB1.out.cells; clear hb))
    | (go_at_call 5; go_must ((with_reducible refine (F.out _).mono ?_); rintro e w2 ⟨rfl, hb⟩; have HB2 := Lib.hid (HB1.out.on hb); clear hb x0 x1 y0 y1 y2 z0 z1; obtain ⟨⟨x0, x1⟩, ⟨y0, y1, y2⟩, ⟨z0, z1⟩⟩ := HB2.out.cells))
    | (go_at_call 6; go_must ((with_reducible refine (V.out _).mono ?_); rintro e w' ⟨rfl, rfl⟩)))
  go_ret
  exact ⟨rfl, HB2.out.2⟩
set_option maxHeartbeats 1000000 in
theorem back_lim (p r : List UInt8) (a b : Int) (t : UInt8) (m : Bool) (w : World) (h : p.length ≤ 500) (hz : funcZ p r = 0) (ht : valueZ t.toNat = 0) (hb : ¬ b = 0) :
    Calls Try.prog 3 #[argF p r, argL a b false, argG t m] w (Yes w) := by
  have hp : ¬ 500 < (S p).size := by rw [S_size]; omega
  have hp2 : decide ((500 : Int) < ((S p).size : Int)) = false := by simp; omega
  have F := Lib.hid (fun W => refFunc_all p r W h)
  have V := Lib.hid (fun W => refValue_any (t.toNat : Int) W)
  rw [hz] at F
  rw [ht] at V
  have e1 : (b != 0) = true := by simpa using hb
  have e2 : (b == 0) = false := by simpa using hb
  have hw : wrap64 (t.toNat : Int) = t.toNat := wrap_byte t
  have HB := Lib.hid (Box3.start w p r a b false t m)
  clear h hz ht hb
  go_enter Try.func3, Try.ntmps3
  go_wp2_with (first
    | (go_at_call 4; go_must ((with_reducible refine (awake_any _).mono ?_); rintro e w1 ⟨rfl, hb⟩; have HB1 := Lib.hid (HB.out.on hb); obtain ⟨⟨x0, x1⟩, ⟨y0, y1, y2⟩, ⟨z0, z1⟩⟩ := HB1.out.cells; clear hb))
    | (go_at_call 5; go_must ((with_reducible refine (F.out _).mono ?_); rintro e w2 ⟨rfl, hb⟩; have HB2 := Lib.hid (HB1.out.on hb); clear hb x0 x1 y0 y1 y2 z0 z1; obtain ⟨⟨x0, x1⟩, ⟨y0, y1, y2⟩, ⟨z0, z1⟩⟩ := HB2.out.cells))
    | (go_at_call 6; go_must ((with_reducible refine (V.out _).mono ?_); rintro e w' ⟨rfl, rfl⟩)))
  go_ret
  exact ⟨rfl, HB2.out.2⟩
end Go.Proofs.Ytmjcbliobjmmfaa

