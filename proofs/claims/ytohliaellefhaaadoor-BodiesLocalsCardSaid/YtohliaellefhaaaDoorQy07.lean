/- An instruction as plain data; what a value and a box hold of it. -/
import Derived.Test.YtohliaellefhaaaDoorQy01
import Derived.Test.YtohliaellefhaaaDoorQy02
import Derived.Test.YtohliaellefhaaaDoorQy06
import Derived.Test.YtohliaellefhaaaDoorQy04
import Derived.Deep.QuietTactic
import Derived.BigQuiet
import Derived.Deep.RegionHeld3
import Derived.Test.YtohliaellefhaaaDoorQy05
namespace Go.Proofs.YtohliaellefhaaaDoor
open Go.RowKit
set_option linter.unusedVariables false

structure I where
  op : UInt8
  a : Int
  b : Int
  l : List Int
abbrev I.n (i : I) : Nat := i.op.toNat
theorem I.n_le (i : I) : i.n ≤ 255 := by have := i.op.toNat_lt; show i.op.toNat ≤ 255; omega
def cells32 (l : List Int) : List Value := l.map (.int .u32)
theorem cells32_length (l : List Int) : (cells32 l).length = l.length := by simp [cells32]
/-- Its numbers are what their kinds hold. -/
structure I.Ok (i : I) : Prop where
  a0 : 0 ≤ i.a
  a1 : i.a ≤ 18446744073709551615
  b0 : 0 ≤ i.b
  b1 : i.b ≤ 18446744073709551615
  l0 : ∀ c ∈ i.l, 0 ≤ c ∧ c ≤ 4294967295
/-- The value, its labels at A. -/
abbrev insV (i : I) (A : Option Addr) (c : Nat) : Value := .agg #[.int .u8 i.op.toNat, .int .u64 i.a, .int .u64 i.b, .slice A i.l.length c]
abbrev insC (i : I) (A : Option Addr) (c : Nat) : Array Value := #[.int .u8 i.op.toNat, .int .u64 i.a, .int .u64 i.b, .slice A i.l.length c]
/-- A box of the function's own that holds it. -/
def BoxI (w W : World) (i : I) (A : Option Addr) (c : Nat) : Prop := Whole W w.heap.size 58 (insC i A c) ∧ Below w.heap.size w W
section
variable {w W W' : World} {i : I} {A : Option Addr} {c : Nat}
theorem BoxI.start (w : World) (i : I) (A : Option Addr) (c : Nat) : BoxI w (w.alloc (.cells (insC i A c) 58)) i A c := ⟨Whole.made _ _ _, (Below.refl _ _).alloc (Nat.le_refl _) _⟩
theorem BoxI.on (h : BoxI w W i A c) (hb : Below W.heap.size W W') : BoxI w W' i A c := ⟨h.1.below hb, h.2.trans (hb.mono h.2.size)⟩
theorem BoxI.drewN (h : BoxI w W i A c) (n : Nat) : BoxI w (W.drewN n) i A c := ⟨h.1, ⟨h.2.os, h.2.tape, h.2.output, h.2.size, h.2.block⟩⟩
theorem BoxI.lt (h : BoxI w W i A c) : w.heap.size < W.heap.size := h.1.lt
theorem BoxI.c0 (h : BoxI w W i A c) : W.cell? ⟨w.heap.size, 0, none⟩ = some (.int .u8 i.op.toNat) := h.1.cell 0
theorem BoxI.c1 (h : BoxI w W i A c) : W.cell? ⟨w.heap.size, 1, none⟩ = some (.int .u64 i.a) := h.1.cell 1
theorem BoxI.c2 (h : BoxI w W i A c) : W.cell? ⟨w.heap.size, 2, none⟩ = some (.int .u64 i.b) := h.1.cell 2
theorem BoxI.c3 (h : BoxI w W i A c) : W.cell? ⟨w.heap.size, 3, none⟩ = some (.slice A i.l.length c) := h.1.cell 3
end

/-- A block's type, as a number. -/
def blockZ (t : Int) : Int := if t = 64 then 0 else if 255 < t then 7 else valueZ t
/-- May A and B be those of such immediates? -/
def numsZ (m : Nat) (a b : Int) : Int :=
  if m = 1 then blockZ a else if m = 0 ∨ m = 9 then (if a = 0 then 0 else 1) else if m = 11 then 0 else if a ≤ 4294967295 ∧ b ≤ 4294967295 then 0 else 1
def rightZ (i : I) : Int :=
  if checkR i.n ≠ 0 then checkR i.n
  else if 0 < i.l.length ∧ immR i.n ≠ 3 then 1
  else if 10000 < i.l.length then 29
  else if i.b ≠ 0 ∧ immR i.n ≠ 8 then 1
  else numsZ (immR i.n) i.a i.b
/-- What both know of an opcode. -/
def sameImm (n : Nat) : Bool := checkR n != 0 || ((infR n).imm == immR n && ((refR n).getD row0).imm == immR n)
theorem imm_all : ∀ n, n < 256 → sameImm n = true := by decide +kernel
theorem imm_same {n : Nat} (hn : n ≤ 255) (h : checkR n = 0) : (infR n).imm = immR n ∧ ((refR n).getD row0).imm = immR n := by
  have := imm_all n (by omega)
  unfold sameImm at this
  rw [h] at this
  simpa using this
theorem check_same {n : Nat} (hn : n ≤ 255) : checkR n = refCheck n := by
  have := tell_all n (by omega)
  unfold sameTell at this
  simp only [Bool.and_eq_true, beq_iff_eq] at this
  exact this.1.1
theorem imm_none {n : Nat} (h : immR n = 9 ∨ True) : True := trivial
theorem field_imm (a c d : ByteArray) (b : Int) (f : Bool) (wx : World) : (Instr.field 125 (.agg #[.string a, .int .i64 b, .string c, .string d, .bool f]) 1).run Tryd.prog wx = .ok (.int .i64 b) wx := by kernel_rfl

theorem argUnless_any (p : Bool) (w : World) : Calls Tryd.prog 93 #[.bool p] w fun e w' => e = .returned (.int .i64 (if p then 0 else 1)) ∧ w = w' := by
  cases p
  · go_enter Tryd.func93, Tryd.ntmps93
    go_wp2
    go_ret
    exact ⟨rfl, rfl⟩
  · go_enter Tryd.func93, Tryd.ntmps93
    go_wp2
    go_ret
    exact ⟨rfl, rfl⟩
theorem block_any (t : Int) (w : World) (h0 : 0 ≤ t) : Calls Tryd.prog 92 #[.int .u64 t] w fun e w' => e = .returned (.int .i64 (blockZ t)) ∧ w = w' := by
  by_cases h1 : t = 64
  · subst h1
    go_enter Tryd.func92, Tryd.ntmps92
    go_wp2
    go_ret
    exact ⟨rfl, rfl⟩
  · have b1 : (t == 64) = false := by simpa using h1
    by_cases h2 : 255 < t
    · have HE := Lib.hid (show blockZ t = 7 by unfold blockZ; rw [if_neg h1, if_pos h2])
      go_enter Tryd.func92, Tryd.ntmps92
      go_wp2
      go_ret
      exact ⟨ret_int HE.out.symm, rfl⟩
    · have HE := Lib.hid (show blockZ t = valueZ t by unfold blockZ; rw [if_neg h1, if_neg h2])
      have b2 : decide (255 < t) = false := by simpa using h2
      have hw : IntKind.u8.wrap t = t := by simp [IntKind.wrap, IntKind.bits, IntKind.signed]; omega
      go_enter Tryd.func92, Tryd.ntmps92
      go_wp2_with (go_at_call 49; go_must (refine (value_any _ _).mono ?_; rintro e w' ⟨rfl, rfl⟩))
      go_ret
      exact ⟨ret_int HE.out.symm, rfl⟩
end Go.Proofs.YtohliaellefhaaaDoor

/- Right: the program's and the reference's. (By gen/genRight.py.) -/
namespace Go.Proofs.YtohliaellefhaaaDoor
open Go.RowKit
set_option linter.unusedVariables false
set_option maxRecDepth 100000

def IntPost (z : Int) (w : World) (e : Ending) (w' : World) : Prop := e = .returned (.int .i64 z) ∧ Below w.heap.size w w'
theorem ret_below {z y : Int} {w w' : World} (h : z = y) (hb : Below w.heap.size w w') : IntPost y w (.returned (.int .i64 z)) w' := ⟨by rw [h], hb⟩

theorem numbers_any (i : I) (A : Option Addr) (c m : Nat) (w : World) (h : i.Ok) :
    Calls Tryd.prog 80 #[insV i A c, .int .i64 m] w (IntPost (numsZ m i.a i.b) w) := by
  obtain ⟨a0, a1, b0, b1, _⟩ := h
  have HB := Lib.hid (BoxI.start w i A c)
  by_cases m1 : m = 1
  · subst m1
    have HE := Lib.hid (show numsZ 1 i.a i.b = blockZ i.a by unfold numsZ; rw [if_pos rfl])
    go_enter Tryd.func80, Tryd.ntmps80
    go_wp2_with (go_at_call 92; go_must (refine (block_any _ _ a0).mono ?_; rintro e w' ⟨rfl, rfl⟩))
    go_ret
    exact ret_below (by rw [HE.out]) HB.out.2
  · have d1 : ((m : Int) == 1) = false := by simp; omega
    by_cases m0 : m = 0 ∨ m = 9
    · rcases m0 with m0 | m0
      · subst m0
        by_cases hz : i.a = 0
        · have dz : (i.a == 0) = true := by simpa using hz
          have HE := Lib.hid (show numsZ 0 i.a i.b = 0 by unfold numsZ; rw [if_neg (by omega), if_pos (by omega), if_pos hz])
          clear hz
          go_enter Tryd.func80, Tryd.ntmps80
          go_wp2_with (go_at_call 93; go_must (refine (argUnless_any _ _).mono ?_; rintro e w' ⟨rfl, rfl⟩))
          go_ret
          exact ret_below (by rw [HE.out]) HB.out.2
        · have dz : (i.a == 0) = false := by simpa using hz
          have HE := Lib.hid (show numsZ 0 i.a i.b = 1 by unfold numsZ; rw [if_neg (by omega), if_pos (by omega), if_neg hz])
          clear hz
          go_enter Tryd.func80, Tryd.ntmps80
          go_wp2_with (go_at_call 93; go_must (refine (argUnless_any _ _).mono ?_; rintro e w' ⟨rfl, rfl⟩))
          go_ret
          exact ret_below (by rw [HE.out]) HB.out.2
      · subst m0
        by_cases hz : i.a = 0
        · have dz : (i.a == 0) = true := by simpa using hz
          have HE := Lib.hid (show numsZ 9 i.a i.b = 0 by unfold numsZ; rw [if_neg (by omega), if_pos (by omega), if_pos hz])
          clear hz
          go_enter Tryd.func80, Tryd.ntmps80
          go_wp2_with (go_at_call 93; go_must (refine (argUnless_any _ _).mono ?_; rintro e w' ⟨rfl, rfl⟩))
          go_ret
          exact ret_below (by rw [HE.out]) HB.out.2
        · have dz : (i.a == 0) = false := by simpa using hz
          have HE := Lib.hid (show numsZ 9 i.a i.b = 1 by unfold numsZ; rw [if_neg (by omega), if_pos (by omega), if_neg hz])
          clear hz
          go_enter Tryd.func80, Tryd.ntmps80
          go_wp2_with (go_at_call 93; go_must (refine (argUnless_any _ _).mono ?_; rintro e w' ⟨rfl, rfl⟩))
          go_ret
          exact ret_below (by rw [HE.out]) HB.out.2
    · have d0 : ((m : Int) == 0) = false := by simp; omega
      have d9 : ((m : Int) == 9) = false := by simp; omega
      by_cases m11 : m = 11
      · subst m11
        have HE := Lib.hid (show numsZ 11 i.a i.b = 0 by unfold numsZ; rw [if_neg (by omega), if_neg (by omega), if_pos rfl])
        go_enter Tryd.func80, Tryd.ntmps80
        go_wp2
        go_ret
        exact ret_below (by rw [HE.out]) HB.out.2
      · have d11 : ((m : Int) == 11) = false := by simp; omega
        by_cases ha : i.a ≤ 4294967295
        · have da : decide (i.a ≤ 4294967295) = true := by simpa using ha
          by_cases hz : i.b ≤ 4294967295
          · have dz : decide (i.b ≤ 4294967295) = true := by simpa using hz
            have HE := Lib.hid (show numsZ m i.a i.b = 0 by unfold numsZ; rw [if_neg m1, if_neg m0, if_neg m11, if_pos ⟨ha, hz⟩])
            clear hz
            go_enter Tryd.func80, Tryd.ntmps80
            go_wp2_with (go_at_call 93; go_must (refine (argUnless_any _ _).mono ?_; rintro e w' ⟨rfl, rfl⟩))
            go_ret
            exact ret_below (by rw [HE.out]) HB.out.2
          · have dz : decide (i.b ≤ 4294967295) = false := by simpa using hz
            have HE := Lib.hid (show numsZ m i.a i.b = 1 by unfold numsZ; rw [if_neg m1, if_neg m0, if_neg m11, if_neg (by omega)])
            go_enter Tryd.func80, Tryd.ntmps80
            go_wp2_with (go_at_call 93; go_must (refine (argUnless_any _ _).mono ?_; rintro e w' ⟨rfl, rfl⟩))
            go_ret
            exact ret_below (by rw [HE.out]) HB.out.2
        · have da : decide (i.a ≤ 4294967295) = false := by simpa using ha
          have HE := Lib.hid (show numsZ m i.a i.b = 1 by unfold numsZ; rw [if_neg m1, if_neg m0, if_neg m11, if_neg (by omega)])
          go_enter Tryd.func80, Tryd.ntmps80
          go_wp2_with (go_at_call 93; go_must (refine (argUnless_any _ _).mono ?_; rintro e w' ⟨rfl, rfl⟩))
          go_ret
          exact ret_below (by rw [HE.out]) HB.out.2

theorem right_any (i : I) (A : Option Addr) (c : Nat) (w : World) (h : i.Ok) (hT : Tabs w) (hl : (i.l.length : Int) ≤ 9223372036854775807) :
    Calls Tryd.prog 67 #[insV i A c] w (IntPost (rightZ i) w) := by
  have hn := i.n_le
  have HO := Lib.hid h
  have HT := Lib.hid hT
  have HB := Lib.hid (BoxI.start w i A c)
  have HT1 := Lib.hid (hT.below HB.out.2)
  clear hT h
  obtain ⟨k, hk⟩ : ∃ k, k = checkR i.n := ⟨_, rfl⟩
  have HC : Hid (∀ W, Tabs W → Calls Tryd.prog 78 #[.int .u8 i.op.toNat] W fun e w' => e = .returned (.int .i64 (k : Nat)) ∧ W = w') := fun W hW => by rw [hk]; exact check_any i.n W hW hn
  by_cases k0 : k = 0
  · subst k0
    obtain ⟨m, hm⟩ : ∃ m, m = immR i.n := ⟨_, rfl⟩
    obtain ⟨inf, hinf⟩ : ∃ inf, inf = infR i.n := ⟨_, rfl⟩
    have him : inf.imm = m := by rw [hinf, hm]; exact (imm_same hn hk.symm).1
    have HI : Hid (∀ W, Tabs W → Calls Tryd.prog 79 #[.int .u8 i.op.toNat] W fun e w' => e = .returned (infV inf) ∧ Below W.heap.size W w') := fun W hW => by rw [hinf]; exact of_any i.n W hW hn
    have hfield := fun z wx => field_imm (S inf.name) (S inf.ps) (S inf.rs) z inf.free wx
    have HR := Lib.hid (show rightZ i = if 0 < i.l.length ∧ m ≠ 3 then 1 else if 10000 < i.l.length then 29 else if i.b ≠ 0 ∧ m ≠ 8 then 1 else numsZ m i.a i.b by unfold rightZ; rw [← hk, ← hm]; rfl)
    have HN := Lib.hid (fun W => numbers_any i A c m W HO.out)
    clear hinf hm hk
    by_cases hl0 : 0 < i.l.length
    · have dl : decide (0 < (i.l.length : Int)) = true := decide_eq_true (by omega)
      by_cases m3 : m = 3
      · subst m3
        by_cases hl1 : 10000 < i.l.length
        · have dl1 : decide (10000 < (i.l.length : Int)) = true := decide_eq_true (by omega)
          have HE := Lib.hid (show rightZ i = 29 by rw [HR.out]; rw [if_neg (by omega), if_pos hl1])
          go_enter Tryd.func67, Tryd.ntmps67
          go_wp2_with (first
            | (go_at_call 78; go_must (refine (HC.out _ HT1.out).mono ?_; rintro e w' ⟨rfl, rfl⟩))
            | (go_at_call 79; go_must (refine (HI.out _ HT1.out).mono ?_; rintro e w1 ⟨rfl, hb⟩; unfold infV; have HB1 := Lib.hid (HB.out.on hb); have c1 := HB1.out.c0; have c2 := HB1.out.c1; have c3 := HB1.out.c2; have c4 := HB1.out.c3; clear hb))
            | (go_at_call 80; go_must (refine (HN.out _).mono ?_; rintro e w2 ⟨rfl, hb⟩; have HB2 := Lib.hid (HB1.out.on hb); clear hb)))
          go_ret
          exact ret_below HE.out.symm HB1.out.2
        · have dl1 : decide (10000 < (i.l.length : Int)) = false := decide_eq_false (by omega)
          by_cases hb0 : i.b = 0
          · have db : (i.b != 0) = false := by simp [hb0]
            have HE := Lib.hid (show rightZ i = numsZ 3 i.a i.b by rw [HR.out]; rw [if_neg (by omega), if_neg hl1]; rw [if_neg (by omega)])
            clear hb0
            go_enter Tryd.func67, Tryd.ntmps67
            go_wp2_with (first
              | (go_at_call 78; go_must (refine (HC.out _ HT1.out).mono ?_; rintro e w' ⟨rfl, rfl⟩))
              | (go_at_call 79; go_must (refine (HI.out _ HT1.out).mono ?_; rintro e w1 ⟨rfl, hb⟩; unfold infV; have HB1 := Lib.hid (HB.out.on hb); have c1 := HB1.out.c0; have c2 := HB1.out.c1; have c3 := HB1.out.c2; have c4 := HB1.out.c3; clear hb))
              | (go_at_call 80; go_must (refine (HN.out _).mono ?_; rintro e w2 ⟨rfl, hb⟩; have HB2 := Lib.hid (HB1.out.on hb); clear hb)))
            go_ret
            exact ret_below HE.out.symm HB2.out.2
          · have db : (i.b != 0) = true := by simpa using hb0
            have d8 : ((3 : Int) != 8) = true := by decide
            have HE := Lib.hid (show rightZ i = 1 by rw [HR.out]; rw [if_neg (by omega), if_neg hl1]; rw [if_pos (by omega)])
            go_enter Tryd.func67, Tryd.ntmps67
            go_wp2_with (first
              | (go_at_call 78; go_must (refine (HC.out _ HT1.out).mono ?_; rintro e w' ⟨rfl, rfl⟩))
              | (go_at_call 79; go_must (refine (HI.out _ HT1.out).mono ?_; rintro e w1 ⟨rfl, hb⟩; unfold infV; have HB1 := Lib.hid (HB.out.on hb); have c1 := HB1.out.c0; have c2 := HB1.out.c1; have c3 := HB1.out.c2; have c4 := HB1.out.c3; clear hb))
              | (go_at_call 80; go_must (refine (HN.out _).mono ?_; rintro e w2 ⟨rfl, hb⟩; have HB2 := Lib.hid (HB1.out.on hb); clear hb)))
            go_ret
            exact ret_below HE.out.symm HB1.out.2
      · have d3 : ((m : Int) != 3) = true := by simp; omega
        have HE := Lib.hid (show rightZ i = 1 by rw [HR.out]; rw [if_pos ⟨hl0, m3⟩])
        go_enter Tryd.func67, Tryd.ntmps67
        go_wp2_with (first
          | (go_at_call 78; go_must (refine (HC.out _ HT1.out).mono ?_; rintro e w' ⟨rfl, rfl⟩))
          | (go_at_call 79; go_must (refine (HI.out _ HT1.out).mono ?_; rintro e w1 ⟨rfl, hb⟩; unfold infV; have HB1 := Lib.hid (HB.out.on hb); have c1 := HB1.out.c0; have c2 := HB1.out.c1; have c3 := HB1.out.c2; have c4 := HB1.out.c3; clear hb))
          | (go_at_call 80; go_must (refine (HN.out _).mono ?_; rintro e w2 ⟨rfl, hb⟩; have HB2 := Lib.hid (HB1.out.on hb); clear hb)))
        go_ret
        exact ret_below HE.out.symm HB1.out.2
    · have dl : decide (0 < (i.l.length : Int)) = false := decide_eq_false (by omega)
      have dl1 : decide (10000 < (i.l.length : Int)) = false := decide_eq_false (by omega)
      by_cases hb0 : i.b = 0
      · have db : (i.b != 0) = false := by simp [hb0]
        have HE := Lib.hid (show rightZ i = numsZ m i.a i.b by rw [HR.out]; rw [if_neg (by omega), if_neg (by omega)]; rw [if_neg (by omega)])
        clear hb0
        go_enter Tryd.func67, Tryd.ntmps67
        go_wp2_with (first
          | (go_at_call 78; go_must (refine (HC.out _ HT1.out).mono ?_; rintro e w' ⟨rfl, rfl⟩))
          | (go_at_call 79; go_must (refine (HI.out _ HT1.out).mono ?_; rintro e w1 ⟨rfl, hb⟩; unfold infV; have HB1 := Lib.hid (HB.out.on hb); have c1 := HB1.out.c0; have c2 := HB1.out.c1; have c3 := HB1.out.c2; have c4 := HB1.out.c3; clear hb))
          | (go_at_call 80; go_must (refine (HN.out _).mono ?_; rintro e w2 ⟨rfl, hb⟩; have HB2 := Lib.hid (HB1.out.on hb); clear hb)))
        go_ret
        exact ret_below HE.out.symm HB2.out.2
      · have db : (i.b != 0) = true := by simpa using hb0
        by_cases m8 : m = 8
        · subst m8
          have HE := Lib.hid (show rightZ i = numsZ 8 i.a i.b by rw [HR.out]; rw [if_neg (by omega), if_neg (by omega)]; rw [if_neg (by omega)])
          go_enter Tryd.func67, Tryd.ntmps67
          go_wp2_with (first
            | (go_at_call 78; go_must (refine (HC.out _ HT1.out).mono ?_; rintro e w' ⟨rfl, rfl⟩))
            | (go_at_call 79; go_must (refine (HI.out _ HT1.out).mono ?_; rintro e w1 ⟨rfl, hb⟩; unfold infV; have HB1 := Lib.hid (HB.out.on hb); have c1 := HB1.out.c0; have c2 := HB1.out.c1; have c3 := HB1.out.c2; have c4 := HB1.out.c3; clear hb))
            | (go_at_call 80; go_must (refine (HN.out _).mono ?_; rintro e w2 ⟨rfl, hb⟩; have HB2 := Lib.hid (HB1.out.on hb); clear hb)))
          go_ret
          exact ret_below HE.out.symm HB2.out.2
        · have d8 : ((m : Int) != 8) = true := by simp; omega
          have HE := Lib.hid (show rightZ i = 1 by rw [HR.out]; rw [if_neg (by omega), if_neg (by omega)]; rw [if_pos (by omega)])
          go_enter Tryd.func67, Tryd.ntmps67
          go_wp2_with (first
            | (go_at_call 78; go_must (refine (HC.out _ HT1.out).mono ?_; rintro e w' ⟨rfl, rfl⟩))
            | (go_at_call 79; go_must (refine (HI.out _ HT1.out).mono ?_; rintro e w1 ⟨rfl, hb⟩; unfold infV; have HB1 := Lib.hid (HB.out.on hb); have c1 := HB1.out.c0; have c2 := HB1.out.c1; have c3 := HB1.out.c2; have c4 := HB1.out.c3; clear hb))
            | (go_at_call 80; go_must (refine (HN.out _).mono ?_; rintro e w2 ⟨rfl, hb⟩; have HB2 := Lib.hid (HB1.out.on hb); clear hb)))
          go_ret
          exact ret_below HE.out.symm HB1.out.2
  · have HE := Lib.hid (show rightZ i = k by unfold rightZ; rw [← hk, if_pos k0])
    have dk : ((k : Int) != 0) = true := by simp; omega
    clear hk
    go_enter Tryd.func67, Tryd.ntmps67
    go_wp2_with (go_at_call 78; go_must (refine (HC.out _ HT1.out).mono ?_; rintro e w' ⟨rfl, rfl⟩))
    go_ret
    exact ret_below HE.out.symm HB.out.2
end Go.Proofs.YtohliaellefhaaaDoor

/- types.Limits, Fits, flag; creelref04.Limits. -/
namespace Go.Proofs.YtohliaellefhaaaDoor
set_option linter.unusedVariables false
set_option maxRecDepth 100000
open Go.RowKit

/-- Limits, by value. -/
abbrev lv (a b : Int) (c : Bool) : Value := .agg #[.int .u32 a, .int .u32 b, .bool c]
/-- May limits be, of at most m? -/
def limB (a b : Int) (c : Bool) (m : Int) : Bool := if c then decide (a ≤ b) && decide (b ≤ m) else decide (a ≤ m) && decide (b = 0)
/-- api.ErrLimits is 26. -/
def limZ (a b : Int) (c : Bool) (m : Int) : Int := if limB a b c m then 0 else 26
theorem limZ_no {a b : Int} {c : Bool} {m : Int} (h : limB a b c m = false) : limZ a b c m = 26 := by unfold limZ; rw [h]; rfl
theorem limZ_yes {a b : Int} {c : Bool} {m : Int} (h : limB a b c m = true) : limZ a b c m = 0 := by unfold limZ; rw [h]; rfl

/-- Do the first limits do for the second? -/
def fitB (a b : Int) (c : Bool) (a' b' : Int) (c' : Bool) : Bool := decide (a' ≤ a) && (!c' || (c && decide (b ≤ b')))
end Go.Proofs.YtohliaellefhaaaDoor

/- types.appendList, types.Text, creelref04.names, creelref04.Text. -/
namespace Go.Proofs.YtohliaellefhaaaDoor
set_option linter.unusedVariables false
open Go.RowKit

/-- The names of the first k types, commas between them. -/
def commaK (l : List UInt8) : Nat → List UInt8
  | 0 => []
  | k + 1 => match l[k]? with
    | none => commaK l k
    | some c => commaK l k ++ ((if k = 0 then [] else [44]) ++ nameZ c.toNat)
def listL (l : List UInt8) : List UInt8 := 40 :: (commaK l l.length ++ [41])
def textL (p r : List UInt8) : List UInt8 := listL p ++ ([45, 62] ++ listL r)
theorem commaK_len (l : List UInt8) : ∀ k, (commaK l k).length ≤ 8 * k
  | 0 => by simp [commaK]
  | k + 1 => by
    have ih := commaK_len l k
    unfold commaK
    split
    · omega
    · rename_i c _
      have := (nameZ_len c.toNat).2
      rw [List.length_append, List.length_append]
      split <;> simp <;> omega
theorem commaK_first {l : List UInt8} {c : UInt8} (h : l[0]? = some c) : commaK l 1 = nameZ c.toNat := by
  show (match l[0]? with | none => _ | some c => _) = _
  rw [h]
  simp [commaK]
theorem commaK_next {l : List UInt8} {c : UInt8} {k : Nat} (h : l[k]? = some c) (hk : k ≠ 0) : commaK l (k + 1) = commaK l k ++ ([44] ++ nameZ c.toNat) := by
  show (match l[k]? with | none => _ | some c => _) = _
  rw [h]
  simp [hk]
theorem listL_len (l : List UInt8) : (listL l).length ≤ 8 * l.length + 2 := by
  unfold listL
  have := commaK_len l l.length
  simp; omega

/-- What appendList hands back. -/
def Onto (B : Nat) (l : List UInt8) (w : World) (e : Ending) (w' : World) : Prop := ∃ v, e = .returned v ∧ Row w' B v l ∧ Below B w w'

theorem S_at {l : List UInt8} {k : Nat} (h : k < l.length) : ∃ c : UInt8, l[k]? = some c ∧ ∀ hh : k < (S l).size, (S l)[k]'hh = c :=
  ⟨l[k], List.getElem?_eq_getElem h, fun hh => S_get l k hh⟩

end Go.Proofs.YtohliaellefhaaaDoor

/- creelref04.names, creelref04.Text; awake. -/
namespace Go.Proofs.YtohliaellefhaaaDoor
set_option linter.unusedVariables false
open Go.RowKit

theorem cat_comma (a b : List UInt8) : Value.string (S a ++ { data := #[44] } ++ S b) = .string (S (a ++ ([44] ++ b))) := by
  rw [show ({ data := #[44] } : ByteArray) = S [44] from rfl, S_append, S_append, List.append_assoc]
theorem cat_two (a b : List UInt8) : Value.string (S a ++ S b) = .string (S (a ++ b)) := by rw [S_append]

theorem cat_text (x y : List UInt8) : Ending.returned (.string ({ data := #[40] } ++ S x ++ { data := #[41, 45, 62, 40] } ++ S y ++ { data := #[41] })) = .returned (.string (S ([40] ++ x ++ [41, 45, 62, 40] ++ y ++ [41]))) := by
  rw [show ({ data := #[40] } : ByteArray) = S [40] from rfl, show ({ data := #[41] } : ByteArray) = S [41] from rfl, show ({ data := #[41, 45, 62, 40] } : ByteArray) = S [41, 45, 62, 40] from rfl, S_append, S_append, S_append, S_append]

/-- What is held while a box of two values lies at the end of the world w: nothing below it turns, and both stay. -/
def Boxed (w : World) (o : Obj) (w' : World) : Prop := Below (w.heap.size + 1) (w.alloc o) w'
theorem Boxed.start (w : World) (o : Obj) : Boxed w o (w.alloc o).drew := (Below.refl _ _).drew
theorem Boxed.cell {w w' : World} {o : Obj} (h : Boxed w o w') (i : Nat) : w'.cell? ⟨w.heap.size, i, none⟩ = (w.alloc o).cell? ⟨w.heap.size, i, none⟩ := Below.cell (show Below _ _ _ from h) (p := ⟨w.heap.size, i, none⟩) (Nat.lt_succ_self _)
theorem Boxed.row {w w' : World} {cs : Array Value} {t : TypeId} (h : Boxed w (.cells cs t) w') (i : Nat) : w'.cell? ⟨w.heap.size, i, none⟩ = cs[i]? := (h.cell i).trans (cell_of_row _ _ _ _ _ _ (heap_alloc_new w _))
theorem Boxed.on {w w1 w2 : World} {o : Obj} (h : Boxed w o w1) (hb : Below w1.heap.size w1 w2) : Boxed w o w2 := Below.trans h (hb.mono (by have := Below.size h; simp at this; omega))
theorem Boxed.end {w w' : World} {o : Obj} (h : Boxed w o w') : Below w.heap.size w w' := (below_box w o).trans (Below.mono h (by omega))
theorem Boxed.room {w w' : World} {o : Obj} (h : Boxed w o w') : w.heap.size + 1 ≤ w'.heap.size := by
  have := Below.size h
  simp at this
  omega
/-- A call that leaves what there was, where two cells of a box are held. -/
theorem held_two {K : Nat} {args : Array Value} {w : World} {u v : Value} {t : TypeId} {R : Ending → Prop} (hN : ∀ w, Calls Tryd.prog K args w fun e w' => R e ∧ Below w.heap.size w w') {W : World}
    (h : Boxed w (.cells #[u, v] t) W ∧ W.cell? ⟨w.heap.size, 0, none⟩ = some u ∧ W.cell? ⟨w.heap.size, 1, none⟩ = some v) :
    Calls Tryd.prog K args W fun e w' => R e ∧ Boxed w (.cells #[u, v] t) w' ∧ w'.cell? ⟨w.heap.size, 0, none⟩ = some u ∧ w'.cell? ⟨w.heap.size, 1, none⟩ = some v :=
  (hN W).mono fun _ _ ⟨h1, h2⟩ => ⟨h1, h.1.on h2, (h.1.on h2).row 0, (h.1.on h2).row 1⟩

theorem eg_text : S (textL [127, 126] [127]) = { data := #[40, 105, 51, 50, 44, 105, 54, 52, 41, 45, 62, 40, 105, 51, 50, 41] } := by decide
end Go.Proofs.YtohliaellefhaaaDoor

/- types.number, EncodeFunc, creelref04.Count, EncodeFunc. -/
namespace Go.Proofs.YtohliaellefhaaaDoor
set_option linter.unusedVariables false
set_option maxRecDepth 100000
open Go.RowKit

theorem count_any (n : Int) (w : World) (h0 : 0 ≤ n) (h1 : n ≤ 9223372036854775807) : Calls Tryd.prog 23 #[.int .i64 n] w fun e w' => e = .returned (.string (S (lebL n))) ∧ Below w.heap.size w w' := by
  have HU := Lib.hid (fun w => refUintL n w h0 (by omega))
  have hlen := lebL_len n (by omega)
  go_enter Tryd.func23, Tryd.ntmps23
  go_wp2_with (go_at_call 40; go_must ((with_reducible refine (HU.out _).mono ?_); intro e w1 h; obtain ⟨A, c, rfl, hl, hb⟩ := h; have hstr := str_lies' hl (by omega) c; have HB := Lib.hid hb; clear hl hb))
  go_ret
  exact ⟨rfl, HB.out⟩

/-- A function's type's bytes. -/
noncomputable def encL (p r : List UInt8) : List UInt8 := [96] ++ lebL p.length ++ p ++ lebL r.length ++ r

end Go.Proofs.YtohliaellefhaaaDoor

/- creelref04.EncodeFunc. -/
namespace Go.Proofs.YtohliaellefhaaaDoor
set_option linter.unusedVariables false
set_option maxRecDepth 100000
open Go.RowKit

theorem cat_enc (x p y r : List UInt8) : Ending.returned (.string ({ data := #[96] } ++ S x ++ S p ++ S y ++ S r)) = .returned (.string (S ([96] ++ x ++ p ++ y ++ r))) := by
  rw [show ({ data := #[96] } : ByteArray) = S [96] from rfl, S_append, S_append, S_append, S_append]

end Go.Proofs.YtohliaellefhaaaDoor

/- types.EncodeLimits, EncodeGlobal; creelref04.EncodeLimits, EncodeGlobal. -/
namespace Go.Proofs.YtohliaellefhaaaDoor
set_option linter.unusedVariables false
set_option maxRecDepth 100000
open Go.RowKit

noncomputable def encLim (a b : Int) (c : Bool) : List UInt8 := if c then [1] ++ lebL a ++ lebL b else [0] ++ lebL a
theorem encLim_pos (a b : Int) (c : Bool) : 0 < (encLim a b c).length := by unfold encLim; cases c <;> simp

/-- What is held beside a box of three values. -/
theorem held_three {K : Nat} {args : Array Value} {w : World} {u v x : Value} {t : TypeId} {R : Ending → Prop} (hN : ∀ w, Calls Tryd.prog K args w fun e w' => R e ∧ Below w.heap.size w w') {W : World}
    (h : Boxed w (.cells #[u, v, x] t) W ∧ W.cell? ⟨w.heap.size, 0, none⟩ = some u ∧ W.cell? ⟨w.heap.size, 1, none⟩ = some v ∧ W.cell? ⟨w.heap.size, 2, none⟩ = some x) :
    Calls Tryd.prog K args W fun e w' => R e ∧ Boxed w (.cells #[u, v, x] t) w' ∧ w'.cell? ⟨w.heap.size, 0, none⟩ = some u ∧ w'.cell? ⟨w.heap.size, 1, none⟩ = some v ∧ w'.cell? ⟨w.heap.size, 2, none⟩ = some x :=
  (hN W).mono fun _ _ ⟨h1, h2⟩ => ⟨h1, h.1.on h2, (h.1.on h2).row 0, (h.1.on h2).row 1, (h.1.on h2).row 2⟩
theorem three_of {w W W' : World} {u v x : Value} {t : TypeId} (h : Boxed w (.cells #[u, v, x] t) W ∧ W.cell? ⟨w.heap.size, 0, none⟩ = some u ∧ W.cell? ⟨w.heap.size, 1, none⟩ = some v ∧ W.cell? ⟨w.heap.size, 2, none⟩ = some x) (hb : Below W.heap.size W W') :
    Boxed w (.cells #[u, v, x] t) W' ∧ W'.cell? ⟨w.heap.size, 0, none⟩ = some u ∧ W'.cell? ⟨w.heap.size, 1, none⟩ = some v ∧ W'.cell? ⟨w.heap.size, 2, none⟩ = some x :=
  ⟨h.1.on hb, (h.1.on hb).row 0, (h.1.on hb).row 1, (h.1.on hb).row 2⟩

/-- At a step of a region that draws its order: append of what lies somewhere and is not empty. -/
theorem step_lies {w : World} {ops : Array Oper} {o : Oper} {a : Act} {K : Act → World → Prop} {Q : Exit → Act → World → Prop} {E : Prop} (hgd : o.guard = none) (s x : Operand)
    (ho : o.op = .call { callee := .builtin .append, args := #[s, x], argTypes := #[36, 36] })
    (B : Nat) (v : Value) (xs : List UInt8) (hs : a.eval s = v) (hr : Row w B v xs)
    (A : Option Addr) (m c B' : Nat) (news : List UInt8) (hx : a.eval x = .slice A m c) (hl : news.length = m) (hn : Lies w B' A (cells (nums news)))
    (hm : 0 < m) (hb : xs.length + news.length ≤ 1000000) (hB : B ≤ w.heap.size)
    (h : ∀ v' w', Row w' B v' (xs ++ news) → Below B w w' → K (a.put o.dst v') w') :
    if Region.wanted o (yielded ops a.tmps) = true then Oper.wp Tryd.prog o a w K Q else E := by
  have hw : Region.wanted o (yielded ops a.tmps) = true := by simp [Region.wanted, hgd]
  rw [if_pos hw]
  obtain ⟨i0, hi0, hz0, hz1, hz2⟩ := info_parts infoB
  have hcl : (cells (nums news)).length = m := by rw [cells_length, nums_length]; exact hl
  obtain ⟨b, off, rfl, _, _⟩ := hn.at_ (i := 0) (by omega)
  refine wp_append_own _ s x _ ho B 5 i0 _ 1 1 Tryd.underlying36 hi0 hz0 hz1 hz2 rfl (by omega) v _ _ hs hr ⟨b, off, none⟩ m c (cells (nums news)) hx (by omega) ?_ ?_ (by unfold maxLen; omega) (by omega) hB (fun v' w' h2 h3 _ => h v' w' ?_ (Row.below hr hB h3))
  · intro j u hu
    obtain ⟨b', off', e, _, h2⟩ := hn j u hu
    injection e with e
    injection e with e1 e2
    subst e1; subst e2
    rw [Go.WideShapes.add_plain]; exact h2
  · intro u hu
    unfold cells at hu
    obtain ⟨c, _, rfl⟩ := List.mem_map.1 hu
    rfl
  · unfold Row
    rw [nums_append, List.length_append, hl]
    unfold cells at *
    rw [List.map_append]
    exact h2

theorem three_more {w W W' : World} {u v x : Value} {t : TypeId} (h : Boxed w (.cells #[u, v, x] t) W) (hb : Below (w.heap.size + 1) W W') :
    Boxed w (.cells #[u, v, x] t) W' ∧ W'.cell? ⟨w.heap.size, 0, none⟩ = some u ∧ W'.cell? ⟨w.heap.size, 1, none⟩ = some v ∧ W'.cell? ⟨w.heap.size, 2, none⟩ = some x := by
  have k : Boxed w (.cells #[u, v, x] t) W' := Below.trans h hb
  exact ⟨k, k.row 0, k.row 1, k.row 2⟩

theorem cat_lim (x y : List UInt8) : Ending.returned (.string ({ data := #[1] } ++ S x ++ S y)) = .returned (.string (S ([1] ++ x ++ y))) := by
  rw [show ({ data := #[1] } : ByteArray) = S [1] from rfl, S_append, S_append]
theorem cat_lim0 (x : List UInt8) : Ending.returned (.string ({ data := #[0] } ++ S x)) = .returned (.string (S ([0] ++ x))) := by
  rw [show ({ data := #[0] } : ByteArray) = S [0] from rfl, S_append]
/-- A global's type's bytes. -/
def encG (t : Int) (m : Bool) : List UInt8 := [UInt8.ofNat t.toNat, if m then 1 else 0]
theorem nums_encG (t : Int) (m : Bool) (h0 : 0 ≤ t) (h1 : t ≤ 255) : nums (encG t m) = [t, if m then 1 else 0] := by
  unfold encG nums
  cases m
  · simp; omega
  · simp; omega
end Go.Proofs.YtohliaellefhaaaDoor
