/- Right: the program's and the reference's. (By gen/genRight.py.) -/
import Derived.Test.YtebgmfjgapmpfabDoorQi06
import Derived.Test.YtebgmfjgapmpfabDoorQi04
import Derived.Test.YtebgmfjgapmpfabDoorQi05
import Derived.Test.YtebgmfjgapmpfabDoorQi02
import Derived.Test.YtebgmfjgapmpfabDoorQi01
namespace Go.Proofs.YtebgmfjgapmpfabDoor
open Go.RowKit
set_option linter.unusedVariables false
set_option maxRecDepth 100000

def IntPost (z : Int) (w : World) (e : Ending) (w' : World) : Prop := e = .returned (.int .i64 z) ∧ Below w.heap.size w w'
theorem ret_below {z y : Int} {w w' : World} (h : z = y) (hb : Below w.heap.size w w') : IntPost y w (.returned (.int .i64 z)) w' := ⟨by rw [h], hb⟩

theorem numbers_any (i : I) (A : Option Addr) (c m : Nat) (w : World) (h : i.Ok) :
    Calls Tryd.prog 73 #[insV i A c, .int .i64 m] w (IntPost (numsZ m i.a i.b) w) := by
  obtain ⟨a0, a1, b0, b1, _⟩ := h
  have HB := Lib.hid (BoxI.start w i A c)
  by_cases m1 : m = 1
  · subst m1
    have HE := Lib.hid (show numsZ 1 i.a i.b = blockZ i.a by unfold numsZ; rw [if_pos rfl])
    go_enter Tryd.func73, Tryd.ntmps73
    go_wp2_with (go_at_call 93; go_must (refine (block_any _ _ a0).mono ?_; rintro e w' ⟨rfl, rfl⟩))
    go_ret
    exact ret_below (by rw [HE.out]) HB.out.2
  · have d1 : ((m : Int) == 1) = false := by simp; omega
    by_cases m0 : m = 0 ∨ m = 9
    · rcases m0 with m0 | m0
      · subst m0
        by_cases hz : i.a = 0
        · have dz : (i.a == 0) = true := by simpa using hz
          have HE := Lib.hid (show numsZ 0 i.a i.b = 0 by unfold numsZ; rw [if_neg (by omega), if_pos (by omega), if_pos hz])
          clear hz
          go_enter Tryd.func73, Tryd.ntmps73
          go_wp2_with (go_at_call 94; go_must (refine (argUnless_any _ _).mono ?_; rintro e w' ⟨rfl, rfl⟩))
          go_ret
          exact ret_below (by rw [HE.out]) HB.out.2
        · have dz : (i.a == 0) = false := by simpa using hz
          have HE := Lib.hid (show numsZ 0 i.a i.b = 1 by unfold numsZ; rw [if_neg (by omega), if_pos (by omega), if_neg hz])
          clear hz
          go_enter Tryd.func73, Tryd.ntmps73
          go_wp2_with (go_at_call 94; go_must (refine (argUnless_any _ _).mono ?_; rintro e w' ⟨rfl, rfl⟩))
          go_ret
          exact ret_below (by rw [HE.out]) HB.out.2
      · subst m0
        by_cases hz : i.a = 0
        · have dz : (i.a == 0) = true := by simpa using hz
          have HE := Lib.hid (show numsZ 9 i.a i.b = 0 by unfold numsZ; rw [if_neg (by omega), if_pos (by omega), if_pos hz])
          clear hz
          go_enter Tryd.func73, Tryd.ntmps73
          go_wp2_with (go_at_call 94; go_must (refine (argUnless_any _ _).mono ?_; rintro e w' ⟨rfl, rfl⟩))
          go_ret
          exact ret_below (by rw [HE.out]) HB.out.2
        · have dz : (i.a == 0) = false := by simpa using hz
          have HE := Lib.hid (show numsZ 9 i.a i.b = 1 by unfold numsZ; rw [if_neg (by omega), if_pos (by omega), if_neg hz])
          clear hz
          go_enter Tryd.func73, Tryd.ntmps73
          go_wp2_with (go_at_call 94; go_must (refine (argUnless_any _ _).mono ?_; rintro e w' ⟨rfl, rfl⟩))
          go_ret
          exact ret_below (by rw [HE.out]) HB.out.2
    · have d0 : ((m : Int) == 0) = false := by simp; omega
      have d9 : ((m : Int) == 9) = false := by simp; omega
      by_cases m11 : m = 11
      · subst m11
        have HE := Lib.hid (show numsZ 11 i.a i.b = 0 by unfold numsZ; rw [if_neg (by omega), if_neg (by omega), if_pos rfl])
        go_enter Tryd.func73, Tryd.ntmps73
        go_wp2
        go_ret
        exact ret_below (by rw [HE.out]) HB.out.2
      · have d11 : ((m : Int) == 11) = false := by simp; omega
        by_cases ha : i.a ≤ 4294967295
        · have da : decide (i.a ≤ 4294967295) = true := by simpa using ha
          by_cases hz : i.b ≤ 4294967295
          · have dz : decide (i.b ≤ 4294967295) = true := by simpa using hz
            have HE := Lib.hid (show numsZ m i.a i.b = 0 by unfold numsZ; rw [if_neg m1, if_neg m0, if_neg m11, if_pos ⟨ha, hz⟩])
            clear hz
            go_enter Tryd.func73, Tryd.ntmps73
            go_wp2_with (go_at_call 94; go_must (refine (argUnless_any _ _).mono ?_; rintro e w' ⟨rfl, rfl⟩))
            go_ret
            exact ret_below (by rw [HE.out]) HB.out.2
          · have dz : decide (i.b ≤ 4294967295) = false := by simpa using hz
            have HE := Lib.hid (show numsZ m i.a i.b = 1 by unfold numsZ; rw [if_neg m1, if_neg m0, if_neg m11, if_neg (by omega)])
            go_enter Tryd.func73, Tryd.ntmps73
            go_wp2_with (go_at_call 94; go_must (refine (argUnless_any _ _).mono ?_; rintro e w' ⟨rfl, rfl⟩))
            go_ret
            exact ret_below (by rw [HE.out]) HB.out.2
        · have da : decide (i.a ≤ 4294967295) = false := by simpa using ha
          have HE := Lib.hid (show numsZ m i.a i.b = 1 by unfold numsZ; rw [if_neg m1, if_neg m0, if_neg m11, if_neg (by omega)])
          go_enter Tryd.func73, Tryd.ntmps73
          go_wp2_with (go_at_call 94; go_must (refine (argUnless_any _ _).mono ?_; rintro e w' ⟨rfl, rfl⟩))
          go_ret
          exact ret_below (by rw [HE.out]) HB.out.2

theorem right_any (i : I) (A : Option Addr) (c : Nat) (w : World) (h : i.Ok) (hT : Tabs w) (hl : (i.l.length : Int) ≤ 9223372036854775807) :
    Calls Tryd.prog 47 #[insV i A c] w (IntPost (rightZ i) w) := by
  have hn := i.n_le
  have HO := Lib.hid h
  have HT := Lib.hid hT
  have HB := Lib.hid (BoxI.start w i A c)
  have HT1 := Lib.hid (hT.below HB.out.2)
  clear hT h
  obtain ⟨k, hk⟩ : ∃ k, k = checkR i.n := ⟨_, rfl⟩
  have HC : Hid (∀ W, Tabs W → Calls Tryd.prog 71 #[.int .u8 i.op.toNat] W fun e w' => e = .returned (.int .i64 (k : Nat)) ∧ W = w') := fun W hW => by rw [hk]; exact check_any i.n W hW hn
  by_cases k0 : k = 0
  · subst k0
    obtain ⟨m, hm⟩ : ∃ m, m = immR i.n := ⟨_, rfl⟩
    obtain ⟨inf, hinf⟩ : ∃ inf, inf = infR i.n := ⟨_, rfl⟩
    have him : inf.imm = m := by rw [hinf, hm]; exact (imm_same hn hk.symm).1
    have HI : Hid (∀ W, Tabs W → Calls Tryd.prog 72 #[.int .u8 i.op.toNat] W fun e w' => e = .returned (infV inf) ∧ Below W.heap.size W w') := fun W hW => by rw [hinf]; exact of_any i.n W hW hn
    have hfield := fun z wx => field_imm (S inf.name) (S inf.ps) (S inf.rs) z inf.free wx
    have HR := Lib.hid (show rightZ i = if 0 < i.l.length ∧ m ≠ 3 then 1 else if 10000 < i.l.length then 29 else if i.b ≠ 0 ∧ m ≠ 8 then 1 else numsZ m i.a i.b by unfold rightZ; rw [← hk, ← hm]; rfl)
    have HN := Lib.hid (fun W => numbers_any i A c m W HO.out)
    clear hinf hm hk
    by_cases hl0 : 0 < i.l.length
    · have dl : decide (0 < (i.l.length : Int)) = true := decide_eq_true (by omega)
      by_cases m3 : m = 3
      · subst m3
        by_cases hl1 : 10000 < i.l.length
        · have dl1 : decide (10000 < (i.l.length : Int)) = true := decide_eq_true (by omega)
          have HE := Lib.hid (show rightZ i = 29 by rw [HR.out]; rw [if_neg (by omega), if_pos hl1])
          go_enter Tryd.func47, Tryd.ntmps47
          go_wp2_with (first
            | (go_at_call 71; go_must (refine (HC.out _ HT1.out).mono ?_; rintro e w' ⟨rfl, rfl⟩))
            | (go_at_call 72; go_must (refine (HI.out _ HT1.out).mono ?_; rintro e w1 ⟨rfl, hb⟩; unfold infV; have HB1 := Lib.hid (HB.out.on hb); have c1 := HB1.out.c0; have c2 := HB1.out.c1; have c3 := HB1.out.c2; have c4 := HB1.out.c3; clear hb))
            | (go_at_call 73; go_must (refine (HN.out _).mono ?_; rintro e w2 ⟨rfl, hb⟩; have HB2 := Lib.hid (HB1.out.on hb); clear hb)))
          go_ret
          exact ret_below HE.out.symm HB1.out.2
        · have dl1 : decide (10000 < (i.l.length : Int)) = false := decide_eq_false (by omega)
          by_cases hb0 : i.b = 0
          · have db : (i.b != 0) = false := by simp [hb0]
            have HE := Lib.hid (show rightZ i = numsZ 3 i.a i.b by rw [HR.out]; rw [if_neg (by omega), if_neg hl1]; rw [if_neg (by omega)])
            clear hb0
            go_enter Tryd.func47, Tryd.ntmps47
            go_wp2_with (first
              | (go_at_call 71; go_must (refine (HC.out _ HT1.out).mono ?_; rintro e w' ⟨rfl, rfl⟩))
              | (go_at_call 72; go_must (refine (HI.out _ HT1.out).mono ?_; rintro e w1 ⟨rfl, hb⟩; unfold infV; have HB1 := Lib.hid (HB.out.on hb); have c1 := HB1.out.c0; have c2 := HB1.out.c1; have c3 := HB1.out.c2; have c4 := HB1.out.c3; clear hb))
              | (go_at_call 73; go_must (refine (HN.out _).mono ?_; rintro e w2 ⟨rfl, hb⟩; have HB2 := Lib.hid (HB1.out.on hb); clear hb)))
            go_ret
            exact ret_below HE.out.symm HB2.out.2
          · have db : (i.b != 0) = true := by simpa using hb0
            have d8 : ((3 : Int) != 8) = true := by decide
            have HE := Lib.hid (show rightZ i = 1 by rw [HR.out]; rw [if_neg (by omega), if_neg hl1]; rw [if_pos (by omega)])
            go_enter Tryd.func47, Tryd.ntmps47
            go_wp2_with (first
              | (go_at_call 71; go_must (refine (HC.out _ HT1.out).mono ?_; rintro e w' ⟨rfl, rfl⟩))
              | (go_at_call 72; go_must (refine (HI.out _ HT1.out).mono ?_; rintro e w1 ⟨rfl, hb⟩; unfold infV; have HB1 := Lib.hid (HB.out.on hb); have c1 := HB1.out.c0; have c2 := HB1.out.c1; have c3 := HB1.out.c2; have c4 := HB1.out.c3; clear hb))
              | (go_at_call 73; go_must (refine (HN.out _).mono ?_; rintro e w2 ⟨rfl, hb⟩; have HB2 := Lib.hid (HB1.out.on hb); clear hb)))
            go_ret
            exact ret_below HE.out.symm HB1.out.2
      · have d3 : ((m : Int) != 3) = true := by simp; omega
        have HE := Lib.hid (show rightZ i = 1 by rw [HR.out]; rw [if_pos ⟨hl0, m3⟩])
        go_enter Tryd.func47, Tryd.ntmps47
        go_wp2_with (first
          | (go_at_call 71; go_must (refine (HC.out _ HT1.out).mono ?_; rintro e w' ⟨rfl, rfl⟩))
          | (go_at_call 72; go_must (refine (HI.out _ HT1.out).mono ?_; rintro e w1 ⟨rfl, hb⟩; unfold infV; have HB1 := Lib.hid (HB.out.on hb); have c1 := HB1.out.c0; have c2 := HB1.out.c1; have c3 := HB1.out.c2; have c4 := HB1.out.c3; clear hb))
          | (go_at_call 73; go_must (refine (HN.out _).mono ?_; rintro e w2 ⟨rfl, hb⟩; have HB2 := Lib.hid (HB1.out.on hb); clear hb)))
        go_ret
        exact ret_below HE.out.symm HB1.out.2
    · have dl : decide (0 < (i.l.length : Int)) = false := decide_eq_false (by omega)
      have dl1 : decide (10000 < (i.l.length : Int)) = false := decide_eq_false (by omega)
      by_cases hb0 : i.b = 0
      · have db : (i.b != 0) = false := by simp [hb0]
        have HE := Lib.hid (show rightZ i = numsZ m i.a i.b by rw [HR.out]; rw [if_neg (by omega), if_neg (by omega)]; rw [if_neg (by omega)])
        clear hb0
        go_enter Tryd.func47, Tryd.ntmps47
        go_wp2_with (first
          | (go_at_call 71; go_must (refine (HC.out _ HT1.out).mono ?_; rintro e w' ⟨rfl, rfl⟩))
          | (go_at_call 72; go_must (refine (HI.out _ HT1.out).mono ?_; rintro e w1 ⟨rfl, hb⟩; unfold infV; have HB1 := Lib.hid (HB.out.on hb); have c1 := HB1.out.c0; have c2 := HB1.out.c1; have c3 := HB1.out.c2; have c4 := HB1.out.c3; clear hb))
          | (go_at_call 73; go_must (refine (HN.out _).mono ?_; rintro e w2 ⟨rfl, hb⟩; have HB2 := Lib.hid (HB1.out.on hb); clear hb)))
        go_ret
        exact ret_below HE.out.symm HB2.out.2
      · have db : (i.b != 0) = true := by simpa using hb0
        by_cases m8 : m = 8
        · subst m8
          have HE := Lib.hid (show rightZ i = numsZ 8 i.a i.b by rw [HR.out]; rw [if_neg (by omega), if_neg (by omega)]; rw [if_neg (by omega)])
          go_enter Tryd.func47, Tryd.ntmps47
          go_wp2_with (first
            | (go_at_call 71; go_must (refine (HC.out _ HT1.out).mono ?_; rintro e w' ⟨rfl, rfl⟩))
            | (go_at_call 72; go_must (refine (HI.out _ HT1.out).mono ?_; rintro e w1 ⟨rfl, hb⟩; unfold infV; have HB1 := Lib.hid (HB.out.on hb); have c1 := HB1.out.c0; have c2 := HB1.out.c1; have c3 := HB1.out.c2; have c4 := HB1.out.c3; clear hb))
            | (go_at_call 73; go_must (refine (HN.out _).mono ?_; rintro e w2 ⟨rfl, hb⟩; have HB2 := Lib.hid (HB1.out.on hb); clear hb)))
          go_ret
          exact ret_below HE.out.symm HB2.out.2
        · have d8 : ((m : Int) != 8) = true := by simp; omega
          have HE := Lib.hid (show rightZ i = 1 by rw [HR.out]; rw [if_neg (by omega), if_neg (by omega)]; rw [if_pos (by omega)])
          go_enter Tryd.func47, Tryd.ntmps47
          go_wp2_with (first
            | (go_at_call 71; go_must (refine (HC.out _ HT1.out).mono ?_; rintro e w' ⟨rfl, rfl⟩))
            | (go_at_call 72; go_must (refine (HI.out _ HT1.out).mono ?_; rintro e w1 ⟨rfl, hb⟩; unfold infV; have HB1 := Lib.hid (HB.out.on hb); have c1 := HB1.out.c0; have c2 := HB1.out.c1; have c3 := HB1.out.c2; have c4 := HB1.out.c3; clear hb))
            | (go_at_call 73; go_must (refine (HN.out _).mono ?_; rintro e w2 ⟨rfl, hb⟩; have HB2 := Lib.hid (HB1.out.on hb); clear hb)))
          go_ret
          exact ret_below HE.out.symm HB1.out.2
  · have HE := Lib.hid (show rightZ i = k by unfold rightZ; rw [← hk, if_pos k0])
    have dk : ((k : Int) != 0) = true := by simp; omega
    clear hk
    go_enter Tryd.func47, Tryd.ntmps47
    go_wp2_with (go_at_call 71; go_must (refine (HC.out _ HT1.out).mono ?_; rintro e w' ⟨rfl, rfl⟩))
    go_ret
    exact ret_below HE.out.symm HB.out.2
end Go.Proofs.YtebgmfjgapmpfabDoor

/- wire.Size, wire.Indices, immediates: the bytes behind an opcode. (By gen/genPutl.py.) -/
namespace Go.Proofs.YtebgmfjgapmpfabDoor
open Go.RowKit
set_option linter.unusedVariables false
set_option maxRecDepth 100000

/-- The low 32 bits, the low 64 bits, with their sign. -/
def s32 (a : Int) : Int := (a + 2147483648) % 4294967296 - 2147483648
def s64 (a : Int) : Int := (a + 9223372036854775808) % 18446744073709551616 - 9223372036854775808
/-- How many labels there are, and these. -/
noncomputable def labsL (l : List Int) : List UInt8 := l.flatMap lebL
noncomputable def labL (l : List Int) : List UInt8 := lebL l.length ++ labsL l
noncomputable def immB (m : Nat) (i : I) : List UInt8 :=
  if m = 0 then [] else if m = 1 then [UInt8.ofNat i.a.toNat] else if m = 3 then labL i.l ++ lebL i.a else if m = 5 then lebL i.a ++ [0]
  else if m = 8 then lebL i.a ++ lebL i.b else if m = 9 then [0] else if m = 10 then sebL (s32 i.a) else if m = 11 then sebL (s64 i.a) else lebL i.a
/-- An instruction's bytes. -/
noncomputable def immL (i : I) : List UInt8 := immB (immR i.n) i
noncomputable def putL (i : I) : List UInt8 := i.op :: immL i

theorem labsL_len : ∀ l : List Int, (∀ c ∈ l, 0 ≤ c ∧ c ≤ 4294967295) → (labsL l).length ≤ l.length * 10
  | [], _ => by simp [labsL]
  | c :: l, h => by
    have h1 := labsL_len l (fun d hd => h d (List.mem_cons_of_mem _ hd))
    have h2 := lebL_len c (by have := h c (by simp); omega)
    unfold labsL at h1 ⊢
    rw [List.flatMap_cons, List.length_append, List.length_cons]
    omega
theorem labsL_snoc {l : List Int} {k : Nat} {c : Int} (h : l[k]? = some c) : labsL (l.take (k + 1)) = labsL (l.take k) ++ lebL c := by
  unfold labsL
  rw [take_snoc h, List.flatMap_append]
  simp
theorem labsL_take_len (l : List Int) (h : ∀ c ∈ l, 0 ≤ c ∧ c ≤ 4294967295) (k : Nat) (hl : l.length ≤ 10000) : (labsL (l.take k)).length ≤ 100000 := by
  have h1 := labsL_len (l.take k) (fun c hc => h c (List.mem_of_mem_take hc))
  have h2 : (l.take k).length ≤ l.length := by rw [List.length_take]; omega
  omega
theorem cells32_get {l : List Int} {i : Nat} {c : Int} (h : l[i]? = some c) : (cells32 l)[i]? = some (.int .u32 c) := by simp [cells32, h]

theorem size_w (n : Nat) (w : World) (hn : n ≤ 1000000) : Calls Tryd.prog 46 #[.int .i64 n] w (BytesL (lebL n) w) := by
  have HU := Lib.hid (fun w => uintB (n : Int) w (by omega) (by omega))
  have wn : IntKind.u64.wrap (n : Int) = n := by simp [IntKind.wrap, IntKind.bits, IntKind.signed]; omega
  generalize lebL (n : Int) = y at *
  go_enter Tryd.func46, Tryd.ntmps46
  go_wp2_with (go_at_call 70; go_must ((with_reducible refine (HU.out _).mono ?_); intro e w1 h; obtain ⟨v, rfl, hr, hb⟩ := h; have HR := Lib.hid hr; have HB := Lib.hid hb; clear hr hb))
  go_ret
  exact ⟨_, rfl, HR.out, HB.out⟩
theorem index_l (x : Int) (w : World) (h0 : 0 ≤ x) (h1 : x ≤ 4294967295) : Calls Tryd.prog 63 #[.int .u32 x] w (Leb (lebL x) w) := by
  have wd : IntKind.u64.wrap x = x := by simp [IntKind.wrap, IntKind.bits, IntKind.signed]; omega
  have U2 := Lib.hid (uintL x w h0 (by omega))
  generalize lebL x = y at *
  go_enter Tryd.func63, Tryd.ntmps63
  go_wp2_with (go_at_call 70; go_must ((with_reducible refine U2.out.mono ?_); intro e w2 h; obtain ⟨A2, k2, rfl, hl2, hb2⟩ := h; have HL2 := Lib.hid hl2; have HB2 := Lib.hid hb2; clear hl2 hb2))
  go_ret
  exact ⟨A2, k2, rfl, HL2.out, HB2.out⟩
theorem cfIdx (a : Array Value) (w : World) : (callFunc 63 a).run Tryd.prog w = .ok (.enter 63 a) w := by kernel_rfl
set_option maxHeartbeats 800000 in
theorem items32_any {w : World} {A : Option Addr} {c : Nat} {l : List Int} (hl : Lies w w.heap.size A (cells32 l)) (h10 : l.length ≤ 10000) (hc : ∀ c ∈ l, 0 ≤ c ∧ c ≤ 4294967295) :
    Calls Tryd.prog 118 #[.slice A l.length c, .func (.func 63) #[] #[]] w (BytesL (labL l) w) := by
  have U1 := Lib.hid (size_w l.length w (by omega))
  have m1 := lebL_len (l.length : Int) (by omega)
  have hlab : labL l = lebL l.length ++ labsL l := rfl
  obtain ⟨n, hn⟩ : ∃ n, n = l.length := ⟨_, rfl⟩
  rw [← hn] at U1 m1 hlab h10 ⊢
  generalize lebL (n : Int) = x at *
  have HL := Lib.hid hl
  have HC := Lib.hid hc
  have HN := Lib.hid hn
  have HLAB := Lib.hid hlab
  clear hl hn hlab hc
  have hcf := cfIdx
  go_enter Tryd.func118, Tryd.ntmps118
  go_wp2_with (go_at_call 46; go_must ((with_reducible refine U1.out.mono ?_); intro e w1 h; obtain ⟨v1, rfl, hr1, hb1⟩ := h; have HR1 := Lib.hid hr1; have HB1 := Lib.hid hb1; clear hr1 hb1))
  go_loopw [5, 13] (fun v i wr => ∃ k : Nat, k ≤ n ∧ i = .int .i64 k ∧ Row wr w.heap.size v (x ++ labsL (l.take k)) ∧ Below w.heap.size w wr) (fun _ i _ => n - (intOf i).toNat)
  case atStart => exact ⟨0, Nat.zero_le _, rfl, by simpa [labsL] using HR1.out, HB1.out⟩
  case round =>
    obtain ⟨k, hk, rfl, hr, hb⟩ := hrel
    have hz := hb.size
    by_cases hlt : k < n
    · obtain ⟨d, hd⟩ : ∃ d, l[k]? = some d := ⟨_, List.getElem?_eq_getElem (by rw [← HN.out]; exact hlt)⟩
      obtain ⟨b, off, rfl, hbl, hcell⟩ := HL.out k _ (cells32_get hd)
      have hcell2 := (hb.cell (p := ⟨b, off + k, none⟩) hbl).trans hcell
      have hdb := HC.out d (List.mem_of_getElem? hd)
      have U2 := Lib.hid (fun W => index_l d W hdb.1 hdb.2)
      have m2 := lebL_len d (by omega)
      have HS := Lib.hid (labsL_snoc hd)
      have hlen : (x ++ labsL (l.take k)).length ≤ 200000 := by rw [List.length_append]; have := labsL_take_len l HC.out k (by rw [← HN.out]; exact h10); omega
      have HR := Lib.hid hr
      have HB := Lib.hid hb
      obtain ⟨y, hy⟩ : ∃ y, y = lebL d := ⟨_, rfl⟩
      rw [← hy] at U2 m2 HS
      clear hr hb hcell hd hy
      go_wp2_with (first
        | (at_builtin; (refine row_lies rfl _ _ rfl w.heap.size _ _ rfl (HR.out.later HB2.out) _ _ _ _ y rfl rfl HL2.out (by omega) (by omega) (Nat.le_trans hz HB2.out.size) ?_; intro v3 w3 hr3 hb3; have HR3 := Lib.hid hr3; have HB3 := Lib.hid hb3; clear hr3 hb3))
        | (go_at_call 63; go_must ((with_reducible refine (U2.out _).mono ?_); intro e w2 h; obtain ⟨A2, k2, rfl, hl2, hb2⟩ := h; have HL2 := Lib.hid hl2; have HB2 := Lib.hid hb2; clear hl2 hb2)))
      go_roundw
      case rel => exact ⟨k + 1, by omega, by go_num, by rw [HS.out, ← List.append_assoc]; exact HR3.out, (HB.out.trans (HB2.out.mono hz)).trans HB3.out⟩
      case measure => simp [intOf]; omega
    · obtain rfl : k = n := by omega
      have HR := Lib.hid hr
      have HB := Lib.hid hb
      clear hr hb
      go_wp2
      go_ret
      exact ⟨_, rfl, by rw [HLAB.out]; have := HR.out; rw [List.take_of_length_le (by rw [← HN.out]; exact Nat.le_refl _)] at this; exact this, HB.out⟩
theorem labels_any {w : World} {A : Option Addr} {c : Nat} {l : List Int} (hl : Lies w w.heap.size A (cells32 l)) (h10 : l.length ≤ 10000) (hc : ∀ c ∈ l, 0 ≤ c ∧ c ≤ 4294967295) :
    Calls Tryd.prog 106 #[.slice A l.length c] w (BytesL (labL l) w) := by
  have HI := Lib.hid (items32_any (c := c) hl h10 hc)
  clear hl hc
  go_enter Tryd.func106, Tryd.ntmps106
  go_wp2_with (go_at_call 118; go_must ((with_reducible refine HI.out.mono ?_); intro e w1 h; obtain ⟨v, rfl, hr, hb⟩ := h; have HR := Lib.hid hr; have HB := Lib.hid hb; clear hr hb))
  go_ret
  exact ⟨_, rfl, HR.out, HB.out⟩

/-- What one that may be has. -/
theorem right_zero {i : I} (h : rightZ i = 0) : checkR i.n = 0 ∧ (0 < i.l.length → immR i.n = 3) ∧ i.l.length ≤ 10000 ∧ (i.b ≠ 0 → immR i.n = 8) ∧ numsZ (immR i.n) i.a i.b = 0 := by
  unfold rightZ at h
  by_cases h1 : checkR i.n ≠ 0
  · rw [if_pos h1] at h; omega
  · rw [if_neg h1] at h
    by_cases h2 : 0 < i.l.length ∧ immR i.n ≠ 3
    · rw [if_pos h2] at h; cases h
    · rw [if_neg h2] at h
      by_cases h3 : 10000 < i.l.length
      · rw [if_pos h3] at h; cases h
      · rw [if_neg h3] at h
        by_cases h4 : i.b ≠ 0 ∧ immR i.n ≠ 8
        · rw [if_pos h4] at h; cases h
        · rw [if_neg h4] at h
          exact ⟨by omega, by omega, by omega, by omega, h⟩
theorem block_zero {a : Int} (h : blockZ a = 0) (h0 : 0 ≤ a) : a ≤ 255 := by
  unfold blockZ at h
  by_cases h1 : a = 64
  · omega
  · rw [if_neg h1] at h
    by_cases h2 : 255 < a
    · rw [if_pos h2] at h; cases h
    · omega
theorem nums_zero {m : Nat} {a b : Int} (h : numsZ m a b = 0) (h0 : 0 ≤ a) : (m = 1 → a ≤ 255 ∧ blockZ a = 0) ∧ ((m = 0 ∨ m = 9) → a = 0) ∧ ((m ≠ 1 ∧ m ≠ 0 ∧ m ≠ 9 ∧ m ≠ 11) → a ≤ 4294967295 ∧ b ≤ 4294967295) := by
  unfold numsZ at h
  by_cases h1 : m = 1
  · rw [if_pos h1] at h
    exact ⟨fun _ => ⟨block_zero h h0, h⟩, by omega, by omega⟩
  · rw [if_neg h1] at h
    by_cases h2 : m = 0 ∨ m = 9
    · rw [if_pos h2] at h
      refine ⟨by omega, fun _ => ?_, by omega⟩
      by_cases h3 : a = 0
      · exact h3
      · rw [if_neg h3] at h; cases h
    · rw [if_neg h2] at h
      by_cases h3 : m = 11
      · exact ⟨by omega, by omega, by omega⟩
      · rw [if_neg h3] at h
        refine ⟨by omega, by omega, fun _ => ?_⟩
        by_cases h4 : a ≤ 4294967295 ∧ b ≤ 4294967295
        · exact h4
        · rw [if_neg h4] at h; cases h
theorem box_bytes {w W : World} {i : I} {A : Option Addr} {c : Nat} (h : BoxI w W i A c) {l : List UInt8} {e : Ending} {w' : World} (hb : BytesL l W e w') : BytesL l w e w' := by
  obtain ⟨v, rfl, h1, h2⟩ := hb
  exact ⟨v, rfl, h1.mono h.2.size, h.2.trans (h2.mono h.2.size)⟩
theorem u8_of {a : Int} (h0 : 0 ≤ a) (h1 : a ≤ 255) : ((UInt8.ofNat a.toNat).toNat : Int) = a := by
  rw [UInt8.toNat_ofNat']
  omega
theorem BoxI.bel {w W : World} {i : I} {A : Option Addr} {c : Nat} (h : BoxI w W i A c) : Below w.heap.size w W := h.2
theorem wp_lies {w : World} {o : Oper} {a : Act} {K : Act → World → Prop} {Q : Exit → Act → World → Prop} (hgd : o.guard = none) (s x : Operand)
    (ho : o.op = .call { callee := .builtin .append, args := #[s, x], argTypes := #[41, 41] })
    (B : Nat) (v : Value) (xs : List UInt8) (hs : a.eval s = v) (hr : Row w B v xs)
    (A : Option Addr) (m c B' : Nat) (news : List UInt8) (hx : a.eval x = .slice A m c) (hl : news.length = m) (hn : Lies w B' A (cells (nums news)))
    (hm : 0 < m) (hb : xs.length + news.length ≤ 1000000) (hB : B ≤ w.heap.size)
    (h : ∀ v' w', Row w' B v' (xs ++ news) → Below B w w' → K (a.put o.dst v') w') : Oper.wp Tryd.prog o a w K Q := by
  have hw : Region.wanted o (yielded #[] a.tmps) = true := by simp [Region.wanted, hgd]
  have := step_lies (ops := #[]) (Q := Q) (E := True) hgd s x ho B v xs hs hr A m c B' news hx hl hn hm hb hB h
  rwa [if_pos hw] at this
/-- What is held while numbers are written. -/
def Six (w : World) (i : I) (A : Option Addr) (c : Nat) (W : World) : Prop := BoxI w W i A c ∧ W.cell? ⟨w.heap.size, 1, none⟩ = some (.int .u64 i.a) ∧ W.cell? ⟨w.heap.size, 2, none⟩ = some (.int .u64 i.b) ∧ W.cell? ⟨w.heap.size, 3, none⟩ = some (.slice A i.l.length c)
theorem Six.of {w W : World} {i : I} {A : Option Addr} {c : Nat} (h : BoxI w W i A c) : Six w i A c W := ⟨h, h.c1, h.c2, h.c3⟩
theorem Six.on {w W W' : World} {i : I} {A : Option Addr} {c : Nat} (h : Six w i A c W) (hb : Below W.heap.size W W') : Six w i A c W' := .of (h.1.on hb)
theorem Six.past {w W W' : World} {i : I} {A : Option Addr} {c : Nat} (h : Six w i A c W) (hb : Below (w.heap.size + 1) W W') : Six w i A c W' :=
  .of ⟨(hb.block _ (Nat.lt_succ_self _)).trans h.1.1, h.1.2.trans (hb.mono (Nat.le_succ _))⟩

set_option maxHeartbeats 2000000 in
theorem imm_bytes (i : I) (A : Option Addr) (c : Nat) (w : World) (h : i.Ok) (hT : Tabs w) (hr : rightZ i = 0) (hl : Lies w w.heap.size A (cells32 i.l)) :
    Calls Tryd.prog 83 #[insV i A c] w (BytesL (immL i) w) := by
  have hn := i.n_le
  obtain ⟨a0, a1, b0, b1, hl0⟩ := h
  obtain ⟨hc0, _, h10, _, hz0⟩ := right_zero hr
  obtain ⟨hz1, hz2, hz3⟩ := nums_zero hz0 a0
  have HL0 := Lib.hid hl0
  have HB := Lib.hid (BoxI.start w i A c)
  have HT1 := Lib.hid (hT.below HB.out.2)
  have HLA := Lib.hid (fun W (hb : Below w.heap.size w W) => labels_any (w := W) (c := c) ((hl.below hb (Nat.le_refl _)).more hb.size) h10 hl0)
  obtain ⟨m, hm⟩ : ∃ m, m = immR i.n := ⟨_, rfl⟩
  obtain ⟨inf, hinf⟩ : ∃ inf, inf = infR i.n := ⟨_, rfl⟩
  have him : inf.imm = m := by rw [hinf, hm]; exact (imm_same hn hc0).1
  have HI : Hid (∀ W, Tabs W → Calls Tryd.prog 72 #[.int .u8 i.op.toNat] W fun e w' => e = .returned (infV inf) ∧ Below W.heap.size W w') := fun W hW => by rw [hinf]; exact of_any i.n W hW hn
  have hfield := fun z wx => field_imm (S inf.name) (S inf.ps) (S inf.rs) z inf.free wx
  have HIM := Lib.hid (show immL i = immB m i by unfold immL; rw [hm])
  rw [← hm] at hz1 hz2 hz3
  have HZ1 := Lib.hid hz1
  have HZ2 := Lib.hid hz2
  have HZ3 := Lib.hid hz3
  clear hT hl hr hc0 hz0 hinf hm hz1 hz2 hz3 hl0
  by_cases m0 : m = 0
  · subst m0
    have HE := Lib.hid (show immL i = [] by rw [HIM.out]; unfold immB; rw [if_pos rfl])
    go_enter Tryd.func83, Tryd.ntmps83
    go_wp2_with (first
      | (go_at_call 72; go_must ((with_reducible refine (HI.out _ HT1.out).mono ?_); rintro e w1 ⟨rfl, hb⟩; unfold infV; have HB1 := Lib.hid (HB.out.on hb); have c1 := HB1.out.c1; have c2 := HB1.out.c2; have c3 := HB1.out.c3; clear hb)))
    go_ret
    exact ⟨_, rfl, by rw [HE.out]; exact Row.nil _ _, HB1.out.2⟩
  have d0 : ((m : Int) == 0) = false := by simp; omega
  by_cases m1 : m = 1
  · subst m1
    have HE := Lib.hid (show immL i = [UInt8.ofNat i.a.toNat] by rw [HIM.out]; unfold immB; rw [if_neg (by omega), if_pos rfl])
    have ha := (HZ1.out rfl).1
    have hw : IntKind.u8.wrap i.a = i.a := by simp [IntKind.wrap, IntKind.bits, IntKind.signed]; omega
    go_enter Tryd.func83, Tryd.ntmps83
    go_wp2_with (first
      | (go_at_call 72; go_must ((with_reducible refine (HI.out _ HT1.out).mono ?_); rintro e w1 ⟨rfl, hb⟩; unfold infV; have HB1 := Lib.hid (HB.out.on hb); have c1 := HB1.out.c1; have c2 := HB1.out.c2; have c3 := HB1.out.c3; clear hb)))
    go_ret
    refine box_bytes HB1.out ⟨_, rfl, ?_, (Below.refl _ _).alloc (Nat.le_refl _) _⟩
    have hm := Row.made w1 [UInt8.ofNat i.a.toNat] w1.heap.size w1.heap.size rfl (Nat.le_refl _) (by simp)
    have he : nums [UInt8.ofNat i.a.toNat] = [i.a] := by unfold nums; rw [List.map_cons, u8_of a0 ha]; rfl
    rw [he] at hm
    rw [HE.out]
    exact hm
  have d1 : ((m : Int) == 1) = false := by simp; omega
  by_cases m3 : m = 3
  · subst m3
    have HE := Lib.hid (show immL i = labL i.l ++ lebL i.a by rw [HIM.out]; unfold immB; rw [if_neg (by omega), if_neg (by omega), if_pos rfl])
    have m2 := lebL_len i.a (by omega)
    have m1 : (labL i.l).length ≤ 200000 := by unfold labL; rw [List.length_append]; have := lebL_len (i.l.length : Int) (by omega); have := labsL_take_len i.l HL0.out i.l.length h10; rw [List.take_length] at this; omega
    have U2 := Lib.hid (fun W => uintL i.a W a0 a1)
    obtain ⟨x, hx⟩ : ∃ x, x = labL i.l := ⟨_, rfl⟩
    obtain ⟨y, hy⟩ : ∃ y, y = lebL i.a := ⟨_, rfl⟩
    rw [← hx] at HE m1 HLA
    rw [← hy] at HE m2 U2
    clear hx hy
    go_enter Tryd.func83, Tryd.ntmps83
    go_wp2_with (first
      | (go_at_call 72; go_must ((with_reducible refine (HI.out _ HT1.out).mono ?_); rintro e w1 ⟨rfl, hb⟩; unfold infV; have HB1 := Lib.hid (HB.out.on hb); have c1 := HB1.out.c1; have c2 := HB1.out.c2; have c3 := HB1.out.c3; clear hb)))
    refine wp_region_noPanic ?_
    refine wp_region_held_drew (S := fun W => BoxI w W i A c ∧ W.cell? ⟨w.heap.size, 1, none⟩ = some (.int .u64 i.a) ∧ W.cell? ⟨w.heap.size, 2, none⟩ = some (.int .u64 i.b) ∧ W.cell? ⟨w.heap.size, 3, none⟩ = some (.slice A i.l.length c)) (by kernel_rfl) (Six.of (HB1.out.drewN 1)) (fun hHeld => ?_)
    (refine heldTake (i := 0) (oi := { dst := some 17, op := Op.fieldAddr 37 (Operand.tmp 1) 3, type := 0, pos := "instr.go:90", after := #[], guard := none }) (v := ?_) rfl (by kernel_rfl) (by kernel_rfl) (by kernel_rfl) (by assumption) ?_ ?_; rotate_left; focus (refine .inl ⟨by kernel_rfl, ?_⟩; intro w hSw; (try dsimp only at hSw); go_simp; (try with_reducible rfl)); (try simp only [Act.put, List.setIfInBounds_toArray, List.set_cons_zero, List.set_cons_succ]))
    (refine heldTake (i := 1) (oi := { dst := some 18, op := Op.load 35 (Operand.tmp 17), type := 35, pos := "instr.go:90", after := #[{ on := 0, ground := Ground.data }], guard := none }) (v := ?_) rfl (by kernel_rfl) (by kernel_rfl) (by kernel_rfl) (by assumption) ?_ ?_; rotate_left; focus (refine .inl ⟨by kernel_rfl, ?_⟩; intro w hSw; (try dsimp only at hSw); go_simp; (try with_reducible rfl)); (try simp only [Act.put, List.setIfInBounds_toArray, List.set_cons_zero, List.set_cons_succ]))
    (refine heldTake (i := 3) (oi := { dst := some 20, op := Op.fieldAddr 37 (Operand.tmp 1) 1, type := 0, pos := "instr.go:90", after := #[], guard := none }) (v := ?_) rfl (by kernel_rfl) (by kernel_rfl) (by kernel_rfl) (by assumption) ?_ ?_; rotate_left; focus (refine .inl ⟨by kernel_rfl, ?_⟩; intro w hSw; (try dsimp only at hSw); go_simp; (try with_reducible rfl)); (try simp only [Act.put, List.setIfInBounds_toArray, List.set_cons_zero, List.set_cons_succ]))
    (refine heldTake (i := 4) (oi := { dst := some 21, op := Op.load 34 (Operand.tmp 20), type := 34, pos := "instr.go:90", after := #[{ on := 3, ground := Ground.data }], guard := none }) (v := ?_) rfl (by kernel_rfl) (by kernel_rfl) (by kernel_rfl) (by assumption) ?_ ?_; rotate_left; focus (refine .inl ⟨by kernel_rfl, ?_⟩; intro w hSw; (try dsimp only at hSw); go_simp; (try with_reducible rfl)); (try simp only [Act.put, List.setIfInBounds_toArray, List.set_cons_zero, List.set_cons_succ]))
    refine wpAnyH_ready (rs := [2]) (by kernel_rfl) (by simp) ?_
    refine AllReadyH.cons (o := { dst := some 19, op := Op.call { callee := Callee.value (Operand.func 106), args := #[Operand.tmp 18], argTypes := #[35] }, type := 41, pos := "instr.go:90", after := #[{ on := 1, ground := Ground.data }], guard := none }) rfl (fun K hK => ?_) AllReadyH.nil
    go_simp
    (go_at_call 106; (with_reducible refine (HLA.out _ (BoxI.bel hHeld.1)).mono ?_); intro e w2 h; obtain ⟨v2, rfl, hr2, hb2⟩ := h; have HR2 := Lib.hid hr2; have HB2 := Lib.hid hb2; have hk2 := Six.on hHeld hb2; have hz1 := BoxI.lt (And.left hHeld); have hs2 := hb2.size; clear hr2 hb2)
    refine hK.out _ _ hk2 (fun hHeld2 => ?_)
    clear hK K hHeld
    (try simp only [Act.put, List.setIfInBounds_toArray, List.set_cons_zero, List.set_cons_succ])
    refine wpAnyH_ready (rs := [5]) (by kernel_rfl) (by simp) ?_
    refine AllReadyH.cons (o := { dst := some 22, op := Op.call { callee := Callee.value (Operand.func 70), args := #[Operand.tmp 21], argTypes := #[34] }, type := 41, pos := "instr.go:90", after := #[{ on := 4, ground := Ground.data }, { on := 2, ground := Ground.chain }], guard := none }) rfl (fun K hK => ?_) AllReadyH.nil
    go_simp
    (go_at_call 70; (with_reducible refine (U2.out _).mono ?_); intro e w3 h; obtain ⟨A3, k3, rfl, hl3, hb3⟩ := h; have HL3 := Lib.hid hl3; have HB3 := Lib.hid hb3; have hk3 := Six.on hHeld2 hb3; have hz3 := hb3.size; clear hl3 hb3)
    refine hK.out _ _ hk3 (fun hHeld5 => ?_)
    clear hK K hHeld2
    (try simp only [Act.put, List.setIfInBounds_toArray, List.set_cons_zero, List.set_cons_succ])
    refine wpAnyH_ready (rs := [6]) (by kernel_rfl) (by simp) ?_
    refine AllReadyH.cons (o := { dst := some 23, op := Op.call { callee := Callee.builtin Builtin.append, args := #[Operand.tmp 19, Operand.tmp 22], argTypes := #[41, 41] }, type := 41, pos := "instr.go:90", after := #[{ on := 2, ground := Ground.data }, { on := 5, ground := Ground.data }, { on := 5, ground := Ground.chain }], guard := none }) rfl (fun K hK => ?_) AllReadyH.nil
    (refine wp_lies rfl _ _ rfl _ _ x rfl (HR2.out.later HB3.out) _ _ _ _ y rfl rfl HL3.out (by omega) (by omega) (Nat.le_trans hs2 hz3) ?_; intro v4 w4 hr4 hb4; have HR4 := Lib.hid hr4; have HB4 := Lib.hid hb4; have hk4 := Six.past hHeld5 (hb4.mono hz1); clear hr4 hb4)
    refine hK.out _ _ hk4 (fun hHeld6 => ?_)
    clear hK K hHeld5
    (try simp only [Act.put, List.setIfInBounds_toArray, List.set_cons_zero, List.set_cons_succ])
    (refine heldTake (i := 7) (oi := { dst := some 2, op := Op.assign (Operand.tmp 23), type := 41, pos := "instr.go:90", after := #[{ on := 6, ground := Ground.data }, { on := 6, ground := Ground.chain }, { on := 0, ground := Ground.phase }, { on := 1, ground := Ground.phase }, { on := 2, ground := Ground.phase }, { on := 3, ground := Ground.phase }, { on := 4, ground := Ground.phase }, { on := 5, ground := Ground.phase }, { on := 6, ground := Ground.phase }], guard := none }) (v := ?_) rfl (by kernel_rfl) (by kernel_rfl) (by kernel_rfl) (by assumption) ?_ ?_; rotate_left; focus (refine .inl ⟨by kernel_rfl, ?_⟩; intro w hSw; (try dsimp only at hSw); go_simp; (try with_reducible rfl)); (try simp only [Act.put, List.setIfInBounds_toArray, List.set_cons_zero, List.set_cons_succ]))
    refine wpAnyH_done (by kernel_rfl) ?_ _
    refine NoPanic.normal ?_
    have hLast := hHeld6
    clear hHeld6
    go_wp2
    go_ret
    exact ⟨_, rfl, by rw [HE.out]; exact HR4.out.mono (by omega), BoxI.bel hLast.1⟩
  have d3 : ((m : Int) == 3) = false := by simp; omega
  by_cases m5 : m = 5
  · subst m5
    have HE := Lib.hid (show immL i = lebL i.a ++ [0] by rw [HIM.out]; unfold immB; rw [if_neg (by omega), if_neg (by omega), if_neg (by omega), if_pos rfl])
    have m2 := lebL_len i.a (by omega)
    have U1 := Lib.hid (fun W => uintB i.a W a0 a1)
    obtain ⟨x, hx⟩ : ∃ x, x = lebL i.a := ⟨_, rfl⟩
    rw [← hx] at HE m2 U1
    clear hx
    go_enter Tryd.func83, Tryd.ntmps83
    go_wp2_with (first
      | (go_at_call 72; go_must ((with_reducible refine (HI.out _ HT1.out).mono ?_); rintro e w1 ⟨rfl, hb⟩; unfold infV; have HB1 := Lib.hid (HB.out.on hb); have c1 := HB1.out.c1; have c2 := HB1.out.c2; have c3 := HB1.out.c3; clear hb))
      | (at_builtin; (refine row_new rfl _ _ rfl w1.heap.size _ x rfl (HR2.out.alloc _) w2.heap.size 1 [0] rfl rfl (heap_alloc_new w2 _) (by omega) (by simp; omega) (by simp; omega) ?_; intro v3 w3 hr3 hb3; have HR3 := Lib.hid hr3; have HB3 := Lib.hid hb3; clear hr3 hb3))
      | (go_at_call 70; go_must ((with_reducible refine (U1.out _).mono ?_); intro e w2 h; obtain ⟨v2, rfl, hr2, hb2⟩ := h; have hz2 := hb2.size; have HR2 := Lib.hid hr2; have HB2 := Lib.hid hb2; clear hr2 hb2)))
    go_ret
    exact box_bytes HB1.out ⟨_, rfl, by rw [HE.out]; exact HR3.out, (HB2.out.alloc hz2 _).trans HB3.out⟩
  have d5 : ((m : Int) == 5) = false := by simp; omega
  by_cases m8 : m = 8
  · subst m8
    have HE := Lib.hid (show immL i = lebL i.a ++ lebL i.b by rw [HIM.out]; unfold immB; rw [if_neg (by omega), if_neg (by omega), if_neg (by omega), if_neg (by omega), if_pos rfl])
    have m2 := lebL_len i.b (by omega)
    have m1 : (lebL i.a).length ≤ 200000 := by have := lebL_len i.a (by omega); omega
    have U1 := Lib.hid (fun W => uintB i.a W a0 a1)
    have U2 := Lib.hid (fun W => uintL i.b W b0 b1)
    obtain ⟨x, hx⟩ : ∃ x, x = lebL i.a := ⟨_, rfl⟩
    obtain ⟨y, hy⟩ : ∃ y, y = lebL i.b := ⟨_, rfl⟩
    rw [← hx] at HE m1 U1
    rw [← hy] at HE m2 U2
    clear hx hy
    go_enter Tryd.func83, Tryd.ntmps83
    go_wp2_with (first
      | (go_at_call 72; go_must ((with_reducible refine (HI.out _ HT1.out).mono ?_); rintro e w1 ⟨rfl, hb⟩; unfold infV; have HB1 := Lib.hid (HB.out.on hb); have c1 := HB1.out.c1; have c2 := HB1.out.c2; have c3 := HB1.out.c3; clear hb)))
    refine wp_region_noPanic ?_
    refine wp_region_held_drew (S := fun W => BoxI w W i A c ∧ W.cell? ⟨w.heap.size, 1, none⟩ = some (.int .u64 i.a) ∧ W.cell? ⟨w.heap.size, 2, none⟩ = some (.int .u64 i.b) ∧ W.cell? ⟨w.heap.size, 3, none⟩ = some (.slice A i.l.length c)) (by kernel_rfl) (Six.of (HB1.out.drewN 1)) (fun hHeld => ?_)
    (refine heldTake (i := 0) (oi := { dst := some 33, op := Op.fieldAddr 37 (Operand.tmp 1) 1, type := 0, pos := "instr.go:94", after := #[], guard := none }) (v := ?_) rfl (by kernel_rfl) (by kernel_rfl) (by kernel_rfl) (by assumption) ?_ ?_; rotate_left; focus (refine .inl ⟨by kernel_rfl, ?_⟩; intro w hSw; (try dsimp only at hSw); go_simp; (try with_reducible rfl)); (try simp only [Act.put, List.setIfInBounds_toArray, List.set_cons_zero, List.set_cons_succ]))
    (refine heldTake (i := 1) (oi := { dst := some 34, op := Op.load 34 (Operand.tmp 33), type := 34, pos := "instr.go:94", after := #[{ on := 0, ground := Ground.data }], guard := none }) (v := ?_) rfl (by kernel_rfl) (by kernel_rfl) (by kernel_rfl) (by assumption) ?_ ?_; rotate_left; focus (refine .inl ⟨by kernel_rfl, ?_⟩; intro w hSw; (try dsimp only at hSw); go_simp; (try with_reducible rfl)); (try simp only [Act.put, List.setIfInBounds_toArray, List.set_cons_zero, List.set_cons_succ]))
    (refine heldTake (i := 3) (oi := { dst := some 36, op := Op.fieldAddr 37 (Operand.tmp 1) 2, type := 0, pos := "instr.go:94", after := #[], guard := none }) (v := ?_) rfl (by kernel_rfl) (by kernel_rfl) (by kernel_rfl) (by assumption) ?_ ?_; rotate_left; focus (refine .inl ⟨by kernel_rfl, ?_⟩; intro w hSw; (try dsimp only at hSw); go_simp; (try with_reducible rfl)); (try simp only [Act.put, List.setIfInBounds_toArray, List.set_cons_zero, List.set_cons_succ]))
    (refine heldTake (i := 4) (oi := { dst := some 37, op := Op.load 34 (Operand.tmp 36), type := 34, pos := "instr.go:94", after := #[{ on := 3, ground := Ground.data }], guard := none }) (v := ?_) rfl (by kernel_rfl) (by kernel_rfl) (by kernel_rfl) (by assumption) ?_ ?_; rotate_left; focus (refine .inl ⟨by kernel_rfl, ?_⟩; intro w hSw; (try dsimp only at hSw); go_simp; (try with_reducible rfl)); (try simp only [Act.put, List.setIfInBounds_toArray, List.set_cons_zero, List.set_cons_succ]))
    refine wpAnyH_ready (rs := [2]) (by kernel_rfl) (by simp) ?_
    refine AllReadyH.cons (o := { dst := some 35, op := Op.call { callee := Callee.value (Operand.func 70), args := #[Operand.tmp 34], argTypes := #[34] }, type := 41, pos := "instr.go:94", after := #[{ on := 1, ground := Ground.data }], guard := none }) rfl (fun K hK => ?_) AllReadyH.nil
    go_simp
    (go_at_call 70; (with_reducible refine (U1.out _).mono ?_); intro e w2 h; obtain ⟨v2, rfl, hr2, hb2⟩ := h; have HR2 := Lib.hid hr2; have HB2 := Lib.hid hb2; have hk2 := Six.on hHeld hb2; have hz1 := BoxI.lt (And.left hHeld); have hs2 := hb2.size; clear hr2 hb2)
    refine hK.out _ _ hk2 (fun hHeld2 => ?_)
    clear hK K hHeld
    (try simp only [Act.put, List.setIfInBounds_toArray, List.set_cons_zero, List.set_cons_succ])
    refine wpAnyH_ready (rs := [5]) (by kernel_rfl) (by simp) ?_
    refine AllReadyH.cons (o := { dst := some 38, op := Op.call { callee := Callee.value (Operand.func 70), args := #[Operand.tmp 37], argTypes := #[34] }, type := 41, pos := "instr.go:94", after := #[{ on := 4, ground := Ground.data }, { on := 2, ground := Ground.chain }], guard := none }) rfl (fun K hK => ?_) AllReadyH.nil
    go_simp
    (go_at_call 70; (with_reducible refine (U2.out _).mono ?_); intro e w3 h; obtain ⟨A3, k3, rfl, hl3, hb3⟩ := h; have HL3 := Lib.hid hl3; have HB3 := Lib.hid hb3; have hk3 := Six.on hHeld2 hb3; have hz3 := hb3.size; clear hl3 hb3)
    refine hK.out _ _ hk3 (fun hHeld5 => ?_)
    clear hK K hHeld2
    (try simp only [Act.put, List.setIfInBounds_toArray, List.set_cons_zero, List.set_cons_succ])
    refine wpAnyH_ready (rs := [6]) (by kernel_rfl) (by simp) ?_
    refine AllReadyH.cons (o := { dst := some 39, op := Op.call { callee := Callee.builtin Builtin.append, args := #[Operand.tmp 35, Operand.tmp 38], argTypes := #[41, 41] }, type := 41, pos := "instr.go:94", after := #[{ on := 2, ground := Ground.data }, { on := 5, ground := Ground.data }, { on := 5, ground := Ground.chain }], guard := none }) rfl (fun K hK => ?_) AllReadyH.nil
    (refine wp_lies rfl _ _ rfl _ _ x rfl (HR2.out.later HB3.out) _ _ _ _ y rfl rfl HL3.out (by omega) (by omega) (Nat.le_trans hs2 hz3) ?_; intro v4 w4 hr4 hb4; have HR4 := Lib.hid hr4; have HB4 := Lib.hid hb4; have hk4 := Six.past hHeld5 (hb4.mono hz1); clear hr4 hb4)
    refine hK.out _ _ hk4 (fun hHeld6 => ?_)
    clear hK K hHeld5
    (try simp only [Act.put, List.setIfInBounds_toArray, List.set_cons_zero, List.set_cons_succ])
    (refine heldTake (i := 7) (oi := { dst := some 2, op := Op.assign (Operand.tmp 39), type := 41, pos := "instr.go:94", after := #[{ on := 6, ground := Ground.data }, { on := 6, ground := Ground.chain }, { on := 0, ground := Ground.phase }, { on := 1, ground := Ground.phase }, { on := 2, ground := Ground.phase }, { on := 3, ground := Ground.phase }, { on := 4, ground := Ground.phase }, { on := 5, ground := Ground.phase }, { on := 6, ground := Ground.phase }], guard := none }) (v := ?_) rfl (by kernel_rfl) (by kernel_rfl) (by kernel_rfl) (by assumption) ?_ ?_; rotate_left; focus (refine .inl ⟨by kernel_rfl, ?_⟩; intro w hSw; (try dsimp only at hSw); go_simp; (try with_reducible rfl)); (try simp only [Act.put, List.setIfInBounds_toArray, List.set_cons_zero, List.set_cons_succ]))
    refine wpAnyH_done (by kernel_rfl) ?_ _
    refine NoPanic.normal ?_
    have hLast := hHeld6
    clear hHeld6
    go_wp2
    go_ret
    exact ⟨_, rfl, by rw [HE.out]; exact HR4.out.mono (by omega), BoxI.bel hLast.1⟩
  have d8 : ((m : Int) == 8) = false := by simp; omega
  by_cases m9 : m = 9
  · subst m9
    have HE := Lib.hid (show immL i = [0] by rw [HIM.out]; unfold immB; rw [if_neg (by omega), if_neg (by omega), if_neg (by omega), if_neg (by omega), if_neg (by omega), if_pos rfl])
    go_enter Tryd.func83, Tryd.ntmps83
    go_wp2_with (first
      | (go_at_call 72; go_must ((with_reducible refine (HI.out _ HT1.out).mono ?_); rintro e w1 ⟨rfl, hb⟩; unfold infV; have HB1 := Lib.hid (HB.out.on hb); have c1 := HB1.out.c1; have c2 := HB1.out.c2; have c3 := HB1.out.c3; clear hb)))
    go_ret
    refine box_bytes HB1.out ⟨_, rfl, ?_, (Below.refl _ _).alloc (Nat.le_refl _) _⟩
    rw [HE.out]
    exact Row.made w1 [0] w1.heap.size w1.heap.size rfl (Nat.le_refl _) (by simp)
  have d9 : ((m : Int) == 9) = false := by simp; omega
  by_cases m10 : m = 10
  · subst m10
    have HE := Lib.hid (show immL i = sebL (s32 i.a) by rw [HIM.out]; unfold immB; rw [if_neg (by omega), if_neg (by omega), if_neg (by omega), if_neg (by omega), if_neg (by omega), if_neg (by omega), if_pos rfl])
    have ha := (HZ3.out (by omega)).1
    have hw : wrap64 (wrap32 i.a) = s32 i.a := by unfold s32 wrap64 wrap32; omega
    have hs : -9223372036854775808 ≤ s32 i.a ∧ s32 i.a ≤ 9223372036854775807 := by unfold s32; omega
    have U1 := Lib.hid (fun W => intB (s32 i.a) W hs.1 hs.2)
    generalize s32 i.a = z at *
    go_enter Tryd.func83, Tryd.ntmps83
    go_wp2_with (first
      | (go_at_call 72; go_must ((with_reducible refine (HI.out _ HT1.out).mono ?_); rintro e w1 ⟨rfl, hb⟩; unfold infV; have HB1 := Lib.hid (HB.out.on hb); have c1 := HB1.out.c1; have c2 := HB1.out.c2; have c3 := HB1.out.c3; clear hb))
      | (go_at_call 107; go_must ((with_reducible refine (U1.out _).mono ?_); intro e w2 h; obtain ⟨v2, rfl, hr2, hb2⟩ := h; have HR2 := Lib.hid hr2; have HB2 := Lib.hid hb2; clear hr2 hb2)))
    go_ret
    exact box_bytes HB1.out ⟨_, rfl, by rw [HE.out]; exact HR2.out, HB2.out⟩
  have d10 : ((m : Int) == 10) = false := by simp; omega
  by_cases m11 : m = 11
  · subst m11
    have HE := Lib.hid (show immL i = sebL (s64 i.a) by rw [HIM.out]; unfold immB; rw [if_neg (by omega), if_neg (by omega), if_neg (by omega), if_neg (by omega), if_neg (by omega), if_neg (by omega), if_neg (by omega), if_pos rfl])
    have hw : wrap64 i.a = s64 i.a := by unfold s64 wrap64; omega
    have hs : -9223372036854775808 ≤ s64 i.a ∧ s64 i.a ≤ 9223372036854775807 := by unfold s64; omega
    have U1 := Lib.hid (fun W => intB (s64 i.a) W hs.1 hs.2)
    generalize s64 i.a = z at *
    go_enter Tryd.func83, Tryd.ntmps83
    go_wp2_with (first
      | (go_at_call 72; go_must ((with_reducible refine (HI.out _ HT1.out).mono ?_); rintro e w1 ⟨rfl, hb⟩; unfold infV; have HB1 := Lib.hid (HB.out.on hb); have c1 := HB1.out.c1; have c2 := HB1.out.c2; have c3 := HB1.out.c3; clear hb))
      | (go_at_call 107; go_must ((with_reducible refine (U1.out _).mono ?_); intro e w2 h; obtain ⟨v2, rfl, hr2, hb2⟩ := h; have HR2 := Lib.hid hr2; have HB2 := Lib.hid hb2; clear hr2 hb2)))
    go_ret
    exact box_bytes HB1.out ⟨_, rfl, by rw [HE.out]; exact HR2.out, HB2.out⟩
  have d11 : ((m : Int) == 11) = false := by simp; omega
  have HE := Lib.hid (show immL i = lebL i.a by rw [HIM.out]; unfold immB; rw [if_neg m0, if_neg m1, if_neg m3, if_neg m5, if_neg m8, if_neg m9, if_neg m10, if_neg m11])
  have U1 := Lib.hid (fun W => uintB i.a W a0 a1)
  clear HIM
  go_enter Tryd.func83, Tryd.ntmps83
  go_wp2_with (first
    | (go_at_call 72; go_must ((with_reducible refine (HI.out _ HT1.out).mono ?_); rintro e w1 ⟨rfl, hb⟩; unfold infV; have HB1 := Lib.hid (HB.out.on hb); have c1 := HB1.out.c1; have c2 := HB1.out.c2; have c3 := HB1.out.c3; clear hb))
    | (go_at_call 70; go_must ((with_reducible refine (U1.out _).mono ?_); intro e w2 h; obtain ⟨v2, rfl, hr2, hb2⟩ := h; have HR2 := Lib.hid hr2; have HB2 := Lib.hid hb2; clear hr2 hb2)))
  go_ret
  exact box_bytes HB1.out ⟨_, rfl, by rw [HE.out]; exact HR2.out, HB2.out⟩
end Go.Proofs.YtebgmfjgapmpfabDoor

/- instr.Put. -/
namespace Go.Proofs.YtebgmfjgapmpfabDoor
open Go.RowKit
set_option linter.unusedVariables false
set_option maxRecDepth 100000

/-- A row of the call's own lies; where it lies nowhere it has no room. -/
theorem Row.liesN {w : World} {base : Nat} {v : Value} {xs : List UInt8} (h : Row w base v xs) : ∃ A c, v = .slice A xs.length c ∧ Lies w w.heap.size A (cells (nums xs)) ∧ (A = none → c = 0) ∧ xs.length ≤ c ∧ c ≤ maxLen := by
  have h' := h
  obtain ⟨h1, h2⟩ := h
  obtain ⟨A, c, e, h3, h4, h5, _⟩ := lies_own h'
  refine ⟨A, c, e, h5, fun hA => ?_, h3, h4⟩
  rcases h2 with ⟨e2, _⟩ | ⟨g, cap, cur, e2, _⟩
  · rw [e] at e2
    injection e2
  · rw [e] at e2
    injection e2 with e2
    rw [hA] at e2
    cases e2
/-- What Put hands back. -/
def PutPost (i : I) (w : World) (e : Ending) (w' : World) : Prop :=
  ∃ v, e = .returned (.tuple #[v, .int .i64 (rightZ i)]) ∧ Row w' w.heap.size v (if rightZ i = 0 then putL i else []) ∧ Below w.heap.size w w'
theorem put_no {i : I} {w w' : World} (h : rightZ i ≠ 0) (hb : Below w.heap.size w w') : PutPost i w (.returned (.tuple #[.slice none 0 0, .int .i64 (rightZ i)])) w' :=
  ⟨_, rfl, by rw [if_neg h]; exact Row.nil _ _, hb⟩
theorem immL_len {i : I} (h : i.Ok) (hr : rightZ i = 0) : (immL i).length ≤ 200000 := by
  obtain ⟨a0, a1, b0, b1, hl0⟩ := h
  obtain ⟨_, _, h10, _, _⟩ := right_zero hr
  have k1 := lebL_len i.a (by omega)
  have k2 := lebL_len i.b (by omega)
  have k3 := lebL_len (i.l.length : Int) (by omega)
  have k4 := labsL_take_len i.l hl0 i.l.length h10
  rw [List.take_length] at k4
  have k5 := sebL_len (s32 i.a) (by unfold s32; omega) (by unfold s32; omega)
  have k6 := sebL_len (s64 i.a) (by unfold s64; omega) (by unfold s64; omega)
  unfold immL immB labL
  repeat' split
  all_goals (try simp only [List.length_append, List.length_cons, List.length_nil])
  all_goals omega
theorem nums_one (c : UInt8) : cells (nums [c]) = [.int .u8 c.toNat] := rfl
theorem catenate {W : World} {op : UInt8} {g g1 : Nat} {A1 : Option Addr} {c1 : Nat} {l2 : List UInt8} (hg : Whole W g 41 #[.slice (some ⟨g1, 0, none⟩) 1 1, .slice A1 l2.length c1])
    (h1 : Whole W g1 5 #[.int .u8 op.toNat]) (h2 : Lies W W.heap.size A1 (cells (nums l2))) (hA : A1 = none → c1 = 0) (n2 : l2.length ≤ 200000) :
    Calls Tryd.prog 45 #[.slice (some ⟨g, 0, none⟩) 2 2] W (BytesL (op :: l2) W) := by
  refine concat_any (l1 := [op]) (c1 := 1) hg ?_ h2 hA (by simp) (by simp; omega)
  intro j v hv
  rw [nums_one] at hv
  refine ⟨g1, 0, rfl, h1.lt, ?_⟩
  rw [h1.cell]
  simpa using hv

theorem put_yes {i : I} {w w' : World} {x : List UInt8} {v : Value} (h : rightZ i = 0) (hp : putL i = i.op :: x) (hr : Row w' w.heap.size v (i.op :: x)) (hb : Below w.heap.size w w') : PutPost i w (.returned (.tuple #[v, .int .i64 0])) w' :=
  ⟨v, by rw [h], by rw [if_pos h, hp]; exact hr, hb⟩
theorem size_box (w : World) (o : Obj) : (w.alloc o).heap.size = w.heap.size + 1 := by simp
theorem lies_box {w : World} {A : Option Addr} {vs : List Value} (h : Lies w w.heap.size A vs) (o : Obj) : Lies (w.alloc o) (w.alloc o).heap.size A vs :=
  (h.below (below_box w o) (Nat.le_refl _)).more (below_box w o).size
theorem cat2 {W : World} {op : UInt8} {g1 H : Nat} {A2 : Option Addr} {k2 : Nat} {x : List UInt8} (hH : W.heap.size = H) (h1 : Whole W g1 5 #[.int .u8 op.toNat]) (hl : Lies W W.heap.size A2 (cells (nums x))) (hA : A2 = none → k2 = 0) (hn : x.length ≤ 200000) :
    Calls Tryd.prog 45 #[.slice (some ⟨H, 0, none⟩) 2 2] (W.alloc (.cells #[.slice (some ⟨g1, 0, none⟩) 1 1, .slice A2 x.length k2] 41)) (BytesL (op :: x) (W.alloc (.cells #[.slice (some ⟨g1, 0, none⟩) 1 1, .slice A2 x.length k2] 41))) := by
  subst hH
  exact catenate (op := op) (Whole.made _ _ _) (h1.alloc _) (lies_box hl _) hA hn
section
variable {w W W' : World} {i : I} {A : Option Addr} {c : Nat}
theorem held5 (h : BoxI w W i A c) : BoxI w W i A c ∧ W.cell? ⟨w.heap.size, 0, none⟩ = some (.int .u8 i.op.toNat) ∧ W.cell? ⟨w.heap.size, 1, none⟩ = some (.int .u64 i.a) ∧ W.cell? ⟨w.heap.size, 2, none⟩ = some (.int .u64 i.b) ∧ W.cell? ⟨w.heap.size, 3, none⟩ = some (.slice A i.l.length c) :=
  ⟨h, h.c0, h.c1, h.c2, h.c3⟩
theorem held_on (h : BoxI w W i A c ∧ W.cell? ⟨w.heap.size, 0, none⟩ = some (.int .u8 i.op.toNat) ∧ W.cell? ⟨w.heap.size, 1, none⟩ = some (.int .u64 i.a) ∧ W.cell? ⟨w.heap.size, 2, none⟩ = some (.int .u64 i.b) ∧ W.cell? ⟨w.heap.size, 3, none⟩ = some (.slice A i.l.length c)) (hb : Below W.heap.size W W') : BoxI w W' i A c ∧ W'.cell? ⟨w.heap.size, 0, none⟩ = some (.int .u8 i.op.toNat) ∧ W'.cell? ⟨w.heap.size, 1, none⟩ = some (.int .u64 i.a) ∧ W'.cell? ⟨w.heap.size, 2, none⟩ = some (.int .u64 i.b) ∧ W'.cell? ⟨w.heap.size, 3, none⟩ = some (.slice A i.l.length c) := held5 (h.1.on hb)
theorem held_bel (h : BoxI w W i A c ∧ W.cell? ⟨w.heap.size, 0, none⟩ = some (.int .u8 i.op.toNat) ∧ W.cell? ⟨w.heap.size, 1, none⟩ = some (.int .u64 i.a) ∧ W.cell? ⟨w.heap.size, 2, none⟩ = some (.int .u64 i.b) ∧ W.cell? ⟨w.heap.size, 3, none⟩ = some (.slice A i.l.length c)) : Below w.heap.size w W := h.1.2
end
set_option maxHeartbeats 1000000 in
theorem put_any (i : I) (A : Option Addr) (c : Nat) (w : World) (h : i.Ok) (hT : Tabs w) (hl : Lies w w.heap.size A (cells32 i.l)) (hl63 : (i.l.length : Int) ≤ 9223372036854775807) :
    Calls Tryd.prog 62 #[insV i A c] w (PutPost i w) := by
  have HB := Lib.hid (BoxI.start w i A c)
  have HT1 := Lib.hid (hT.below HB.out.2)
  have HR := Lib.hid (right_any i A c (w.alloc (.cells (insC i A c) 37)) h HT1.out hl63)
  by_cases hr : rightZ i = 0
  · have HIM := Lib.hid (fun W (hb : Below w.heap.size w W) => imm_bytes i A c W h (hT.below hb) hr ((hl.below hb (Nat.le_refl _)).more hb.size))
    have hlen := immL_len h hr
    have HP := Lib.hid (show putL i = i.op :: immL i from rfl)
    have HZ := Lib.hid hr
    rw [hr] at HR
    generalize immL i = x at *
    clear h hT hl hr
    go_enter Tryd.func62, Tryd.ntmps62
    go_wp2_with (go_at_call 47; go_must ((with_reducible refine HR.out.mono ?_); rintro e w1 ⟨rfl, hb1⟩; have HB1 := Lib.hid (HB.out.on hb1); have c0 := HB1.out.c0; have c1 := HB1.out.c1; have c2 := HB1.out.c2; have c3 := HB1.out.c3; clear hb1))
    clear c0 c1 c2 c3
    go_region_held3 (fun W => BoxI w W i A c ∧ W.cell? ⟨w.heap.size, 0, none⟩ = some (.int .u8 i.op.toNat) ∧ W.cell? ⟨w.heap.size, 1, none⟩ = some (.int .u64 i.a) ∧ W.cell? ⟨w.heap.size, 2, none⟩ = some (.int .u64 i.b) ∧ W.cell? ⟨w.heap.size, 3, none⟩ = some (.slice A i.l.length c))
      (first | assumption | exact held5 (HB1.out.drewN 1) | exact held5 ((HB1.out.on (below_box _ _)).drewN 1) | exact held_on HK2.out (below_box _ _) | exact held_on (held_on HK2.out (below_box _ _)) (below_box _ _) | exact held_on HK4.out (below_box _ _))
      (first
        | (go_at_call 83; ((with_reducible refine (HIM.out _ (held_bel ‹_›)).mono ?_); intro e w2 h; obtain ⟨v2, rfl, hr2, hb2⟩ := h; obtain ⟨A2, k2, rfl, hl2, hA2, _⟩ := hr2.liesN; have hk2 := held_on ‹_› hb2; have HL2 := Lib.hid hl2; have HA2 := Lib.hid hA2; have HB2 := Lib.hid hb2; have HK2 := Lib.hid hk2; clear hl2 hA2 hr2 hb2))
        | (go_at_call 45; first
            | ((with_reducible refine (cat2 (op := i.op) (g1 := w1.heap.size) (W := w2) rfl ((Whole.made w1 5 #[.int .u8 i.op.toNat]).drew.below HB2.out) HL2.out HA2.out hlen).mono ?_); intro e w4 h; obtain ⟨v4, rfl, hr4, hb4⟩ := h; have hk4 := held_on (held_on HK2.out (below_box _ _)) hb4; have HR4 := Lib.hid hr4; have HK4 := Lib.hid hk4; have hz4 := HK2.out.1.2.size; clear hr4 hb4)
            | ((with_reducible refine (cat2 (op := i.op) (g1 := w2.heap.size) (W := w2.alloc (.cells #[.int .u8 i.op.toNat] 5)) (size_box _ _) (Whole.made w2 5 #[.int .u8 i.op.toNat]) (lies_box HL2.out _) HA2.out hlen).mono ?_); intro e w4 h; obtain ⟨v4, rfl, hr4, hb4⟩ := h; have hk4 := held_on (held_on (held_on HK2.out (below_box _ _)) (below_box _ _)) hb4; have HR4 := Lib.hid hr4; have HK4 := Lib.hid hk4; have hz4 := HK2.out.1.2.size; clear hr4 hb4)))
    all_goals
      go_wp2
      go_ret2
      exact put_yes HZ.out HP.out (HR4.out.mono (by simp; omega)) HK4.out.1.2
  · have HZ := Lib.hid hr
    have dz : (rightZ i != 0) = true := by simpa using hr
    generalize hz : rightZ i = z at *
    clear h hT hl hr HT1
    go_enter Tryd.func62, Tryd.ntmps62
    go_wp2_with (go_at_call 47; go_must ((with_reducible refine HR.out.mono ?_); rintro e w1 ⟨rfl, hb1⟩; have HB1 := Lib.hid (HB.out.on hb1); clear hb1))
    subst hz
    go_ret2
    exact put_no HZ.out HB1.out.2
end Go.Proofs.YtebgmfjgapmpfabDoor
