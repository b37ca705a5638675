/- The reference's Right. (By gen/genRefRight.py.) -/
import Derived.Test.YtjjhgmmkapeifaaDoorKr07
import Derived.Test.YtjjhgmmkapeifaaDoorKr08
import Derived.Test.YtjjhgmmkapeifaaDoorKr09
namespace Go.Proofs.YtjjhgmmkapeifaaDoor
open Go.RowKit
set_option linter.unusedVariables false
set_option maxRecDepth 100000

theorem nums_low {m : Nat} {a b : Int} (hm : m ≠ 1 ∧ m ≠ 0 ∧ m ≠ 9) (h : (a ≤ 4294967295 ∧ b ≤ 4294967295) ∨ m = 11) : numsZ m a b = 0 := by
  unfold numsZ
  rw [if_neg hm.1, if_neg (by omega)]
  by_cases m11 : m = 11
  · rw [if_pos m11]
  · rw [if_neg m11, if_pos (by omega)]
theorem nums_high {m : Nat} {a b : Int} (hm : m ≠ 1 ∧ m ≠ 0 ∧ m ≠ 9 ∧ m ≠ 11) (h : ¬ (a ≤ 4294967295 ∧ b ≤ 4294967295)) : numsZ m a b = 1 := by
  unfold numsZ
  rw [if_neg hm.1, if_neg (by omega), if_neg (by omega), if_neg h]
theorem block_same {a : Int} (h : a ≠ 64) (h2 : a ≤ 256) : blockZ a = valueZ a := by
  unfold blockZ
  rw [if_neg h]
  by_cases h3 : 255 < a
  · obtain rfl : a = 256 := by omega
    rfl
  · rw [if_neg h3]
theorem refR_end {w W : World} {i : I} {A : Option Addr} {c : Nat} (h : BoxI w W i A c) {o : Obj} : Below w.heap.size w (W.alloc o) := h.2.alloc h.2.size _
set_option maxHeartbeats 1000000 in
theorem refRight_any (i : I) (A : Option Addr) (c : Nat) (w : World) (h : i.Ok) (hl : (i.l.length : Int) ≤ 9223372036854775807) :
    Calls Tryd.prog 25 #[insV i A c] w (IntPost (rightZ i) w) := by
  have hn := i.n_le
  obtain ⟨a0, a1, b0, b1, _⟩ := h
  have hwb : IntKind.i64.wrap (i.op.toNat : Int) = i.op.toNat := by rw [IntKind.wrap_i64]; have := i.op.toNat_lt; omega
  have HB := Lib.hid (BoxI.start w i A c)
  obtain ⟨k, hk⟩ : ∃ k, k = checkR i.n := ⟨_, rfl⟩
  have HC : Hid (∀ W, Calls Tryd.prog 40 #[.int .i64 i.op.toNat] W fun e w' => e = .returned (.int .i64 (k : Nat)) ∧ Below W.heap.size W w') := fun W => by rw [hk, check_same hn]; exact refCheck_any i.n W hn
  by_cases k0 : k = 0
  · subst k0
    obtain ⟨m, hm⟩ : ∃ m, m = immR i.n := ⟨_, rfl⟩
    obtain ⟨r, hr⟩ : ∃ r, r = refR i.n := ⟨_, rfl⟩
    have him : (r.getD row0).imm = m := by rw [hr, hm]; exact (imm_same hn hk.symm).2
    have HI : Hid (∀ W, Calls Tryd.prog 41 #[.int .i64 i.op.toNat] W (RefPost r W)) := fun W => by rw [hr]; exact ref_any i.n W hn
    have HR := Lib.hid (show rightZ i = if 0 < i.l.length ∧ m ≠ 3 then 1 else if 10000 < i.l.length then 29 else if i.b ≠ 0 ∧ m ≠ 8 then 1 else numsZ m i.a i.b by unfold rightZ; rw [← hk, ← hm]; rfl)
    generalize (r.getD row0).op = r1 at *
    clear hr hm hk
    by_cases hl0 : 0 < i.l.length
    · have dl : decide (0 < (i.l.length : Int)) = true := decide_eq_true (by omega)
      by_cases m3 : m = 3
      · subst m3
        by_cases hl1 : 10000 < i.l.length
        · have dl1 : decide (10000 < (i.l.length : Int)) = true := decide_eq_true (by omega)
          have HE := Lib.hid (show rightZ i = 29 by rw [HR.out]; rw [if_neg (by omega), if_pos hl1])
          go_enter Tryd.func25, Tryd.ntmps25
          go_wp2_with (first
            | (go_at_call 40; go_must ((with_reducible refine (HC.out _).mono ?_); rintro e w1 ⟨rfl, hb⟩; have HB1 := Lib.hid (HB.out.on hb); have c1 := HB1.out.c0; clear hb))
            | (go_at_call 41; go_must ((with_reducible refine (HI.out _).mono ?_); rintro e w2 ⟨rfl, hb⟩; have HB2 := Lib.hid (HB1.out.on hb); have hlt := HB2.out.lt; have c2 := HB2.out.c1; have c3 := HB2.out.c2; have c4 := HB2.out.c3; clear hb))
            | (go_at_call 42; go_must ((with_reducible refine (refValue_any _ _).mono ?_); rintro e w' ⟨rfl, rfl⟩)))
          go_ret
          exact ret_below HE.out.symm (refR_end HB2.out)
        · have dl1 : decide (10000 < (i.l.length : Int)) = false := decide_eq_false (by omega)
          by_cases hb0 : i.b = 0
          · have db : (i.b != 0) = false := by simp [hb0]
            by_cases ha : i.a ≤ 4294967295
            · have da : decide (i.a < 4294967296) = true := decide_eq_true (by omega)
              have dbb : decide (i.b < 4294967296) = true := decide_eq_true (by omega)
              have HE := Lib.hid (show rightZ i = 0 by rw [HR.out]; rw [if_neg (by omega), if_neg hl1, if_neg (by omega)]; exact nums_low (by omega) (.inl ⟨ha, by omega⟩))
              clear hb0
              go_enter Tryd.func25, Tryd.ntmps25
              go_wp2_with (first
                | (go_at_call 40; go_must ((with_reducible refine (HC.out _).mono ?_); rintro e w1 ⟨rfl, hb⟩; have HB1 := Lib.hid (HB.out.on hb); have c1 := HB1.out.c0; clear hb))
                | (go_at_call 41; go_must ((with_reducible refine (HI.out _).mono ?_); rintro e w2 ⟨rfl, hb⟩; have HB2 := Lib.hid (HB1.out.on hb); have hlt := HB2.out.lt; have c2 := HB2.out.c1; have c3 := HB2.out.c2; have c4 := HB2.out.c3; clear hb))
                | (go_at_call 42; go_must ((with_reducible refine (refValue_any _ _).mono ?_); rintro e w' ⟨rfl, rfl⟩)))
              go_ret
              exact ret_below HE.out.symm (refR_end HB2.out)
            · have da : decide (i.a < 4294967296) = false := decide_eq_false (by omega)
              have HE := Lib.hid (show rightZ i = 1 by rw [HR.out]; rw [if_neg (by omega), if_neg hl1, if_neg (by omega)]; exact nums_high (by omega) (by omega))
              clear hb0
              go_enter Tryd.func25, Tryd.ntmps25
              go_wp2_with (first
                | (go_at_call 40; go_must ((with_reducible refine (HC.out _).mono ?_); rintro e w1 ⟨rfl, hb⟩; have HB1 := Lib.hid (HB.out.on hb); have c1 := HB1.out.c0; clear hb))
                | (go_at_call 41; go_must ((with_reducible refine (HI.out _).mono ?_); rintro e w2 ⟨rfl, hb⟩; have HB2 := Lib.hid (HB1.out.on hb); have hlt := HB2.out.lt; have c2 := HB2.out.c1; have c3 := HB2.out.c2; have c4 := HB2.out.c3; clear hb))
                | (go_at_call 42; go_must ((with_reducible refine (refValue_any _ _).mono ?_); rintro e w' ⟨rfl, rfl⟩)))
              go_ret
              exact ret_below HE.out.symm (refR_end HB2.out)
          · have db : (i.b != 0) = true := by simpa using hb0
            have d8 : ((3 : Int) != 8) = true := by decide
            have HE := Lib.hid (show rightZ i = 1 by rw [HR.out]; rw [if_neg (by omega), if_neg hl1, if_pos (by omega)])
            go_enter Tryd.func25, Tryd.ntmps25
            go_wp2_with (first
              | (go_at_call 40; go_must ((with_reducible refine (HC.out _).mono ?_); rintro e w1 ⟨rfl, hb⟩; have HB1 := Lib.hid (HB.out.on hb); have c1 := HB1.out.c0; clear hb))
              | (go_at_call 41; go_must ((with_reducible refine (HI.out _).mono ?_); rintro e w2 ⟨rfl, hb⟩; have HB2 := Lib.hid (HB1.out.on hb); have hlt := HB2.out.lt; have c2 := HB2.out.c1; have c3 := HB2.out.c2; have c4 := HB2.out.c3; clear hb))
              | (go_at_call 42; go_must ((with_reducible refine (refValue_any _ _).mono ?_); rintro e w' ⟨rfl, rfl⟩)))
            go_ret
            exact ret_below HE.out.symm (refR_end HB2.out)
      · have d3 : ((m : Int) != 3) = true := by simp; omega
        have HE := Lib.hid (show rightZ i = 1 by rw [HR.out]; rw [if_pos ⟨hl0, m3⟩])
        go_enter Tryd.func25, Tryd.ntmps25
        go_wp2_with (first
          | (go_at_call 40; go_must ((with_reducible refine (HC.out _).mono ?_); rintro e w1 ⟨rfl, hb⟩; have HB1 := Lib.hid (HB.out.on hb); have c1 := HB1.out.c0; clear hb))
          | (go_at_call 41; go_must ((with_reducible refine (HI.out _).mono ?_); rintro e w2 ⟨rfl, hb⟩; have HB2 := Lib.hid (HB1.out.on hb); have hlt := HB2.out.lt; have c2 := HB2.out.c1; have c3 := HB2.out.c2; have c4 := HB2.out.c3; clear hb))
          | (go_at_call 42; go_must ((with_reducible refine (refValue_any _ _).mono ?_); rintro e w' ⟨rfl, rfl⟩)))
        go_ret
        exact ret_below HE.out.symm (refR_end HB2.out)
    · have dl : decide (0 < (i.l.length : Int)) = false := decide_eq_false (by omega)
      have dl1 : decide (10000 < (i.l.length : Int)) = false := decide_eq_false (by omega)
      by_cases hb0 : i.b = 0
      · have db : (i.b != 0) = false := by simp [hb0]
        have dbb : decide (i.b < 4294967296) = true := decide_eq_true (by omega)
        by_cases m0 : m = 0 ∨ m = 9
        · rcases m0 with m0 | m0
          · subst m0
            by_cases hz : i.a = 0
            · have dz : (i.a == 0) = true := by simpa using hz
              have da : decide (i.a < 4294967296) = true := decide_eq_true (by omega)
              have HE := Lib.hid (show rightZ i = 0 by rw [HR.out]; rw [if_neg (by omega), if_neg (by omega), if_neg (by omega)]; unfold numsZ; rw [if_neg (by omega), if_pos (by omega), if_pos hz])
              clear hz hb0
              go_enter Tryd.func25, Tryd.ntmps25
              go_wp2_with (first
                | (go_at_call 40; go_must ((with_reducible refine (HC.out _).mono ?_); rintro e w1 ⟨rfl, hb⟩; have HB1 := Lib.hid (HB.out.on hb); have c1 := HB1.out.c0; clear hb))
                | (go_at_call 41; go_must ((with_reducible refine (HI.out _).mono ?_); rintro e w2 ⟨rfl, hb⟩; have HB2 := Lib.hid (HB1.out.on hb); have hlt := HB2.out.lt; have c2 := HB2.out.c1; have c3 := HB2.out.c2; have c4 := HB2.out.c3; clear hb))
                | (go_at_call 42; go_must ((with_reducible refine (refValue_any _ _).mono ?_); rintro e w' ⟨rfl, rfl⟩)))
              go_ret
              exact ret_below HE.out.symm (refR_end HB2.out)
            · have dz : (i.a == 0) = false := by simpa using hz
              rcases Int.lt_or_le i.a 4294967296 with ha | ha
              · have da : decide (i.a < 4294967296) = true := decide_eq_true (by omega)
                have HE := Lib.hid (show rightZ i = 1 by rw [HR.out]; rw [if_neg (by omega), if_neg (by omega), if_neg (by omega)]; unfold numsZ; rw [if_neg (by omega), if_pos (by omega), if_neg hz])
                clear hb0
                go_enter Tryd.func25, Tryd.ntmps25
                go_wp2_with (first
                  | (go_at_call 40; go_must ((with_reducible refine (HC.out _).mono ?_); rintro e w1 ⟨rfl, hb⟩; have HB1 := Lib.hid (HB.out.on hb); have c1 := HB1.out.c0; clear hb))
                  | (go_at_call 41; go_must ((with_reducible refine (HI.out _).mono ?_); rintro e w2 ⟨rfl, hb⟩; have HB2 := Lib.hid (HB1.out.on hb); have hlt := HB2.out.lt; have c2 := HB2.out.c1; have c3 := HB2.out.c2; have c4 := HB2.out.c3; clear hb))
                  | (go_at_call 42; go_must ((with_reducible refine (refValue_any _ _).mono ?_); rintro e w' ⟨rfl, rfl⟩)))
                go_ret
                exact ret_below HE.out.symm (refR_end HB2.out)
              · have da : decide (i.a < 4294967296) = false := decide_eq_false (by omega)
                have HE := Lib.hid (show rightZ i = 1 by rw [HR.out]; rw [if_neg (by omega), if_neg (by omega), if_neg (by omega)]; unfold numsZ; rw [if_neg (by omega), if_pos (by omega), if_neg hz])
                clear hb0
                go_enter Tryd.func25, Tryd.ntmps25
                go_wp2_with (first
                  | (go_at_call 40; go_must ((with_reducible refine (HC.out _).mono ?_); rintro e w1 ⟨rfl, hb⟩; have HB1 := Lib.hid (HB.out.on hb); have c1 := HB1.out.c0; clear hb))
                  | (go_at_call 41; go_must ((with_reducible refine (HI.out _).mono ?_); rintro e w2 ⟨rfl, hb⟩; have HB2 := Lib.hid (HB1.out.on hb); have hlt := HB2.out.lt; have c2 := HB2.out.c1; have c3 := HB2.out.c2; have c4 := HB2.out.c3; clear hb))
                  | (go_at_call 42; go_must ((with_reducible refine (refValue_any _ _).mono ?_); rintro e w' ⟨rfl, rfl⟩)))
                go_ret
                exact ret_below HE.out.symm (refR_end HB2.out)
          · subst m0
            by_cases hz : i.a = 0
            · have dz : (i.a == 0) = true := by simpa using hz
              have da : decide (i.a < 4294967296) = true := decide_eq_true (by omega)
              have HE := Lib.hid (show rightZ i = 0 by rw [HR.out]; rw [if_neg (by omega), if_neg (by omega), if_neg (by omega)]; unfold numsZ; rw [if_neg (by omega), if_pos (by omega), if_pos hz])
              clear hz hb0
              go_enter Tryd.func25, Tryd.ntmps25
              go_wp2_with (first
                | (go_at_call 40; go_must ((with_reducible refine (HC.out _).mono ?_); rintro e w1 ⟨rfl, hb⟩; have HB1 := Lib.hid (HB.out.on hb); have c1 := HB1.out.c0; clear hb))
                | (go_at_call 41; go_must ((with_reducible refine (HI.out _).mono ?_); rintro e w2 ⟨rfl, hb⟩; have HB2 := Lib.hid (HB1.out.on hb); have hlt := HB2.out.lt; have c2 := HB2.out.c1; have c3 := HB2.out.c2; have c4 := HB2.out.c3; clear hb))
                | (go_at_call 42; go_must ((with_reducible refine (refValue_any _ _).mono ?_); rintro e w' ⟨rfl, rfl⟩)))
              go_ret
              exact ret_below HE.out.symm (refR_end HB2.out)
            · have dz : (i.a == 0) = false := by simpa using hz
              rcases Int.lt_or_le i.a 4294967296 with ha | ha
              · have da : decide (i.a < 4294967296) = true := decide_eq_true (by omega)
                have HE := Lib.hid (show rightZ i = 1 by rw [HR.out]; rw [if_neg (by omega), if_neg (by omega), if_neg (by omega)]; unfold numsZ; rw [if_neg (by omega), if_pos (by omega), if_neg hz])
                clear hb0
                go_enter Tryd.func25, Tryd.ntmps25
                go_wp2_with (first
                  | (go_at_call 40; go_must ((with_reducible refine (HC.out _).mono ?_); rintro e w1 ⟨rfl, hb⟩; have HB1 := Lib.hid (HB.out.on hb); have c1 := HB1.out.c0; clear hb))
                  | (go_at_call 41; go_must ((with_reducible refine (HI.out _).mono ?_); rintro e w2 ⟨rfl, hb⟩; have HB2 := Lib.hid (HB1.out.on hb); have hlt := HB2.out.lt; have c2 := HB2.out.c1; have c3 := HB2.out.c2; have c4 := HB2.out.c3; clear hb))
                  | (go_at_call 42; go_must ((with_reducible refine (refValue_any _ _).mono ?_); rintro e w' ⟨rfl, rfl⟩)))
                go_ret
                exact ret_below HE.out.symm (refR_end HB2.out)
              · have da : decide (i.a < 4294967296) = false := decide_eq_false (by omega)
                have HE := Lib.hid (show rightZ i = 1 by rw [HR.out]; rw [if_neg (by omega), if_neg (by omega), if_neg (by omega)]; unfold numsZ; rw [if_neg (by omega), if_pos (by omega), if_neg hz])
                clear hb0
                go_enter Tryd.func25, Tryd.ntmps25
                go_wp2_with (first
                  | (go_at_call 40; go_must ((with_reducible refine (HC.out _).mono ?_); rintro e w1 ⟨rfl, hb⟩; have HB1 := Lib.hid (HB.out.on hb); have c1 := HB1.out.c0; clear hb))
                  | (go_at_call 41; go_must ((with_reducible refine (HI.out _).mono ?_); rintro e w2 ⟨rfl, hb⟩; have HB2 := Lib.hid (HB1.out.on hb); have hlt := HB2.out.lt; have c2 := HB2.out.c1; have c3 := HB2.out.c2; have c4 := HB2.out.c3; clear hb))
                  | (go_at_call 42; go_must ((with_reducible refine (refValue_any _ _).mono ?_); rintro e w' ⟨rfl, rfl⟩)))
                go_ret
                exact ret_below HE.out.symm (refR_end HB2.out)
        · have d0 : ((m : Int) == 0) = false := by simp; omega
          have d9 : ((m : Int) == 9) = false := by simp; omega
          by_cases m1 : m = 1
          · subst m1
            by_cases h64 : i.a = 64
            · have dz : (i.a == 64) = true := by simpa using h64
              have da : decide (i.a < 4294967296) = true := decide_eq_true (by omega)
              have HE := Lib.hid (show rightZ i = 0 by rw [HR.out]; rw [if_neg (by omega), if_neg (by omega), if_neg (by omega)]; unfold numsZ blockZ; rw [if_pos rfl, if_pos h64])
              clear h64 hb0
              go_enter Tryd.func25, Tryd.ntmps25
              go_wp2_with (first
                | (go_at_call 40; go_must ((with_reducible refine (HC.out _).mono ?_); rintro e w1 ⟨rfl, hb⟩; have HB1 := Lib.hid (HB.out.on hb); have c1 := HB1.out.c0; clear hb))
                | (go_at_call 41; go_must ((with_reducible refine (HI.out _).mono ?_); rintro e w2 ⟨rfl, hb⟩; have HB2 := Lib.hid (HB1.out.on hb); have hlt := HB2.out.lt; have c2 := HB2.out.c1; have c3 := HB2.out.c2; have c4 := HB2.out.c3; clear hb))
                | (go_at_call 42; go_must ((with_reducible refine (refValue_any _ _).mono ?_); rintro e w' ⟨rfl, rfl⟩)))
              go_ret
              exact ret_below HE.out.symm (refR_end HB2.out)
            · have dz : (i.a == 64) = false := by simpa using h64
              by_cases h256 : i.a ≤ 256
              · have da : decide (i.a < 4294967296) = true := decide_eq_true (by omega)
                have hmin : min i.a 256 = i.a := by omega
                have hw : IntKind.i64.wrap i.a = i.a := by rw [IntKind.wrap_i64]; omega
                have HE := Lib.hid (show rightZ i = valueZ i.a by rw [HR.out]; rw [if_neg (by omega), if_neg (by omega), if_neg (by omega)]; unfold numsZ; rw [if_pos rfl]; exact block_same h64 h256)
                clear hb0
                go_enter Tryd.func25, Tryd.ntmps25
                go_wp2_with (first
                  | (go_at_call 40; go_must ((with_reducible refine (HC.out _).mono ?_); rintro e w1 ⟨rfl, hb⟩; have HB1 := Lib.hid (HB.out.on hb); have c1 := HB1.out.c0; clear hb))
                  | (go_at_call 41; go_must ((with_reducible refine (HI.out _).mono ?_); rintro e w2 ⟨rfl, hb⟩; have HB2 := Lib.hid (HB1.out.on hb); have hlt := HB2.out.lt; have c2 := HB2.out.c1; have c3 := HB2.out.c2; have c4 := HB2.out.c3; clear hb))
                  | (go_at_call 42; go_must ((with_reducible refine (refValue_any _ _).mono ?_); rintro e w' ⟨rfl, rfl⟩)))
                go_ret
                exact ret_below HE.out.symm (refR_end HB2.out)
              · have hmin : min i.a 256 = 256 := by omega
                have hv : valueZ 256 = 7 := rfl
                rcases Int.lt_or_le i.a 4294967296 with ha | ha
                · have da : decide (i.a < 4294967296) = true := decide_eq_true (by omega)
                  have HE := Lib.hid (show rightZ i = 7 by rw [HR.out]; rw [if_neg (by omega), if_neg (by omega), if_neg (by omega)]; unfold numsZ blockZ; rw [if_pos rfl, if_neg h64, if_pos (by omega)])
                  clear hb0
                  go_enter Tryd.func25, Tryd.ntmps25
                  go_wp2_with (first
                    | (go_at_call 40; go_must ((with_reducible refine (HC.out _).mono ?_); rintro e w1 ⟨rfl, hb⟩; have HB1 := Lib.hid (HB.out.on hb); have c1 := HB1.out.c0; clear hb))
                    | (go_at_call 41; go_must ((with_reducible refine (HI.out _).mono ?_); rintro e w2 ⟨rfl, hb⟩; have HB2 := Lib.hid (HB1.out.on hb); have hlt := HB2.out.lt; have c2 := HB2.out.c1; have c3 := HB2.out.c2; have c4 := HB2.out.c3; clear hb))
                    | (go_at_call 42; go_must ((with_reducible refine (refValue_any _ _).mono ?_); rintro e w' ⟨rfl, rfl⟩)))
                  go_ret
                  exact ret_below HE.out.symm (refR_end HB2.out)
                · have da : decide (i.a < 4294967296) = false := decide_eq_false (by omega)
                  have HE := Lib.hid (show rightZ i = 7 by rw [HR.out]; rw [if_neg (by omega), if_neg (by omega), if_neg (by omega)]; unfold numsZ blockZ; rw [if_pos rfl, if_neg h64, if_pos (by omega)])
                  clear hb0
                  go_enter Tryd.func25, Tryd.ntmps25
                  go_wp2_with (first
                    | (go_at_call 40; go_must ((with_reducible refine (HC.out _).mono ?_); rintro e w1 ⟨rfl, hb⟩; have HB1 := Lib.hid (HB.out.on hb); have c1 := HB1.out.c0; clear hb))
                    | (go_at_call 41; go_must ((with_reducible refine (HI.out _).mono ?_); rintro e w2 ⟨rfl, hb⟩; have HB2 := Lib.hid (HB1.out.on hb); have hlt := HB2.out.lt; have c2 := HB2.out.c1; have c3 := HB2.out.c2; have c4 := HB2.out.c3; clear hb))
                    | (go_at_call 42; go_must ((with_reducible refine (refValue_any _ _).mono ?_); rintro e w' ⟨rfl, rfl⟩)))
                  go_ret
                  exact ret_below HE.out.symm (refR_end HB2.out)
          · have d1 : ((m : Int) == 1) = false := by simp; omega
            by_cases m11 : m = 11
            · subst m11
              rcases Int.lt_or_le i.a 4294967296 with ha | ha
              · have da : decide (i.a < 4294967296) = true := decide_eq_true (by omega)
                have HE := Lib.hid (show rightZ i = 0 by rw [HR.out]; rw [if_neg (by omega), if_neg (by omega), if_neg (by omega)]; unfold numsZ; rw [if_neg (by omega), if_neg (by omega), if_pos rfl])
                clear hb0
                go_enter Tryd.func25, Tryd.ntmps25
                go_wp2_with (first
                  | (go_at_call 40; go_must ((with_reducible refine (HC.out _).mono ?_); rintro e w1 ⟨rfl, hb⟩; have HB1 := Lib.hid (HB.out.on hb); have c1 := HB1.out.c0; clear hb))
                  | (go_at_call 41; go_must ((with_reducible refine (HI.out _).mono ?_); rintro e w2 ⟨rfl, hb⟩; have HB2 := Lib.hid (HB1.out.on hb); have hlt := HB2.out.lt; have c2 := HB2.out.c1; have c3 := HB2.out.c2; have c4 := HB2.out.c3; clear hb))
                  | (go_at_call 42; go_must ((with_reducible refine (refValue_any _ _).mono ?_); rintro e w' ⟨rfl, rfl⟩)))
                go_ret
                exact ret_below HE.out.symm (refR_end HB2.out)
              · have da : decide (i.a < 4294967296) = false := decide_eq_false (by omega)
                have HE := Lib.hid (show rightZ i = 0 by rw [HR.out]; rw [if_neg (by omega), if_neg (by omega), if_neg (by omega)]; unfold numsZ; rw [if_neg (by omega), if_neg (by omega), if_pos rfl])
                clear hb0
                go_enter Tryd.func25, Tryd.ntmps25
                go_wp2_with (first
                  | (go_at_call 40; go_must ((with_reducible refine (HC.out _).mono ?_); rintro e w1 ⟨rfl, hb⟩; have HB1 := Lib.hid (HB.out.on hb); have c1 := HB1.out.c0; clear hb))
                  | (go_at_call 41; go_must ((with_reducible refine (HI.out _).mono ?_); rintro e w2 ⟨rfl, hb⟩; have HB2 := Lib.hid (HB1.out.on hb); have hlt := HB2.out.lt; have c2 := HB2.out.c1; have c3 := HB2.out.c2; have c4 := HB2.out.c3; clear hb))
                  | (go_at_call 42; go_must ((with_reducible refine (refValue_any _ _).mono ?_); rintro e w' ⟨rfl, rfl⟩)))
                go_ret
                exact ret_below HE.out.symm (refR_end HB2.out)
            · have d11 : ((m : Int) == 11) = false := by simp; omega
              by_cases ha : i.a ≤ 4294967295
              · have da : decide (i.a < 4294967296) = true := decide_eq_true (by omega)
                have dbb : decide (i.b < 4294967296) = true := decide_eq_true (by omega)
                have HE := Lib.hid (show rightZ i = 0 by rw [HR.out]; rw [if_neg (by omega), if_neg (by omega), if_neg (by omega)]; exact nums_low (by omega) (.inl ⟨ha, by omega⟩))
                clear hb0
                go_enter Tryd.func25, Tryd.ntmps25
                go_wp2_with (first
                  | (go_at_call 40; go_must ((with_reducible refine (HC.out _).mono ?_); rintro e w1 ⟨rfl, hb⟩; have HB1 := Lib.hid (HB.out.on hb); have c1 := HB1.out.c0; clear hb))
                  | (go_at_call 41; go_must ((with_reducible refine (HI.out _).mono ?_); rintro e w2 ⟨rfl, hb⟩; have HB2 := Lib.hid (HB1.out.on hb); have hlt := HB2.out.lt; have c2 := HB2.out.c1; have c3 := HB2.out.c2; have c4 := HB2.out.c3; clear hb))
                  | (go_at_call 42; go_must ((with_reducible refine (refValue_any _ _).mono ?_); rintro e w' ⟨rfl, rfl⟩)))
                go_ret
                exact ret_below HE.out.symm (refR_end HB2.out)
              · have da : decide (i.a < 4294967296) = false := decide_eq_false (by omega)
                have HE := Lib.hid (show rightZ i = 1 by rw [HR.out]; rw [if_neg (by omega), if_neg (by omega), if_neg (by omega)]; exact nums_high (by omega) (by omega))
                clear hb0
                go_enter Tryd.func25, Tryd.ntmps25
                go_wp2_with (first
                  | (go_at_call 40; go_must ((with_reducible refine (HC.out _).mono ?_); rintro e w1 ⟨rfl, hb⟩; have HB1 := Lib.hid (HB.out.on hb); have c1 := HB1.out.c0; clear hb))
                  | (go_at_call 41; go_must ((with_reducible refine (HI.out _).mono ?_); rintro e w2 ⟨rfl, hb⟩; have HB2 := Lib.hid (HB1.out.on hb); have hlt := HB2.out.lt; have c2 := HB2.out.c1; have c3 := HB2.out.c2; have c4 := HB2.out.c3; clear hb))
                  | (go_at_call 42; go_must ((with_reducible refine (refValue_any _ _).mono ?_); rintro e w' ⟨rfl, rfl⟩)))
                go_ret
                exact ret_below HE.out.symm (refR_end HB2.out)
      · have db : (i.b != 0) = true := by simpa using hb0
        by_cases m8 : m = 8
        · subst m8
          by_cases ha : i.a ≤ 4294967295
          · have da : decide (i.a < 4294967296) = true := decide_eq_true (by omega)
            by_cases hbb : i.b ≤ 4294967295
            · have dbb : decide (i.b < 4294967296) = true := decide_eq_true (by omega)
              have HE := Lib.hid (show rightZ i = 0 by rw [HR.out]; rw [if_neg (by omega), if_neg (by omega), if_neg (by omega)]; exact nums_low (by omega) (.inl ⟨ha, hbb⟩))
              go_enter Tryd.func25, Tryd.ntmps25
              go_wp2_with (first
                | (go_at_call 40; go_must ((with_reducible refine (HC.out _).mono ?_); rintro e w1 ⟨rfl, hb⟩; have HB1 := Lib.hid (HB.out.on hb); have c1 := HB1.out.c0; clear hb))
                | (go_at_call 41; go_must ((with_reducible refine (HI.out _).mono ?_); rintro e w2 ⟨rfl, hb⟩; have HB2 := Lib.hid (HB1.out.on hb); have hlt := HB2.out.lt; have c2 := HB2.out.c1; have c3 := HB2.out.c2; have c4 := HB2.out.c3; clear hb))
                | (go_at_call 42; go_must ((with_reducible refine (refValue_any _ _).mono ?_); rintro e w' ⟨rfl, rfl⟩)))
              go_ret
              exact ret_below HE.out.symm (refR_end HB2.out)
            · have dbb : decide (i.b < 4294967296) = false := decide_eq_false (by omega)
              have HE := Lib.hid (show rightZ i = 1 by rw [HR.out]; rw [if_neg (by omega), if_neg (by omega), if_neg (by omega)]; exact nums_high (by omega) (by omega))
              go_enter Tryd.func25, Tryd.ntmps25
              go_wp2_with (first
                | (go_at_call 40; go_must ((with_reducible refine (HC.out _).mono ?_); rintro e w1 ⟨rfl, hb⟩; have HB1 := Lib.hid (HB.out.on hb); have c1 := HB1.out.c0; clear hb))
                | (go_at_call 41; go_must ((with_reducible refine (HI.out _).mono ?_); rintro e w2 ⟨rfl, hb⟩; have HB2 := Lib.hid (HB1.out.on hb); have hlt := HB2.out.lt; have c2 := HB2.out.c1; have c3 := HB2.out.c2; have c4 := HB2.out.c3; clear hb))
                | (go_at_call 42; go_must ((with_reducible refine (refValue_any _ _).mono ?_); rintro e w' ⟨rfl, rfl⟩)))
              go_ret
              exact ret_below HE.out.symm (refR_end HB2.out)
          · have da : decide (i.a < 4294967296) = false := decide_eq_false (by omega)
            have HE := Lib.hid (show rightZ i = 1 by rw [HR.out]; rw [if_neg (by omega), if_neg (by omega), if_neg (by omega)]; exact nums_high (by omega) (by omega))
            go_enter Tryd.func25, Tryd.ntmps25
            go_wp2_with (first
              | (go_at_call 40; go_must ((with_reducible refine (HC.out _).mono ?_); rintro e w1 ⟨rfl, hb⟩; have HB1 := Lib.hid (HB.out.on hb); have c1 := HB1.out.c0; clear hb))
              | (go_at_call 41; go_must ((with_reducible refine (HI.out _).mono ?_); rintro e w2 ⟨rfl, hb⟩; have HB2 := Lib.hid (HB1.out.on hb); have hlt := HB2.out.lt; have c2 := HB2.out.c1; have c3 := HB2.out.c2; have c4 := HB2.out.c3; clear hb))
              | (go_at_call 42; go_must ((with_reducible refine (refValue_any _ _).mono ?_); rintro e w' ⟨rfl, rfl⟩)))
            go_ret
            exact ret_below HE.out.symm (refR_end HB2.out)
        · have d8 : ((m : Int) != 8) = true := by simp; omega
          have HE := Lib.hid (show rightZ i = 1 by rw [HR.out]; rw [if_neg (by omega), if_neg (by omega), if_pos ⟨hb0, m8⟩])
          go_enter Tryd.func25, Tryd.ntmps25
          go_wp2_with (first
            | (go_at_call 40; go_must ((with_reducible refine (HC.out _).mono ?_); rintro e w1 ⟨rfl, hb⟩; have HB1 := Lib.hid (HB.out.on hb); have c1 := HB1.out.c0; clear hb))
            | (go_at_call 41; go_must ((with_reducible refine (HI.out _).mono ?_); rintro e w2 ⟨rfl, hb⟩; have HB2 := Lib.hid (HB1.out.on hb); have hlt := HB2.out.lt; have c2 := HB2.out.c1; have c3 := HB2.out.c2; have c4 := HB2.out.c3; clear hb))
            | (go_at_call 42; go_must ((with_reducible refine (refValue_any _ _).mono ?_); rintro e w' ⟨rfl, rfl⟩)))
          go_ret
          exact ret_below HE.out.symm (refR_end HB2.out)
  · have HE := Lib.hid (show rightZ i = k by unfold rightZ; rw [← hk, if_pos k0])
    have dk : ((k : Int) != 0) = true := by simp; omega
    clear hk
    go_enter Tryd.func25, Tryd.ntmps25
    go_wp2_with (go_at_call 40; go_must ((with_reducible refine (HC.out _).mono ?_); rintro e w1 ⟨rfl, hb⟩; have HB1 := Lib.hid (HB.out.on hb); clear hb))
    go_ret
    exact ret_below HE.out.symm HB1.out.2
end Go.Proofs.YtjjhgmmkapeifaaDoor

/- consts.Right and the reference's Right. (By gen/genCRight.py.) -/
namespace Go.Proofs.YtjjhgmmkapeifaaDoor
open Go.RowKit
set_option linter.unusedVariables false
set_option maxRecDepth 100000

/-- May an instruction be a constant expression? -/
def IsC (n : Nat) : Prop := n = 35 ∨ n = 65 ∨ n = 66
instance (n : Nat) : Decidable (IsC n) := by unfold IsC; infer_instance
def crightZ (i : I) : Int := if rightZ i = 0 then (if IsC i.n then 0 else 12) else rightZ i
theorem cr_no {i : I} (h : ¬ rightZ i = 0) : crightZ i = rightZ i := by unfold crightZ; rw [if_neg h]
theorem cr_yes {i : I} (h : rightZ i = 0) (h2 : IsC i.n) : crightZ i = 0 := by unfold crightZ; rw [if_pos h, if_pos h2]
theorem cr_else {i : I} (h : rightZ i = 0) (h2 : ¬ IsC i.n) : crightZ i = 12 := by unfold crightZ; rw [if_pos h, if_neg h2]
theorem cr_zero {i : I} (h : crightZ i = 0) : rightZ i = 0 ∧ IsC i.n := by
  by_cases h1 : rightZ i = 0
  · by_cases h2 : IsC i.n
    · exact ⟨h1, h2⟩
    · rw [cr_else h1 h2] at h; omega
  · rw [cr_no h1] at h; exact absurd h h1

set_option maxHeartbeats 800000 in
theorem cright_any (i : I) (A : Option Addr) (c : Nat) (w : World) (h : i.Ok) (hT : Tabs w) (hl : (i.l.length : Int) ≤ 9223372036854775807) :
    Calls Tryd.prog 10 #[insV i A c] w (IntPost (crightZ i) w) := by
  have HB := Lib.hid (BoxI.start w i A c)
  have HR := Lib.hid (right_any i A c (w.alloc (.cells (insC i A c) 25)) h (hT.below HB.out.2) hl)
  by_cases h0 : rightZ i = 0
  · rw [h0] at HR
    have HE1 := Lib.hid (fun h2 => cr_yes (i := i) h0 h2)
    have HE2 := Lib.hid (fun h2 => cr_else (i := i) h0 h2)
    clear h hT hl h0
    by_cases h35 : i.n = 35
    · have d35 : ((i.op.toNat : Int) == 35) = true := beq_iff_eq.2 (by have : i.op.toNat = 35 := h35; omega)
      have HE := Lib.hid (HE1.out (by unfold IsC; omega))
      clear HE1 HE2 h35
      go_enter Tryd.func10, Tryd.ntmps10
      go_wp2_with (go_at_call 27; go_must ((with_reducible refine HR.out.mono ?_); rintro e w1 ⟨rfl, hb⟩; have HB1 := Lib.hid (HB.out.on hb); have c0 := HB1.out.c0; clear hb))
      go_ret
      exact ret_below HE.out.symm HB1.out.2
    have d35 : ((i.op.toNat : Int) == 35) = false := by have : ¬ i.op.toNat = 35 := h35; simp; omega
    by_cases h65 : i.n = 65
    · have d65 : ((i.op.toNat : Int) == 65) = true := beq_iff_eq.2 (by have : i.op.toNat = 65 := h65; omega)
      have HE := Lib.hid (HE1.out (by unfold IsC; omega))
      clear HE1 HE2 h35 h65
      go_enter Tryd.func10, Tryd.ntmps10
      go_wp2_with (go_at_call 27; go_must ((with_reducible refine HR.out.mono ?_); rintro e w1 ⟨rfl, hb⟩; have HB1 := Lib.hid (HB.out.on hb); have c0 := HB1.out.c0; clear hb))
      go_ret
      exact ret_below HE.out.symm HB1.out.2
    have d65 : ((i.op.toNat : Int) == 65) = false := by have : ¬ i.op.toNat = 65 := h65; simp; omega
    by_cases h66 : i.n = 66
    · have d66 : ((i.op.toNat : Int) == 66) = true := beq_iff_eq.2 (by have : i.op.toNat = 66 := h66; omega)
      have HE := Lib.hid (HE1.out (by unfold IsC; omega))
      clear HE1 HE2 h35 h65 h66
      go_enter Tryd.func10, Tryd.ntmps10
      go_wp2_with (go_at_call 27; go_must ((with_reducible refine HR.out.mono ?_); rintro e w1 ⟨rfl, hb⟩; have HB1 := Lib.hid (HB.out.on hb); have c0 := HB1.out.c0; clear hb))
      go_ret
      exact ret_below HE.out.symm HB1.out.2
    have d66 : ((i.op.toNat : Int) == 66) = false := by have : ¬ i.op.toNat = 66 := h66; simp; omega
    have HE := Lib.hid (HE2.out (by unfold IsC; omega))
    clear HE1 HE2 h35 h65 h66
    go_enter Tryd.func10, Tryd.ntmps10
    go_wp2_with (go_at_call 27; go_must ((with_reducible refine HR.out.mono ?_); rintro e w1 ⟨rfl, hb⟩; have HB1 := Lib.hid (HB.out.on hb); have c0 := HB1.out.c0; clear hb))
    go_ret
    exact ret_below HE.out.symm HB1.out.2
  · have HE := Lib.hid (cr_no h0)
    obtain ⟨z, hz⟩ : ∃ z, z = rightZ i := ⟨_, rfl⟩
    rw [← hz] at HR HE h0
    have dz : (z != 0) = true := by simpa using h0
    clear h hT hl h0 hz
    go_enter Tryd.func10, Tryd.ntmps10
    go_wp2_with (go_at_call 27; go_must ((with_reducible refine HR.out.mono ?_); rintro e w1 ⟨rfl, hb⟩; have HB1 := Lib.hid (HB.out.on hb); have c0 := HB1.out.c0; clear hb))
    go_ret
    exact ret_below HE.out.symm HB1.out.2
set_option maxHeartbeats 800000 in
theorem rcright_any (i : I) (A : Option Addr) (c : Nat) (w : World) (h : i.Ok) (hl : (i.l.length : Int) ≤ 9223372036854775807) :
    Calls Tryd.prog 7 #[insV i A c] w (IntPost (crightZ i) w) := by
  have HB := Lib.hid (BoxI.start w i A c)
  have HR := Lib.hid (refRight_any i A c (w.alloc (.cells (insC i A c) 25)) h hl)
  by_cases h0 : rightZ i = 0
  · rw [h0] at HR
    have HE1 := Lib.hid (fun h2 => cr_yes (i := i) h0 h2)
    have HE2 := Lib.hid (fun h2 => cr_else (i := i) h0 h2)
    clear h hl h0
    by_cases h35 : i.n = 35
    · have d35 : ((i.op.toNat : Int) == 35) = true := beq_iff_eq.2 (by have : i.op.toNat = 35 := h35; omega)
      have HE := Lib.hid (HE1.out (by unfold IsC; omega))
      clear HE1 HE2 h35
      go_enter Tryd.func7, Tryd.ntmps7
      go_wp2_with (go_at_call 25; go_must ((with_reducible refine HR.out.mono ?_); rintro e w1 ⟨rfl, hb⟩; have HB1 := Lib.hid (HB.out.on hb); have c0 := HB1.out.c0; clear hb))
      go_ret
      exact ret_below HE.out.symm HB1.out.2
    have d35 : ((i.op.toNat : Int) == 35) = false := by have : ¬ i.op.toNat = 35 := h35; simp; omega
    by_cases h65 : i.n = 65
    · have d65 : ((i.op.toNat : Int) == 65) = true := beq_iff_eq.2 (by have : i.op.toNat = 65 := h65; omega)
      have HE := Lib.hid (HE1.out (by unfold IsC; omega))
      clear HE1 HE2 h35 h65
      go_enter Tryd.func7, Tryd.ntmps7
      go_wp2_with (go_at_call 25; go_must ((with_reducible refine HR.out.mono ?_); rintro e w1 ⟨rfl, hb⟩; have HB1 := Lib.hid (HB.out.on hb); have c0 := HB1.out.c0; clear hb))
      go_ret
      exact ret_below HE.out.symm HB1.out.2
    have d65 : ((i.op.toNat : Int) == 65) = false := by have : ¬ i.op.toNat = 65 := h65; simp; omega
    by_cases h66 : i.n = 66
    · have d66 : ((i.op.toNat : Int) == 66) = true := beq_iff_eq.2 (by have : i.op.toNat = 66 := h66; omega)
      have HE := Lib.hid (HE1.out (by unfold IsC; omega))
      clear HE1 HE2 h35 h65 h66
      go_enter Tryd.func7, Tryd.ntmps7
      go_wp2_with (go_at_call 25; go_must ((with_reducible refine HR.out.mono ?_); rintro e w1 ⟨rfl, hb⟩; have HB1 := Lib.hid (HB.out.on hb); have c0 := HB1.out.c0; clear hb))
      go_ret
      exact ret_below HE.out.symm HB1.out.2
    have d66 : ((i.op.toNat : Int) == 66) = false := by have : ¬ i.op.toNat = 66 := h66; simp; omega
    have HE := Lib.hid (HE2.out (by unfold IsC; omega))
    clear HE1 HE2 h35 h65 h66
    go_enter Tryd.func7, Tryd.ntmps7
    go_wp2_with (go_at_call 25; go_must ((with_reducible refine HR.out.mono ?_); rintro e w1 ⟨rfl, hb⟩; have HB1 := Lib.hid (HB.out.on hb); have c0 := HB1.out.c0; clear hb))
    go_ret
    exact ret_below HE.out.symm HB1.out.2
  · have HE := Lib.hid (cr_no h0)
    obtain ⟨z, hz⟩ : ∃ z, z = rightZ i := ⟨_, rfl⟩
    rw [← hz] at HR HE h0
    have dz : (z != 0) = true := by simpa using h0
    clear h hl h0 hz
    go_enter Tryd.func7, Tryd.ntmps7
    go_wp2_with (go_at_call 25; go_must ((with_reducible refine HR.out.mono ?_); rintro e w1 ⟨rfl, hb⟩; have HB1 := Lib.hid (HB.out.on hb); have c0 := HB1.out.c0; clear hb))
    go_ret
    exact ret_below HE.out.symm HB1.out.2
end Go.Proofs.YtjjhgmmkapeifaaDoor

/- What an instruction and a constant expression read of any bytes are, as plain functions; getNought and getLabels of any bytes. -/
namespace Go.Proofs.YtjjhgmmkapeifaaDoor
open Go.RowKit
set_option linter.unusedVariables false
set_option maxRecDepth 100000

/-- Numbers of 32 bits, one behind the other, behind those that are read. -/
noncomputable def idxK (l : List UInt8) : Nat → Nat → List Int → Res (List Int)
  | 0, q, acc => .ok acc q
  | n + 1, q, acc => (indexR l q).bind fun x q2 => idxK l n q2 (acc ++ [x])
theorem idxK_more {l : List UInt8} {n j q : Nat} {acc : List Int} (h : j < n) : idxK l (n - j) q acc = (indexR l q).bind fun x q2 => idxK l (n - (j + 1)) q2 (acc ++ [x]) := by
  rw [show n - j = n - (j + 1) + 1 by omega]; rfl
theorem indexR_ok {l : List UInt8} {k : Nat} {v : Int} {k' : Nat} (h : indexR l k = .ok v k') : k' ≤ l.length ∧ 0 ≤ v ∧ v ≤ 4294967295 := by
  obtain ⟨h1, h2, h3⟩ := uintR_ok (show uintR l k 32 = .ok v k' from h)
  have h4 : v < 4294967296 := h3
  exact ⟨h1, h2, by omega⟩
theorem idxK_ok {l : List UInt8} : ∀ (n q : Nat) (acc ls : List Int) (k' : Nat), q ≤ l.length → (∀ c ∈ acc, 0 ≤ c ∧ c ≤ 4294967295) → idxK l n q acc = .ok ls k' → k' ≤ l.length ∧ ls.length = acc.length + n ∧ ∀ c ∈ ls, 0 ≤ c ∧ c ≤ 4294967295
  | 0, q, acc, ls, k', hq, ha, h => by
    injection h with h1 h2
    subst h1; subst h2
    exact ⟨hq, rfl, ha⟩
  | n + 1, q, acc, ls, k', hq, ha, h => by
    unfold idxK at h
    cases hr : indexR l q with
    | err c a => rw [hr, Res.bind_err] at h; cases h
    | ok x q2 =>
      rw [hr, Res.bind_ok] at h
      obtain ⟨h1, h2, h3⟩ := indexR_ok hr
      have := idxK_ok n q2 (acc ++ [x]) ls k' h1 (by
        intro c hc
        rcases List.mem_append.1 hc with hc | hc
        · exact ha c hc
        · rw [List.mem_singleton] at hc; subst hc; exact ⟨h2, h3⟩) h
      refine ⟨this.1, ?_, this.2.2⟩
      rw [this.2.1, List.length_append, List.length_singleton]
      omega
/-- The labels, their number ahead of them. -/
noncomputable def labelsR (l : List UInt8) (k : Nat) : Res (List Int) := (countR l k).bind fun n k' => idxK l n.toNat k' []
/-- What stands behind an opcode. -/
noncomputable def bodyR (m : Nat) (c : UInt8) (l : List UInt8) (k : Nat) : Res I :=
  if m = 0 then .ok ⟨c, 0, 0, []⟩ k
  else if m = 1 then (blockR l k).bind fun a k1 => .ok ⟨c, a, 0, []⟩ k1
  else if m = 3 then (labelsR l k).bind fun ls k1 => (indexR l k1).bind fun a k2 => .ok ⟨c, a, 0, ls⟩ k2
  else if m = 5 then (indexR l k).bind fun a k1 => (noughtR l k1).bind fun _ k2 => .ok ⟨c, a, 0, []⟩ k2
  else if m = 8 then (indexR l k).bind fun a k1 => (indexR l k1).bind fun b k2 => .ok ⟨c, a, b, []⟩ k2
  else if m = 9 then (noughtR l k).bind fun _ k1 => .ok ⟨c, 0, 0, []⟩ k1
  else if m = 10 then (intR l k 32).bind fun v k1 => .ok ⟨c, v % 4294967296, 0, []⟩ k1
  else if m = 11 then (intR l k 64).bind fun v k1 => .ok ⟨c, v % 18446744073709551616, 0, []⟩ k1
  else (indexR l k).bind fun a k1 => .ok ⟨c, a, 0, []⟩ k1
/-- An instruction. -/
noncomputable def getR (l : List UInt8) (k : Nat) : Res I := (opR l k).bind fun c k1 => bodyR (immR c.toNat) c l k1
/-- A constant expression. -/
noncomputable def readR (l : List UInt8) (k : Nat) : Res I :=
  (getR l k).bind fun i k1 => if crightZ i = 0 then (byteR l k1).bind fun c k2 => if c = 11 then .ok i k2 else .err 12 k1 else .err (crightZ i) k

theorem byteR_ok {l : List UInt8} {k : Nat} {c : UInt8} {k' : Nat} (h : byteR l k = .ok c k') : k' ≤ l.length := by
  unfold byteR at h
  cases hc : l[k]? with
  | none => rw [hc] at h; cases h
  | some d =>
    rw [hc] at h
    injection h with h1 h2
    have := (List.getElem?_eq_some_iff.1 hc).1
    omega
theorem opR_ok {l : List UInt8} {k : Nat} {c : UInt8} {k' : Nat} (h : opR l k = .ok c k') : k' ≤ l.length ∧ checkR c.toNat = 0 := by
  unfold opR at h
  cases hr : byteR l k with
  | err e a => rw [hr, Res.bind_err] at h; cases h
  | ok d q =>
    rw [hr, Res.bind_ok] at h
    by_cases hc : checkR d.toNat = 0
    · rw [if_pos hc] at h
      injection h with h1 h2
      subst h1; subst h2
      exact ⟨byteR_ok hr, hc⟩
    · rw [if_neg hc] at h; cases h
theorem blockR_ok {l : List UInt8} {k : Nat} {a : Int} {k' : Nat} (h : blockR l k = .ok a k') : k' ≤ l.length ∧ 0 ≤ a ∧ a ≤ 255 := by
  unfold blockR at h
  cases hr : byteR l k with
  | err e a => rw [hr, Res.bind_err] at h; cases h
  | ok d q =>
    rw [hr, Res.bind_ok] at h
    by_cases hc : blockZ d.toNat = 0
    · rw [if_pos hc] at h
      injection h with h1 h2
      have := d.toNat_lt
      have := byteR_ok hr
      omega
    · rw [if_neg hc] at h; cases h
theorem noughtR_ok {l : List UInt8} {k : Nat} {u : Unit} {k' : Nat} (h : noughtR l k = .ok u k') : k' ≤ l.length := by
  unfold noughtR at h
  cases hr : byteR l k with
  | err e a => rw [hr, Res.bind_err] at h; cases h
  | ok d q =>
    rw [hr, Res.bind_ok] at h
    by_cases hc : d = 0
    · rw [if_pos hc] at h
      injection h with h1 h2
      have := byteR_ok hr
      omega
    · rw [if_neg hc] at h; cases h
theorem countR_le {l : List UInt8} {k : Nat} {v : Int} {k' : Nat} (h : countR l k = .ok v k') : k' ≤ l.length := by
  unfold countR atMostR at h
  cases hr : indexR l k with
  | err e a => rw [hr, Res.bind_err] at h; cases h
  | ok u q =>
    rw [hr, Res.bind_ok] at h
    by_cases hm : u ≤ 10000
    · rw [if_pos hm] at h
      injection h with h1 h2
      have := (indexR_ok hr).1
      omega
    · rw [if_neg hm] at h; cases h
theorem labelsR_ok {l : List UInt8} {k : Nat} {ls : List Int} {k' : Nat} (h : labelsR l k = .ok ls k') : k' ≤ l.length ∧ ls.length ≤ 10000 ∧ ∀ c ∈ ls, 0 ≤ c ∧ c ≤ 4294967295 := by
  unfold labelsR at h
  cases hr : countR l k with
  | err e a => rw [hr, Res.bind_err] at h; cases h
  | ok v q =>
    rw [hr, Res.bind_ok] at h
    obtain ⟨v0, v1⟩ := countR_ok hr
    obtain ⟨h1, h2, h3⟩ := idxK_ok _ _ _ _ _ (countR_le hr) (by simp) h
    simp at h2
    exact ⟨h1, by omega, h3⟩
/-- What is had of an instruction that was read. -/
def GOk (l : List UInt8) (i : I) (k' : Nat) : Prop := i.Ok ∧ i.l.length ≤ 10000 ∧ k' ≤ l.length
theorem gok_no {l : List UInt8} {c : UInt8} {a b : Int} {k : Nat} (ha : 0 ≤ a ∧ a ≤ 18446744073709551615) (hb : 0 ≤ b ∧ b ≤ 18446744073709551615) (hk : k ≤ l.length) : GOk l ⟨c, a, b, []⟩ k :=
  ⟨⟨ha.1, ha.2, hb.1, hb.2, fun c h => by cases h⟩, by simp, hk⟩
theorem bodyR_ok {l : List UInt8} {m : Nat} {c : UInt8} {k : Nat} {i : I} {k' : Nat} (hk : k ≤ l.length) (h : bodyR m c l k = .ok i k') : GOk l i k' := by
  unfold bodyR at h
  by_cases m0 : m = 0
  · rw [if_pos m0] at h
    injection h with h1 h2
    subst h1; subst h2
    exact gok_no (by omega) (by omega) hk
  rw [if_neg m0] at h
  by_cases m1 : m = 1
  · rw [if_pos m1] at h
    cases hr : blockR l k with
    | err e a => rw [hr, Res.bind_err] at h; cases h
    | ok a q =>
      rw [hr, Res.bind_ok] at h
      injection h with h1 h2
      subst h1; subst h2
      obtain ⟨g1, g2, g3⟩ := blockR_ok hr
      exact gok_no (by omega) (by omega) g1
  rw [if_neg m1] at h
  by_cases m3 : m = 3
  · rw [if_pos m3] at h
    cases hr : labelsR l k with
    | err e a => rw [hr, Res.bind_err] at h; cases h
    | ok ls q =>
      rw [hr, Res.bind_ok] at h
      cases hr2 : indexR l q with
      | err e a => rw [hr2, Res.bind_err] at h; cases h
      | ok a q2 =>
        rw [hr2, Res.bind_ok] at h
        injection h with h1 h2
        subst h1; subst h2
        obtain ⟨g1, g2, g3⟩ := labelsR_ok hr
        obtain ⟨f1, f2, f3⟩ := indexR_ok hr2
        exact ⟨⟨f2, by show a ≤ _; omega, by show (0 : Int) ≤ 0; omega, by show (0 : Int) ≤ _; omega, g3⟩, g2, f1⟩
  rw [if_neg m3] at h
  by_cases m5 : m = 5
  · rw [if_pos m5] at h
    cases hr : indexR l k with
    | err e a => rw [hr, Res.bind_err] at h; cases h
    | ok a q =>
      rw [hr, Res.bind_ok] at h
      cases hr2 : noughtR l q with
      | err e a => rw [hr2, Res.bind_err] at h; cases h
      | ok u q2 =>
        rw [hr2, Res.bind_ok] at h
        injection h with h1 h2
        subst h1; subst h2
        obtain ⟨f1, f2, f3⟩ := indexR_ok hr
        exact gok_no (by omega) (by omega) (noughtR_ok hr2)
  rw [if_neg m5] at h
  by_cases m8 : m = 8
  · rw [if_pos m8] at h
    cases hr : indexR l k with
    | err e a => rw [hr, Res.bind_err] at h; cases h
    | ok a q =>
      rw [hr, Res.bind_ok] at h
      cases hr2 : indexR l q with
      | err e a => rw [hr2, Res.bind_err] at h; cases h
      | ok b q2 =>
        rw [hr2, Res.bind_ok] at h
        injection h with h1 h2
        subst h1; subst h2
        obtain ⟨f1, f2, f3⟩ := indexR_ok hr
        obtain ⟨g1, g2, g3⟩ := indexR_ok hr2
        exact gok_no (by omega) (by omega) g1
  rw [if_neg m8] at h
  by_cases m9 : m = 9
  · rw [if_pos m9] at h
    cases hr : noughtR l k with
    | err e a => rw [hr, Res.bind_err] at h; cases h
    | ok u q =>
      rw [hr, Res.bind_ok] at h
      injection h with h1 h2
      subst h1; subst h2
      exact gok_no (by omega) (by omega) (noughtR_ok hr)
  rw [if_neg m9] at h
  by_cases m10 : m = 10
  · rw [if_pos m10] at h
    cases hr : intR l k 32 with
    | err e a => rw [hr, Res.bind_err] at h; cases h
    | ok v q =>
      rw [hr, Res.bind_ok] at h
      injection h with h1 h2
      subst h1; subst h2
      exact gok_no (by omega) (by omega) (intR_ok hr)
  rw [if_neg m10] at h
  by_cases m11 : m = 11
  · rw [if_pos m11] at h
    cases hr : intR l k 64 with
    | err e a => rw [hr, Res.bind_err] at h; cases h
    | ok v q =>
      rw [hr, Res.bind_ok] at h
      injection h with h1 h2
      subst h1; subst h2
      exact gok_no (by omega) (by omega) (intR_ok hr)
  rw [if_neg m11] at h
  cases hr : indexR l k with
  | err e a => rw [hr, Res.bind_err] at h; cases h
  | ok a q =>
    rw [hr, Res.bind_ok] at h
    injection h with h1 h2
    subst h1; subst h2
    obtain ⟨f1, f2, f3⟩ := indexR_ok hr
    exact gok_no (by omega) (by omega) f1
theorem getR_ok {l : List UInt8} {k : Nat} {i : I} {k' : Nat} (h : getR l k = .ok i k') : GOk l i k' := by
  unfold getR at h
  cases hr : opR l k with
  | err e a => rw [hr, Res.bind_err] at h; cases h
  | ok c q =>
    rw [hr, Res.bind_ok] at h
    exact bodyR_ok (opR_ok hr).1 h

theorem getNought_any {w : World} {p : Nat} {l : List UInt8} {k : Nat} (hs : Sc w p l k) :
    Calls Tryd.prog 57 #[.pointer (some ⟨p, 0, none⟩)] w (Did encU p l w (noughtR l k)) := by
  have hB := byte_any hs
  have HA := Lib.hid (at_any hs)
  unfold noughtR
  cases hr : byteR l k with
  | err c a =>
    rw [hr] at hB
    rw [Res.bind_err]
    have HB := Lib.hid hB
    clear hs hB hr
    go_enter Tryd.func57, Tryd.ntmps57
    go_wp2_with (first
      | (go_at_call 18; go_must ((with_reducible refine HA.out.mono ?_); rintro e w' ⟨rfl, rfl⟩))
      | (go_at_call 34; go_must ((with_reducible refine HB.out.mono ?_); rintro e w1 ⟨rfl, hg⟩; have HG := Lib.hid hg; clear hg)))
    exact ⟨rfl, rfl, HG.out⟩
  | ok c k' =>
    rw [hr] at hB
    rw [Res.bind_ok]
    have HB := Lib.hid hB
    clear hs hB hr
    by_cases hc : c = 0
    · subst hc
      rw [if_pos rfl]
      have d : (((0 : UInt8).toNat : Int) == 0) = true := rfl
      go_enter Tryd.func57, Tryd.ntmps57
      go_wp2_with (first
        | (go_at_call 18; go_must ((with_reducible refine HA.out.mono ?_); rintro e w' ⟨rfl, rfl⟩))
        | (go_at_call 34; go_must ((with_reducible refine HB.out.mono ?_); rintro e w1 ⟨rfl, hs, hg⟩; have HS := Lib.hid hs; have HG := Lib.hid hg; clear hs hg))
        | (go_at_call 33; go_must ((with_reducible refine (unlessT _ _ _).mono ?_); rintro e w' ⟨rfl, rfl⟩)))
      go_end0
      exact ⟨rfl, HS.out, HG.out⟩
    · rw [if_neg hc]
      have d : ((c.toNat : Int) == 0) = false := by
        have : c.toNat ≠ 0 := fun e => hc (UInt8.toNat_inj.1 (by rw [e]; rfl))
        simp; omega
      clear hc
      go_enter Tryd.func57, Tryd.ntmps57
      go_wp2_with (first
        | (go_at_call 18; go_must ((with_reducible refine HA.out.mono ?_); rintro e w' ⟨rfl, rfl⟩))
        | (go_at_call 34; go_must ((with_reducible refine HB.out.mono ?_); rintro e w1 ⟨rfl, hs, hg⟩; have HS := Lib.hid hs; have HG := Lib.hid hg; clear hs hg))
        | (go_at_call 33; go_must ((with_reducible refine (unlessF _ _ _).mono ?_); rintro e w' ⟨rfl, rfl⟩)))
      exact ⟨rfl, rfl, HG.out⟩

/-- What getLabels leaves behind. -/
def LabsR (p : Nat) (l : List UInt8) (r : Res (List Int)) (w : World) (e : Ending) (w' : World) : Prop := match r with
  | .ok ls k => Labs p l ls k w e w'
  | .err c a => e = .panicked (stopP c a) ∧ w.grownBy w' (some p)
set_option maxHeartbeats 1000000 in
theorem getLabels_any {w : World} {p : Nat} {l : List UInt8} {k : Nat} (h : Sc w p l k) :
    Calls Tryd.prog 55 #[.pointer (some ⟨p, 0, none⟩)] w (LabsR p l (labelsR l k) w) := by
  have hN := count_scan h
  unfold labelsR
  cases hr : countR l k with
  | err c2 a =>
    rw [hr] at hN
    rw [Res.bind_err]
    have HN := Lib.hid hN
    clear hN hr h
    go_enter Tryd.func55, Tryd.ntmps55
    go_wp2_with (go_at_call 81; go_must ((with_reducible refine HN.out.mono ?_); rintro e w1 ⟨rfl, hg⟩; have HG := Lib.hid hg; clear hg))
    exact ⟨rfl, rfl, HG.out⟩
  | ok v k1 =>
    rw [hr] at hN
    rw [Res.bind_ok]
    obtain ⟨v0, v1⟩ := countR_ok hr
    obtain ⟨n, rfl⟩ : ∃ n : Nat, v = n := ⟨v.toNat, by omega⟩
    rw [Int.toNat_natCast]
    have HN := Lib.hid hN
    have hmk := make_u32 n (by omega)
    have hp := h.lt
    obtain ⟨R, hR⟩ : ∃ R, R = idxK l n k1 [] := ⟨_, rfl⟩
    rw [← hR]
    have HR := Lib.hid hR
    clear hN hr h hR
    go_enter Tryd.func55, Tryd.ntmps55
    go_wp2_with (go_at_call 81; go_must ((with_reducible refine HN.out.mono ?_); rintro e w1 ⟨rfl, hs, hg⟩; have HS := Lib.hid hs; have HG := Lib.hid hg; have hz := hg.size; clear hs hg))
    clear hmk
    go_loopw [10] (fun i wr => ∃ (j q : Nat) (acc : List Int), i = .int .i64 j ∧ acc.length = j ∧ idxK l (n - j) q acc = R ∧ Sc wr p l q ∧ Part32 wr w1.heap.size n acc ∧ w.grownBy wr (some p)) (fun i _ => n - (intOf i).toNat)
    case atStart => exact ⟨0, k1, [], rfl, rfl, HR.out.symm, HS.out.alloc _, Part32.start _ _, gb_alloc HG.out _⟩
    case round =>
      obtain ⟨j, q, acc, rfl, hj, hv, hs, hpt, hg⟩ := hrel
      have hle : acc.length ≤ n := hpt.2
      by_cases hlt : j < n
      · rw [idxK_more hlt] at hv
        have hV := index_scan hs
        cases hc : indexR l q with
        | ok c q2 =>
          rw [hc] at hV hv
          rw [Res.bind_ok] at hv
          have HV := Lib.hid hV
          have HVV := Lib.hid hv
          have HS2 := Lib.hid hs
          have HP2 := Lib.hid hpt
          have HG2 := Lib.hid hg
          have HJ := Lib.hid hj
          clear hV hv hc hs hpt hg hj
          go_wp2_with (go_at_call 82; go_must ((with_reducible refine HV.out.mono ?_); rintro e w2 ⟨rfl, hs, hg⟩; have HP3 := Lib.hid (show Part32 w2 w1.heap.size n acc from ⟨HP2.out.1.grown hg (by simp only [ne_eq, Option.some.injEq]; omega), HP2.out.2⟩); obtain ⟨u, hu⟩ := HP3.out.cell (by have := HJ.out; omega); rw [HJ.out] at hu; have hf := HP3.out.1.frozen j; have HS3 := Lib.hid hs; have HG3 := Lib.hid hg; clear hs hg))
          have HE : Hid (Part32 (w2.setCell ⟨w1.heap.size, j, none⟩ (.int .u32 c)) w1.heap.size n (acc ++ [c])) := by
            have := HP3.out.put c (by have := HJ.out; omega)
            rw [HJ.out] at this
            exact this
          go_roundw
          case rel => exact ⟨j + 1, q2, acc ++ [c], by go_num, by have := HJ.out; simp; omega, HVV.out, HS3.out.grown (gb_put (p := ⟨w1.heap.size, j, none⟩) (gb_refl w2 _) (.inl rfl) _) (by simp only [ne_eq, Option.some.injEq]; omega) (fun g e => by injection e with e; have e2 : w1.heap.size = g := e; omega), HE.out, gb_put (p := ⟨w1.heap.size, j, none⟩) (gb_trans HG2.out HG3.out) (.inr hz) _⟩
          case measure => simp [intOf]; omega
        | err c a =>
          rw [hc] at hV hv
          rw [Res.bind_err] at hv
          have HV := Lib.hid hV
          subst hv
          have HG2 := Lib.hid hg
          clear hV hc hs hpt hg hj
          go_wp2_with (go_at_call 82; go_must ((with_reducible refine HV.out.mono ?_); rintro e w2 ⟨rfl, hg⟩; have HG3 := Lib.hid hg; clear hg))
          exact ⟨rfl, rfl, gb_trans HG2.out HG3.out⟩
      · obtain rfl : j = n := by omega
        rw [Nat.sub_self] at hv
        subst hv
        have HS2 := Lib.hid hs
        have HP2 := Lib.hid hpt
        have HG2 := Lib.hid hg
        have HJ := Lib.hid hj
        clear hs hg hpt hj HR
        go_wp2
        go_ret
        refine ⟨w1.heap.size, ?_, hz, HP2.out.lies HJ.out, HS2.out, HG2.out, HP2.out.whole HJ.out⟩
        rw [HJ.out]
        rfl
end Go.Proofs.YtjjhgmmkapeifaaDoor
