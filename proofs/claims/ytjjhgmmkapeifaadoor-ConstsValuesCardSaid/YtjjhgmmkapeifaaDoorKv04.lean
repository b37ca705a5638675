/- The reference's Right. (By gen/genRefRight.py.) -/
import Derived.Test.YtjjhgmmkapeifaaDoorKv03
import Derived.Laws.MathBits
import Derived.Laws.BitsAll
import Derived.Laws.BitsLemmas
import Derived.Test.YtjjhgmmkapeifaaDoorKv01
import Derived.Test.YtjjhgmmkapeifaaDoorShelf
import Derived.Deep.DeepMust
namespace Go.Proofs.YtjjhgmmkapeifaaDoor
open Go.RowKit
set_option linter.unusedVariables false
set_option maxRecDepth 100000

theorem nums_low {m : Nat} {a b : Int} (hm : m ≠ 1 ∧ m ≠ 0 ∧ m ≠ 9) (h : (a ≤ 4294967295 ∧ b ≤ 4294967295) ∨ m = 11) : numsZ m a b = 0 := by
  unfold numsZ
  rw [if_neg hm.1, if_neg (by omega)]
  by_cases m11 : m = 11
  · rw [if_pos m11]
  · rw [if_neg m11, if_pos (by omega)]
theorem nums_high {m : Nat} {a b : Int} (hm : m ≠ 1 ∧ m ≠ 0 ∧ m ≠ 9 ∧ m ≠ 11) (h : ¬ (a ≤ 4294967295 ∧ b ≤ 4294967295)) : numsZ m a b = 1 := by
  unfold numsZ
  rw [if_neg hm.1, if_neg (by omega), if_neg (by omega), if_neg h]
theorem block_same {a : Int} (h : a ≠ 64) (h2 : a ≤ 256) : blockZ a = valueZ a := by
  unfold blockZ
  rw [if_neg h]
  by_cases h3 : 255 < a
  · obtain rfl : a = 256 := by omega
    rfl
  · rw [if_neg h3]
theorem refR_end {w W : World} {i : I} {A : Option Addr} {c : Nat} (h : BoxI w W i A c) {o : Obj} : Below w.heap.size w (W.alloc o) := h.2.alloc h.2.size _
set_option maxHeartbeats 1000000 in
theorem refRight_any (i : I) (A : Option Addr) (c : Nat) (w : World) (h : i.Ok) (hl : (i.l.length : Int) ≤ 9223372036854775807) :
    Calls Tryd.prog 25 #[insV i A c] w (IntPost (rightZ i) w) := by
  have hn := i.n_le
  obtain ⟨a0, a1, b0, b1, _⟩ := h
  have hwb : IntKind.i64.wrap (i.op.toNat : Int) = i.op.toNat := by rw [IntKind.wrap_i64]; have := i.op.toNat_lt; omega
  have HB := Lib.hid (BoxI.start w i A c)
  obtain ⟨k, hk⟩ : ∃ k, k = checkR i.n := ⟨_, rfl⟩
  have HC : Hid (∀ W, Calls Tryd.prog 40 #[.int .i64 i.op.toNat] W fun e w' => e = .returned (.int .i64 (k : Nat)) ∧ Below W.heap.size W w') := fun W => by rw [hk, check_same hn]; exact refCheck_any i.n W hn
  by_cases k0 : k = 0
  · subst k0
    obtain ⟨m, hm⟩ : ∃ m, m = immR i.n := ⟨_, rfl⟩
    obtain ⟨r, hr⟩ : ∃ r, r = refR i.n := ⟨_, rfl⟩
    have him : (r.getD row0).imm = m := by rw [hr, hm]; exact (imm_same hn hk.symm).2
    have HI : Hid (∀ W, Calls Tryd.prog 41 #[.int .i64 i.op.toNat] W (RefPost r W)) := fun W => by rw [hr]; exact ref_any i.n W hn
    have HR := Lib.hid (show rightZ i = if 0 < i.l.length ∧ m ≠ 3 then 1 else if 10000 < i.l.length then 29 else if i.b ≠ 0 ∧ m ≠ 8 then 1 else numsZ m i.a i.b by unfold rightZ; rw [← hk, ← hm]; rfl)
    generalize (r.getD row0).op = r1 at *
    clear hr hm hk
    by_cases hl0 : 0 < i.l.length
    · have dl : decide (0 < (i.l.length : Int)) = true := decide_eq_true (by omega)
      by_cases m3 : m = 3
      · subst m3
        by_cases hl1 : 10000 < i.l.length
        · have dl1 : decide (10000 < (i.l.length : Int)) = true := decide_eq_true (by omega)
          have HE := Lib.hid (show rightZ i = 29 by rw [HR.out]; rw [if_neg (by omega), if_pos hl1])
          go_enter Tryd.func25, Tryd.ntmps25
          go_wp2_with (first
            | (go_at_call 40; go_must ((with_reducible refine (HC.out _).mono ?_); rintro e w1 ⟨rfl, hb⟩; have HB1 := Lib.hid (HB.out.on hb); have c1 := HB1.out.c0; clear hb))
            | (go_at_call 41; go_must ((with_reducible refine (HI.out _).mono ?_); rintro e w2 ⟨rfl, hb⟩; have HB2 := Lib.hid (HB1.out.on hb); have hlt := HB2.out.lt; have c2 := HB2.out.c1; have c3 := HB2.out.c2; have c4 := HB2.out.c3; clear hb))
            | (go_at_call 42; go_must ((with_reducible refine (refValue_any _ _).mono ?_); rintro e w' ⟨rfl, rfl⟩)))
          go_ret
          exact ret_below HE.out.symm (refR_end HB2.out)
        · have dl1 : decide (10000 < (i.l.length : Int)) = false := decide_eq_false (by omega)
          by_cases hb0 : i.b = 0
          · have db : (i.b != 0) = false := by simp [hb0]
            by_cases ha : i.a ≤ 4294967295
            · have da : decide (i.a < 4294967296) = true := decide_eq_true (by omega)
              have dbb : decide (i.b < 4294967296) = true := decide_eq_true (by omega)
              have HE := Lib.hid (show rightZ i = 0 by rw [HR.out]; rw [if_neg (by omega), if_neg hl1, if_neg (by omega)]; exact nums_low (by omega) (.inl ⟨ha, by omega⟩))
              clear hb0
              go_enter Tryd.func25, Tryd.ntmps25
              go_wp2_with (first
                | (go_at_call 40; go_must ((with_reducible refine (HC.out _).mono ?_); rintro e w1 ⟨rfl, hb⟩; have HB1 := Lib.hid (HB.out.on hb); have c1 := HB1.out.c0; clear hb))
                | (go_at_call 41; go_must ((with_reducible refine (HI.out _).mono ?_); rintro e w2 ⟨rfl, hb⟩; have HB2 := Lib.hid (HB1.out.on hb); have hlt := HB2.out.lt; have c2 := HB2.out.c1; have c3 := HB2.out.c2; have c4 := HB2.out.c3; clear hb))
                | (go_at_call 42; go_must ((with_reducible refine (refValue_any _ _).mono ?_); rintro e w' ⟨rfl, rfl⟩)))
              go_ret
              exact ret_below HE.out.symm (refR_end HB2.out)
            · have da : decide (i.a < 4294967296) = false := decide_eq_false (by omega)
              have HE := Lib.hid (show rightZ i = 1 by rw [HR.out]; rw [if_neg (by omega), if_neg hl1, if_neg (by omega)]; exact nums_high (by omega) (by omega))
              clear hb0
              go_enter Tryd.func25, Tryd.ntmps25
              go_wp2_with (first
                | (go_at_call 40; go_must ((with_reducible refine (HC.out _).mono ?_); rintro e w1 ⟨rfl, hb⟩; have HB1 := Lib.hid (HB.out.on hb); have c1 := HB1.out.c0; clear hb))
                | (go_at_call 41; go_must ((with_reducible refine (HI.out _).mono ?_); rintro e w2 ⟨rfl, hb⟩; have HB2 := Lib.hid (HB1.out.on hb); have hlt := HB2.out.lt; have c2 := HB2.out.c1; have c3 := HB2.out.c2; have c4 := HB2.out.c3; clear hb))
                | (go_at_call 42; go_must ((with_reducible refine (refValue_any _ _).mono ?_); rintro e w' ⟨rfl, rfl⟩)))
              go_ret
              exact ret_below HE.out.symm (refR_end HB2.out)
          · have db : (i.b != 0) = true := by simpa using hb0
            have d8 : ((3 : Int) != 8) = true := by decide
            have HE := Lib.hid (show rightZ i = 1 by rw [HR.out]; rw [if_neg (by omega), if_neg hl1, if_pos (by omega)])
            go_enter Tryd.func25, Tryd.ntmps25
            go_wp2_with (first
              | (go_at_call 40; go_must ((with_reducible refine (HC.out _).mono ?_); rintro e w1 ⟨rfl, hb⟩; have HB1 := Lib.hid (HB.out.on hb); have c1 := HB1.out.c0; clear hb))
              | (go_at_call 41; go_must ((with_reducible refine (HI.out _).mono ?_); rintro e w2 ⟨rfl, hb⟩; have HB2 := Lib.hid (HB1.out.on hb); have hlt := HB2.out.lt; have c2 := HB2.out.c1; have c3 := HB2.out.c2; have c4 := HB2.out.c3; clear hb))
              | (go_at_call 42; go_must ((with_reducible refine (refValue_any _ _).mono ?_); rintro e w' ⟨rfl, rfl⟩)))
            go_ret
            exact ret_below HE.out.symm (refR_end HB2.out)
      · have d3 : ((m : Int) != 3) = true := by simp; omega
        have HE := Lib.hid (show rightZ i = 1 by rw [HR.out]; rw [if_pos ⟨hl0, m3⟩])
        go_enter Tryd.func25, Tryd.ntmps25
        go_wp2_with (first
          | (go_at_call 40; go_must ((with_reducible refine (HC.out _).mono ?_); rintro e w1 ⟨rfl, hb⟩; have HB1 := Lib.hid (HB.out.on hb); have c1 := HB1.out.c0; clear hb))
          | (go_at_call 41; go_must ((with_reducible refine (HI.out _).mono ?_); rintro e w2 ⟨rfl, hb⟩; have HB2 := Lib.hid (HB1.out.on hb); have hlt := HB2.out.lt; have c2 := HB2.out.c1; have c3 := HB2.out.c2; have c4 := HB2.out.c3; clear hb))
          | (go_at_call 42; go_must ((with_reducible refine (refValue_any _ _).mono ?_); rintro e w' ⟨rfl, rfl⟩)))
        go_ret
        exact ret_below HE.out.symm (refR_end HB2.out)
    · have dl : decide (0 < (i.l.length : Int)) = false := decide_eq_false (by omega)
      have dl1 : decide (10000 < (i.l.length : Int)) = false := decide_eq_false (by omega)
      by_cases hb0 : i.b = 0
      · have db : (i.b != 0) = false := by simp [hb0]
        have dbb : decide (i.b < 4294967296) = true := decide_eq_true (by omega)
        by_cases m0 : m = 0 ∨ m = 9
        · rcases m0 with m0 | m0
          · subst m0
            by_cases hz : i.a = 0
            · have dz : (i.a == 0) = true := by simpa using hz
              have da : decide (i.a < 4294967296) = true := decide_eq_true (by omega)
              have HE := Lib.hid (show rightZ i = 0 by rw [HR.out]; rw [if_neg (by omega), if_neg (by omega), if_neg (by omega)]; unfold numsZ; rw [if_neg (by omega), if_pos (by omega), if_pos hz])
              clear hz hb0
              go_enter Tryd.func25, Tryd.ntmps25
              go_wp2_with (first
                | (go_at_call 40; go_must ((with_reducible refine (HC.out _).mono ?_); rintro e w1 ⟨rfl, hb⟩; have HB1 := Lib.hid (HB.out.on hb); have c1 := HB1.out.c0; clear hb))
                | (go_at_call 41; go_must ((with_reducible refine (HI.out _).mono ?_); rintro e w2 ⟨rfl, hb⟩; have HB2 := Lib.hid (HB1.out.on hb); have hlt := HB2.out.lt; have c2 := HB2.out.c1; have c3 := HB2.out.c2; have c4 := HB2.out.c3; clear hb))
                | (go_at_call 42; go_must ((with_reducible refine (refValue_any _ _).mono ?_); rintro e w' ⟨rfl, rfl⟩)))
              go_ret
              exact ret_below HE.out.symm (refR_end HB2.out)
            · have dz : (i.a == 0) = false := by simpa using hz
              rcases Int.lt_or_le i.a 4294967296 with ha | ha
              · have da : decide (i.a < 4294967296) = true := decide_eq_true (by omega)
                have HE := Lib.hid (show rightZ i = 1 by rw [HR.out]; rw [if_neg (by omega), if_neg (by omega), if_neg (by omega)]; unfold numsZ; rw [if_neg (by omega), if_pos (by omega), if_neg hz])
                clear hb0
                go_enter Tryd.func25, Tryd.ntmps25
                go_wp2_with (first
                  | (go_at_call 40; go_must ((with_reducible refine (HC.out _).mono ?_); rintro e w1 ⟨rfl, hb⟩; have HB1 := Lib.hid (HB.out.on hb); have c1 := HB1.out.c0; clear hb))
                  | (go_at_call 41; go_must ((with_reducible refine (HI.out _).mono ?_); rintro e w2 ⟨rfl, hb⟩; have HB2 := Lib.hid (HB1.out.on hb); have hlt := HB2.out.lt; have c2 := HB2.out.c1; have c3 := HB2.out.c2; have c4 := HB2.out.c3; clear hb))
                  | (go_at_call 42; go_must ((with_reducible refine (refValue_any _ _).mono ?_); rintro e w' ⟨rfl, rfl⟩)))
                go_ret
                exact ret_below HE.out.symm (refR_end HB2.out)
              · have da : decide (i.a < 4294967296) = false := decide_eq_false (by omega)
                have HE := Lib.hid (show rightZ i = 1 by rw [HR.out]; rw [if_neg (by omega), if_neg (by omega), if_neg (by omega)]; unfold numsZ; rw [if_neg (by omega), if_pos (by omega), if_neg hz])
                clear hb0
                go_enter Tryd.func25, Tryd.ntmps25
                go_wp2_with (first
                  | (go_at_call 40; go_must ((with_reducible refine (HC.out _).mono ?_); rintro e w1 ⟨rfl, hb⟩; have HB1 := Lib.hid (HB.out.on hb); have c1 := HB1.out.c0; clear hb))
                  | (go_at_call 41; go_must ((with_reducible refine (HI.out _).mono ?_); rintro e w2 ⟨rfl, hb⟩; have HB2 := Lib.hid (HB1.out.on hb); have hlt := HB2.out.lt; have c2 := HB2.out.c1; have c3 := HB2.out.c2; have c4 := HB2.out.c3; clear hb))
                  | (go_at_call 42; go_must ((with_reducible refine (refValue_any _ _).mono ?_); rintro e w' ⟨rfl, rfl⟩)))
                go_ret
                exact ret_below HE.out.symm (refR_end HB2.out)
          · subst m0
            by_cases hz : i.a = 0
            · have dz : (i.a == 0) = true := by simpa using hz
              have da : decide (i.a < 4294967296) = true := decide_eq_true (by omega)
              have HE := Lib.hid (show rightZ i = 0 by rw [HR.out]; rw [if_neg (by omega), if_neg (by omega), if_neg (by omega)]; unfold numsZ; rw [if_neg (by omega), if_pos (by omega), if_pos hz])
              clear hz hb0
              go_enter Tryd.func25, Tryd.ntmps25
              go_wp2_with (first
                | (go_at_call 40; go_must ((with_reducible refine (HC.out _).mono ?_); rintro e w1 ⟨rfl, hb⟩; have HB1 := Lib.hid (HB.out.on hb); have c1 := HB1.out.c0; clear hb))
                | (go_at_call 41; go_must ((with_reducible refine (HI.out _).mono ?_); rintro e w2 ⟨rfl, hb⟩; have HB2 := Lib.hid (HB1.out.on hb); have hlt := HB2.out.lt; have c2 := HB2.out.c1; have c3 := HB2.out.c2; have c4 := HB2.out.c3; clear hb))
                | (go_at_call 42; go_must ((with_reducible refine (refValue_any _ _).mono ?_); rintro e w' ⟨rfl, rfl⟩)))
              go_ret
              exact ret_below HE.out.symm (refR_end HB2.out)
            · have dz : (i.a == 0) = false := by simpa using hz
              rcases Int.lt_or_le i.a 4294967296 with ha | ha
              · have da : decide (i.a < 4294967296) = true := decide_eq_true (by omega)
                have HE := Lib.hid (show rightZ i = 1 by rw [HR.out]; rw [if_neg (by omega), if_neg (by omega), if_neg (by omega)]; unfold numsZ; rw [if_neg (by omega), if_pos (by omega), if_neg hz])
                clear hb0
                go_enter Tryd.func25, Tryd.ntmps25
                go_wp2_with (first
                  | (go_at_call 40; go_must ((with_reducible refine (HC.out _).mono ?_); rintro e w1 ⟨rfl, hb⟩; have HB1 := Lib.hid (HB.out.on hb); have c1 := HB1.out.c0; clear hb))
                  | (go_at_call 41; go_must ((with_reducible refine (HI.out _).mono ?_); rintro e w2 ⟨rfl, hb⟩; have HB2 := Lib.hid (HB1.out.on hb); have hlt := HB2.out.lt; have c2 := HB2.out.c1; have c3 := HB2.out.c2; have c4 := HB2.out.c3; clear hb))
                  | (go_at_call 42; go_must ((with_reducible refine (refValue_any _ _).mono ?_); rintro e w' ⟨rfl, rfl⟩)))
                go_ret
                exact ret_below HE.out.symm (refR_end HB2.out)
              · have da : decide (i.a < 4294967296) = false := decide_eq_false (by omega)
                have HE := Lib.hid (show rightZ i = 1 by rw [HR.out]; rw [if_neg (by omega), if_neg (by omega), if_neg (by omega)]; unfold numsZ; rw [if_neg (by omega), if_pos (by omega), if_neg hz])
                clear hb0
                go_enter Tryd.func25, Tryd.ntmps25
                go_wp2_with (first
                  | (go_at_call 40; go_must ((with_reducible refine (HC.out _).mono ?_); rintro e w1 ⟨rfl, hb⟩; have HB1 := Lib.hid (HB.out.on hb); have c1 := HB1.out.c0; clear hb))
                  | (go_at_call 41; go_must ((with_reducible refine (HI.out _).mono ?_); rintro e w2 ⟨rfl, hb⟩; have HB2 := Lib.hid (HB1.out.on hb); have hlt := HB2.out.lt; have c2 := HB2.out.c1; have c3 := HB2.out.c2; have c4 := HB2.out.c3; clear hb))
                  | (go_at_call 42; go_must ((with_reducible refine (refValue_any _ _).mono ?_); rintro e w' ⟨rfl, rfl⟩)))
                go_ret
                exact ret_below HE.out.symm (refR_end HB2.out)
        · have d0 : ((m : Int) == 0) = false := by simp; omega
          have d9 : ((m : Int) == 9) = false := by simp; omega
          by_cases m1 : m = 1
          · subst m1
            by_cases h64 : i.a = 64
            · have dz : (i.a == 64) = true := by simpa using h64
              have da : decide (i.a < 4294967296) = true := decide_eq_true (by omega)
              have HE := Lib.hid (show rightZ i = 0 by rw [HR.out]; rw [if_neg (by omega), if_neg (by omega), if_neg (by omega)]; unfold numsZ blockZ; rw [if_pos rfl, if_pos h64])
              clear h64 hb0
              go_enter Tryd.func25, Tryd.ntmps25
              go_wp2_with (first
                | (go_at_call 40; go_must ((with_reducible refine (HC.out _).mono ?_); rintro e w1 ⟨rfl, hb⟩; have HB1 := Lib.hid (HB.out.on hb); have c1 := HB1.out.c0; clear hb))
                | (go_at_call 41; go_must ((with_reducible refine (HI.out _).mono ?_); rintro e w2 ⟨rfl, hb⟩; have HB2 := Lib.hid (HB1.out.on hb); have hlt := HB2.out.lt; have c2 := HB2.out.c1; have c3 := HB2.out.c2; have c4 := HB2.out.c3; clear hb))
                | (go_at_call 42; go_must ((with_reducible refine (refValue_any _ _).mono ?_); rintro e w' ⟨rfl, rfl⟩)))
              go_ret
              exact ret_below HE.out.symm (refR_end HB2.out)
            · have dz : (i.a == 64) = false := by simpa using h64
              by_cases h256 : i.a ≤ 256
              · have da : decide (i.a < 4294967296) = true := decide_eq_true (by omega)
                have hmin : min i.a 256 = i.a := by omega
                have hw : IntKind.i64.wrap i.a = i.a := by rw [IntKind.wrap_i64]; omega
                have HE := Lib.hid (show rightZ i = valueZ i.a by rw [HR.out]; rw [if_neg (by omega), if_neg (by omega), if_neg (by omega)]; unfold numsZ; rw [if_pos rfl]; exact block_same h64 h256)
                clear hb0
                go_enter Tryd.func25, Tryd.ntmps25
                go_wp2_with (first
                  | (go_at_call 40; go_must ((with_reducible refine (HC.out _).mono ?_); rintro e w1 ⟨rfl, hb⟩; have HB1 := Lib.hid (HB.out.on hb); have c1 := HB1.out.c0; clear hb))
                  | (go_at_call 41; go_must ((with_reducible refine (HI.out _).mono ?_); rintro e w2 ⟨rfl, hb⟩; have HB2 := Lib.hid (HB1.out.on hb); have hlt := HB2.out.lt; have c2 := HB2.out.c1; have c3 := HB2.out.c2; have c4 := HB2.out.c3; clear hb))
                  | (go_at_call 42; go_must ((with_reducible refine (refValue_any _ _).mono ?_); rintro e w' ⟨rfl, rfl⟩)))
                go_ret
                exact ret_below HE.out.symm (refR_end HB2.out)
              · have hmin : min i.a 256 = 256 := by omega
                have hv : valueZ 256 = 7 := rfl
                rcases Int.lt_or_le i.a 4294967296 with ha | ha
                · have da : decide (i.a < 4294967296) = true := decide_eq_true (by omega)
                  have HE := Lib.hid (show rightZ i = 7 by rw [HR.out]; rw [if_neg (by omega), if_neg (by omega), if_neg (by omega)]; unfold numsZ blockZ; rw [if_pos rfl, if_neg h64, if_pos (by omega)])
                  clear hb0
                  go_enter Tryd.func25, Tryd.ntmps25
                  go_wp2_with (first
                    | (go_at_call 40; go_must ((with_reducible refine (HC.out _).mono ?_); rintro e w1 ⟨rfl, hb⟩; have HB1 := Lib.hid (HB.out.on hb); have c1 := HB1.out.c0; clear hb))
                    | (go_at_call 41; go_must ((with_reducible refine (HI.out _).mono ?_); rintro e w2 ⟨rfl, hb⟩; have HB2 := Lib.hid (HB1.out.on hb); have hlt := HB2.out.lt; have c2 := HB2.out.c1; have c3 := HB2.out.c2; have c4 := HB2.out.c3; clear hb))
                    | (go_at_call 42; go_must ((with_reducible refine (refValue_any _ _).mono ?_); rintro e w' ⟨rfl, rfl⟩)))
                  go_ret
                  exact ret_below HE.out.symm (refR_end HB2.out)
                · have da : decide (i.a < 4294967296) = false := decide_eq_false (by omega)
                  have HE := Lib.hid (show rightZ i = 7 by rw [HR.out]; rw [if_neg (by omega), if_neg (by omega), if_neg (by omega)]; unfold numsZ blockZ; rw [if_pos rfl, if_neg h64, if_pos (by omega)])
                  clear hb0
                  go_enter Tryd.func25, Tryd.ntmps25
                  go_wp2_with (first
                    | (go_at_call 40; go_must ((with_reducible refine (HC.out _).mono ?_); rintro e w1 ⟨rfl, hb⟩; have HB1 := Lib.hid (HB.out.on hb); have c1 := HB1.out.c0; clear hb))
                    | (go_at_call 41; go_must ((with_reducible refine (HI.out _).mono ?_); rintro e w2 ⟨rfl, hb⟩; have HB2 := Lib.hid (HB1.out.on hb); have hlt := HB2.out.lt; have c2 := HB2.out.c1; have c3 := HB2.out.c2; have c4 := HB2.out.c3; clear hb))
                    | (go_at_call 42; go_must ((with_reducible refine (refValue_any _ _).mono ?_); rintro e w' ⟨rfl, rfl⟩)))
                  go_ret
                  exact ret_below HE.out.symm (refR_end HB2.out)
          · have d1 : ((m : Int) == 1) = false := by simp; omega
            by_cases m11 : m = 11
            · subst m11
              rcases Int.lt_or_le i.a 4294967296 with ha | ha
              · have da : decide (i.a < 4294967296) = true := decide_eq_true (by omega)
                have HE := Lib.hid (show rightZ i = 0 by rw [HR.out]; rw [if_neg (by omega), if_neg (by omega), if_neg (by omega)]; unfold numsZ; rw [if_neg (by omega), if_neg (by omega), if_pos rfl])
                clear hb0
                go_enter Tryd.func25, Tryd.ntmps25
                go_wp2_with (first
                  | (go_at_call 40; go_must ((with_reducible refine (HC.out _).mono ?_); rintro e w1 ⟨rfl, hb⟩; have HB1 := Lib.hid (HB.out.on hb); have c1 := HB1.out.c0; clear hb))
                  | (go_at_call 41; go_must ((with_reducible refine (HI.out _).mono ?_); rintro e w2 ⟨rfl, hb⟩; have HB2 := Lib.hid (HB1.out.on hb); have hlt := HB2.out.lt; have c2 := HB2.out.c1; have c3 := HB2.out.c2; have c4 := HB2.out.c3; clear hb))
                  | (go_at_call 42; go_must ((with_reducible refine (refValue_any _ _).mono ?_); rintro e w' ⟨rfl, rfl⟩)))
                go_ret
                exact ret_below HE.out.symm (refR_end HB2.out)
              · have da : decide (i.a < 4294967296) = false := decide_eq_false (by omega)
                have HE := Lib.hid (show rightZ i = 0 by rw [HR.out]; rw [if_neg (by omega), if_neg (by omega), if_neg (by omega)]; unfold numsZ; rw [if_neg (by omega), if_neg (by omega), if_pos rfl])
                clear hb0
                go_enter Tryd.func25, Tryd.ntmps25
                go_wp2_with (first
                  | (go_at_call 40; go_must ((with_reducible refine (HC.out _).mono ?_); rintro e w1 ⟨rfl, hb⟩; have HB1 := Lib.hid (HB.out.on hb); have c1 := HB1.out.c0; clear hb))
                  | (go_at_call 41; go_must ((with_reducible refine (HI.out _).mono ?_); rintro e w2 ⟨rfl, hb⟩; have HB2 := Lib.hid (HB1.out.on hb); have hlt := HB2.out.lt; have c2 := HB2.out.c1; have c3 := HB2.out.c2; have c4 := HB2.out.c3; clear hb))
                  | (go_at_call 42; go_must ((with_reducible refine (refValue_any _ _).mono ?_); rintro e w' ⟨rfl, rfl⟩)))
                go_ret
                exact ret_below HE.out.symm (refR_end HB2.out)
            · have d11 : ((m : Int) == 11) = false := by simp; omega
              by_cases ha : i.a ≤ 4294967295
              · have da : decide (i.a < 4294967296) = true := decide_eq_true (by omega)
                have dbb : decide (i.b < 4294967296) = true := decide_eq_true (by omega)
                have HE := Lib.hid (show rightZ i = 0 by rw [HR.out]; rw [if_neg (by omega), if_neg (by omega), if_neg (by omega)]; exact nums_low (by omega) (.inl ⟨ha, by omega⟩))
                clear hb0
                go_enter Tryd.func25, Tryd.ntmps25
                go_wp2_with (first
                  | (go_at_call 40; go_must ((with_reducible refine (HC.out _).mono ?_); rintro e w1 ⟨rfl, hb⟩; have HB1 := Lib.hid (HB.out.on hb); have c1 := HB1.out.c0; clear hb))
                  | (go_at_call 41; go_must ((with_reducible refine (HI.out _).mono ?_); rintro e w2 ⟨rfl, hb⟩; have HB2 := Lib.hid (HB1.out.on hb); have hlt := HB2.out.lt; have c2 := HB2.out.c1; have c3 := HB2.out.c2; have c4 := HB2.out.c3; clear hb))
                  | (go_at_call 42; go_must ((with_reducible refine (refValue_any _ _).mono ?_); rintro e w' ⟨rfl, rfl⟩)))
                go_ret
                exact ret_below HE.out.symm (refR_end HB2.out)
              · have da : decide (i.a < 4294967296) = false := decide_eq_false (by omega)
                have HE := Lib.hid (show rightZ i = 1 by rw [HR.out]; rw [if_neg (by omega), if_neg (by omega), if_neg (by omega)]; exact nums_high (by omega) (by omega))
                clear hb0
                go_enter Tryd.func25, Tryd.ntmps25
                go_wp2_with (first
                  | (go_at_call 40; go_must ((with_reducible refine (HC.out _).mono ?_); rintro e w1 ⟨rfl, hb⟩; have HB1 := Lib.hid (HB.out.on hb); have c1 := HB1.out.c0; clear hb))
                  | (go_at_call 41; go_must ((with_reducible refine (HI.out _).mono ?_); rintro e w2 ⟨rfl, hb⟩; have HB2 := Lib.hid (HB1.out.on hb); have hlt := HB2.out.lt; have c2 := HB2.out.c1; have c3 := HB2.out.c2; have c4 := HB2.out.c3; clear hb))
                  | (go_at_call 42; go_must ((with_reducible refine (refValue_any _ _).mono ?_); rintro e w' ⟨rfl, rfl⟩)))
                go_ret
                exact ret_below HE.out.symm (refR_end HB2.out)
      · have db : (i.b != 0) = true := by simpa using hb0
        by_cases m8 : m = 8
        · subst m8
          by_cases ha : i.a ≤ 4294967295
          · have da : decide (i.a < 4294967296) = true := decide_eq_true (by omega)
            by_cases hbb : i.b ≤ 4294967295
            · have dbb : decide (i.b < 4294967296) = true := decide_eq_true (by omega)
              have HE := Lib.hid (show rightZ i = 0 by rw [HR.out]; rw [if_neg (by omega), if_neg (by omega), if_neg (by omega)]; exact nums_low (by omega) (.inl ⟨ha, hbb⟩))
              go_enter Tryd.func25, Tryd.ntmps25
              go_wp2_with (first
                | (go_at_call 40; go_must ((with_reducible refine (HC.out _).mono ?_); rintro e w1 ⟨rfl, hb⟩; have HB1 := Lib.hid (HB.out.on hb); have c1 := HB1.out.c0; clear hb))
                | (go_at_call 41; go_must ((with_reducible refine (HI.out _).mono ?_); rintro e w2 ⟨rfl, hb⟩; have HB2 := Lib.hid (HB1.out.on hb); have hlt := HB2.out.lt; have c2 := HB2.out.c1; have c3 := HB2.out.c2; have c4 := HB2.out.c3; clear hb))
                | (go_at_call 42; go_must ((with_reducible refine (refValue_any _ _).mono ?_); rintro e w' ⟨rfl, rfl⟩)))
              go_ret
              exact ret_below HE.out.symm (refR_end HB2.out)
            · have dbb : decide (i.b < 4294967296) = false := decide_eq_false (by omega)
              have HE := Lib.hid (show rightZ i = 1 by rw [HR.out]; rw [if_neg (by omega), if_neg (by omega), if_neg (by omega)]; exact nums_high (by omega) (by omega))
              go_enter Tryd.func25, Tryd.ntmps25
              go_wp2_with (first
                | (go_at_call 40; go_must ((with_reducible refine (HC.out _).mono ?_); rintro e w1 ⟨rfl, hb⟩; have HB1 := Lib.hid (HB.out.on hb); have c1 := HB1.out.c0; clear hb))
                | (go_at_call 41; go_must ((with_reducible refine (HI.out _).mono ?_); rintro e w2 ⟨rfl, hb⟩; have HB2 := Lib.hid (HB1.out.on hb); have hlt := HB2.out.lt; have c2 := HB2.out.c1; have c3 := HB2.out.c2; have c4 := HB2.out.c3; clear hb))
                | (go_at_call 42; go_must ((with_reducible refine (refValue_any _ _).mono ?_); rintro e w' ⟨rfl, rfl⟩)))
              go_ret
              exact ret_below HE.out.symm (refR_end HB2.out)
          · have da : decide (i.a < 4294967296) = false := decide_eq_false (by omega)
            have HE := Lib.hid (show rightZ i = 1 by rw [HR.out]; rw [if_neg (by omega), if_neg (by omega), if_neg (by omega)]; exact nums_high (by omega) (by omega))
            go_enter Tryd.func25, Tryd.ntmps25
            go_wp2_with (first
              | (go_at_call 40; go_must ((with_reducible refine (HC.out _).mono ?_); rintro e w1 ⟨rfl, hb⟩; have HB1 := Lib.hid (HB.out.on hb); have c1 := HB1.out.c0; clear hb))
              | (go_at_call 41; go_must ((with_reducible refine (HI.out _).mono ?_); rintro e w2 ⟨rfl, hb⟩; have HB2 := Lib.hid (HB1.out.on hb); have hlt := HB2.out.lt; have c2 := HB2.out.c1; have c3 := HB2.out.c2; have c4 := HB2.out.c3; clear hb))
              | (go_at_call 42; go_must ((with_reducible refine (refValue_any _ _).mono ?_); rintro e w' ⟨rfl, rfl⟩)))
            go_ret
            exact ret_below HE.out.symm (refR_end HB2.out)
        · have d8 : ((m : Int) != 8) = true := by simp; omega
          have HE := Lib.hid (show rightZ i = 1 by rw [HR.out]; rw [if_neg (by omega), if_neg (by omega), if_pos ⟨hb0, m8⟩])
          go_enter Tryd.func25, Tryd.ntmps25
          go_wp2_with (first
            | (go_at_call 40; go_must ((with_reducible refine (HC.out _).mono ?_); rintro e w1 ⟨rfl, hb⟩; have HB1 := Lib.hid (HB.out.on hb); have c1 := HB1.out.c0; clear hb))
            | (go_at_call 41; go_must ((with_reducible refine (HI.out _).mono ?_); rintro e w2 ⟨rfl, hb⟩; have HB2 := Lib.hid (HB1.out.on hb); have hlt := HB2.out.lt; have c2 := HB2.out.c1; have c3 := HB2.out.c2; have c4 := HB2.out.c3; clear hb))
            | (go_at_call 42; go_must ((with_reducible refine (refValue_any _ _).mono ?_); rintro e w' ⟨rfl, rfl⟩)))
          go_ret
          exact ret_below HE.out.symm (refR_end HB2.out)
  · have HE := Lib.hid (show rightZ i = k by unfold rightZ; rw [← hk, if_pos k0])
    have dk : ((k : Int) != 0) = true := by simp; omega
    clear hk
    go_enter Tryd.func25, Tryd.ntmps25
    go_wp2_with (go_at_call 40; go_must ((with_reducible refine (HC.out _).mono ?_); rintro e w1 ⟨rfl, hb⟩; have HB1 := Lib.hid (HB.out.on hb); clear hb))
    go_ret
    exact ret_below HE.out.symm HB1.out.2
end Go.Proofs.YtjjhgmmkapeifaaDoor

/- Plain mathematics: the groups of seven bits of a number, its bits, where a varint ends. Of no program. -/
namespace Go.Proofs.YtjjhgmmkapeifaaDoor
set_option linter.unusedVariables false

/-- Bit j of a number, of endless two's complement. -/
def bit (x : Int) (j : Nat) : Bool := x / 2 ^ j % 2 == 1

/-- The first n groups of seven bits, each but the last with 128. -/
def grp (x : Int) (n : Nat) : List Int := (List.range n).map fun i => x / 128 ^ i % 128 + if i + 1 < n then 128 else 0
/-- The first n groups, all of them with 128. -/
def grps (x : Int) (n : Nat) : List Int := (List.range n).map fun i => x / 128 ^ i % 128 + 128

theorem grp_length (x : Int) (n : Nat) : (grp x n).length = n := by simp [grp]
theorem grps_length (x : Int) (n : Nat) : (grps x n).length = n := by simp [grps]
theorem grps_snoc (x : Int) (n : Nat) : grps x (n + 1) = grps x n ++ [x / 128 ^ n % 128 + 128] := by simp [grps, List.range_succ]
theorem grp_snoc (x : Int) (n : Nat) : grp x (n + 1) = grps x n ++ [x / 128 ^ n % 128] := by
  unfold grp grps
  rw [List.range_succ, List.map_append]
  congr 1
  · apply List.map_congr_left
    intro i hi
    have := List.mem_range.1 hi
    rw [if_pos (by omega)]
  · simp
theorem grps_get (x : Int) (n i : Nat) (h : i < n) : (grps x n)[i]? = some (x / 128 ^ i % 128 + 128) := by simp [grps, h]

/-- The least number from 1 on at which F holds. -/
def Least (F : Nat → Prop) (n : Nat) : Prop := 1 ≤ n ∧ F n ∧ ∀ m, 1 ≤ m → m < n → ¬ F m
theorem Least.unique {F : Nat → Prop} {n m : Nat} (h : Least F n) (k : Least F m) : n = m := by
  rcases Nat.lt_trichotomy n m with g | g | g
  · exact absurd h.2.1 (k.2.2 n h.1 g)
  · exact g
  · exact absurd k.2.1 (h.2.2 m k.1 g)
theorem Least.le {F : Nat → Prop} {n m : Nat} (h : Least F n) (hm : 1 ≤ m) (hF : F m) : n ≤ m := by
  rcases Nat.lt_or_ge m n with g | g
  · exact absurd hF (h.2.2 m hm g)
  · exact g

/-- n groups are enough: without a sign, with one. -/
def fitU (x : Int) (n : Nat) : Prop := x / 128 ^ (n - 1) < 128
def fitS (x : Int) (n : Nat) : Prop := -64 ≤ x / 128 ^ (n - 1) ∧ x / 128 ^ (n - 1) < 64

theorem p2 (n : Nat) : (0 : Int) < 2 ^ n := Int.pow_pos (by omega)
theorem p128 (n : Nat) : (0 : Int) < 128 ^ n := Int.pow_pos (by omega)
theorem mono2 {a b : Nat} (h : a ≤ b) : (2 : Int) ^ a ≤ 2 ^ b := by
  have e : (2 : Int) ^ b = 2 ^ a * 2 ^ (b - a) := by rw [← Int.pow_add]; congr 1; omega
  have := Int.mul_le_mul_of_nonneg_left (show (1 : Int) ≤ 2 ^ (b - a) from p2 _) (Int.le_of_lt (p2 a))
  rw [e]; omega
theorem mono128 {a b : Nat} (h : a ≤ b) : (128 : Int) ^ a ≤ 128 ^ b := by
  have e : (128 : Int) ^ b = 128 ^ a * 128 ^ (b - a) := by rw [← Int.pow_add]; congr 1; omega
  have := Int.mul_le_mul_of_nonneg_left (show (1 : Int) ≤ 128 ^ (b - a) from p128 _) (Int.le_of_lt (p128 a))
  rw [e]; omega
theorem pow7 (n : Nat) : (2 : Int) ^ (7 * n) = 128 ^ n := by rw [Int.pow_mul]; rfl
theorem div_pow (x : Int) (a b : Nat) : x / 2 ^ a / 2 ^ b = x / 2 ^ (a + b) := by
  rw [Int.pow_add, Int.ediv_ediv_of_nonneg (Int.le_of_lt (p2 a))]
theorem div_pow128 (x : Int) (a b : Nat) : x / 128 ^ a / 128 ^ b = x / 128 ^ (a + b) := by
  rw [Int.pow_add, Int.ediv_ediv_of_nonneg (Int.le_of_lt (p128 a))]
theorem bit_div (x : Int) (a j : Nat) : bit (x / 2 ^ a) j = bit x (a + j) := by unfold bit; rw [div_pow]
theorem bit_zero (j : Nat) : bit 0 j = false := by simp [bit]
theorem neg_one_div (j : Nat) : (-1 : Int) / 2 ^ j = -1 := by
  have := p2 j
  rw [Int.ediv_eq_iff_of_pos this]
  constructor <;> omega
theorem bit_neg (j : Nat) : bit (-1) j = true := by unfold bit; rw [neg_one_div]; rfl

theorem fitU_ten (x : Int) (h : x < 18446744073709551616) : fitU x 10 := by
  show x / 9223372036854775808 < 128
  omega
theorem fitS_ten (x : Int) (h0 : -9223372036854775808 ≤ x) (h : x < 9223372036854775808) : fitS x 10 := by
  show -64 ≤ x / 9223372036854775808 ∧ x / 9223372036854775808 < 64
  omega

theorem two_bounds {m : Nat} {y : Int} (h1 : -2 ^ (m + 1) ≤ y) (h2 : y < 2 ^ (m + 1)) : -2 ^ m ≤ y / 2 ∧ y / 2 < 2 ^ m := by
  rw [Int.pow_succ] at h1 h2
  omega
/-- All bits up to one above the number are the same: it is 0 or -1. -/
theorem same_bits : ∀ (m : Nat) (y : Int) (t : Bool), -2 ^ m ≤ y → y < 2 ^ m → (∀ j, j ≤ m → bit y j = t) → y = if t then -1 else 0
  | 0, y, t, h1, h2, h => by
    have h0 := h 0 (Nat.le_refl _)
    simp only [Int.pow_zero] at h1 h2
    unfold bit at h0
    simp only [Int.pow_zero, Int.ediv_one] at h0
    cases t
    · have : ¬ y % 2 = 1 := by simpa using h0
      simp only [Bool.false_eq_true, if_false]; omega
    · have : y % 2 = 1 := by simpa using h0
      simp only [if_true]; omega
  | m + 1, y, t, h1, h2, h => by
    have h0 := h 0 (by omega)
    obtain ⟨g1, g2⟩ := two_bounds h1 h2
    have ih := same_bits m (y / 2) t g1 g2 (fun j hj => by
      have := h (1 + j) (by omega)
      rw [← bit_div] at this
      simpa using this)
    unfold bit at h0
    simp only [Int.pow_zero, Int.ediv_one] at h0
    cases t
    · have : ¬ y % 2 = 1 := by simpa using h0
      simp only [Bool.false_eq_true, if_false] at ih ⊢; omega
    · have : y % 2 = 1 := by simpa using h0
      simp only [if_true] at ih ⊢; omega

theorem div_bounds {x : Int} {a b : Nat} (hab : a ≤ b) (h1 : -2 ^ b ≤ x) (h2 : x < 2 ^ b) : -2 ^ (b - a) ≤ x / 2 ^ a ∧ x / 2 ^ a < 2 ^ (b - a) := by
  have e : (2 : Int) ^ b = 2 ^ (b - a) * 2 ^ a := by rw [← Int.pow_add]; congr 1; omega
  have hp := p2 a
  rw [e] at h1 h2
  refine ⟨(Int.le_ediv_iff_mul_le hp).2 ?_, (Int.ediv_lt_iff_lt_mul hp).2 h2⟩
  rw [Int.neg_mul]; exact h1
/-- All bits from a up to b are t: what is above a is 0 or -1. -/
theorem same_from {x : Int} {a b : Nat} {t : Bool} (hab : a ≤ b) (h1 : -2 ^ b ≤ x) (h2 : x < 2 ^ b) (h : ∀ j, a ≤ j → j ≤ b → bit x j = t) : x / 2 ^ a = if t then -1 else 0 := by
  obtain ⟨g1, g2⟩ := div_bounds hab h1 h2
  exact same_bits (b - a) _ t g1 g2 (fun j hj => by rw [bit_div]; exact h _ (by omega) (by omega))
theorem from_same {x : Int} {a : Nat} {t : Bool} (h : x / 2 ^ a = if t then -1 else 0) (j : Nat) (hj : a ≤ j) : bit x j = t := by
  have e : j = a + (j - a) := by omega
  rw [e, ← bit_div, h]
  cases t
  · exact bit_zero _
  · exact bit_neg _
theorem bit_high {x : Int} {b : Nat} (h0 : 0 ≤ x) (h : x < 2 ^ b) (j : Nat) (hj : b ≤ j) : bit x j = false :=
  from_same (t := false) (by simp only [Bool.false_eq_true, if_false]; exact Int.ediv_eq_zero_of_lt h0 h) j hj

/-- Without a sign: n groups are enough if no bit from 7n up to 63 is set. -/
theorem fitU_bits {x : Int} {n : Nat} (h0 : 0 ≤ x) (h1 : x < 2 ^ 64) (hn : 1 ≤ n) (hn9 : n ≤ 9) : fitU x n ↔ ∀ j, 7 * n ≤ j → j < 64 → bit x j = false := by
  have e : x / 2 ^ (7 * n) = x / 128 ^ (n - 1) / 128 := by
    rw [pow7, show n = n - 1 + 1 by omega, ← div_pow128]; rfl
  have hq : 0 ≤ x / 128 ^ (n - 1) := Int.ediv_nonneg h0 (Int.le_of_lt (p128 _))
  constructor
  · intro h j hj _
    refine from_same (a := 7 * n) (t := false) ?_ j hj
    rw [e]
    have h' : x / 128 ^ (n - 1) < 128 := h
    simp only [Bool.false_eq_true, if_false]
    omega
  · intro h
    have h2 := same_from (x := x) (a := 7 * n) (b := 64) (t := false) (by omega) (by omega) h1 (fun j hj hb => by
      rcases Nat.lt_or_ge j 64 with g | g
      · exact h j hj g
      · exact bit_high h0 h1 j g)
    rw [e] at h2
    simp only [Bool.false_eq_true, if_false] at h2
    show x / 128 ^ (n - 1) < 128
    omega
theorem div64 (x : Int) (n : Nat) (hn : 1 ≤ n) : x / 2 ^ (7 * n - 1) = x / 128 ^ (n - 1) / 64 := by
  have e : 7 * n - 1 = 7 * (n - 1) + 6 := by omega
  rw [e, ← div_pow, pow7]; rfl
/-- With a sign: n groups are enough if all bits from 7n - 1 up to 63 are the same. -/
theorem fitS_bits {x : Int} {n : Nat} (h0 : -2 ^ 63 ≤ x) (h1 : x < 2 ^ 63) (hn : 1 ≤ n) (hn9 : n ≤ 9) : fitS x n ↔ ∀ j, 7 * n - 1 ≤ j → j < 64 → bit x j = bit x 63 := by
  have e := div64 x n hn
  constructor
  · intro h j hj hj2
    obtain ⟨a1, a2⟩ : -64 ≤ x / 128 ^ (n - 1) ∧ x / 128 ^ (n - 1) < 64 := h
    have hz : x / 2 ^ (7 * n - 1) = 0 ∨ x / 2 ^ (7 * n - 1) = -1 := by rw [e]; omega
    rcases hz with hz | hz
    · rw [from_same (t := false) (by simpa using hz) j hj, from_same (t := false) (by simpa using hz) 63 (by omega)]
    · rw [from_same (t := true) (by simpa using hz) j hj, from_same (t := true) (by simpa using hz) 63 (by omega)]
  · intro h
    have h2 := same_from (x := x) (a := 7 * n - 1) (b := 63) (t := bit x 63) (by omega) h0 h1 (fun j hj hb => h j hj (by omega))
    rw [e] at h2
    show -64 ≤ x / 128 ^ (n - 1) ∧ x / 128 ^ (n - 1) < 64
    split at h2 <;> omega
/-- The number modulo a power, one bit more. -/
theorem mod_bit (x : Int) (i : Nat) : x % 2 ^ (i + 1) = x % 2 ^ i + if bit x i then 2 ^ i else 0 := by
  have hp := p2 i
  have e1 := Int.emod_def x (2 ^ i)
  have e2 := Int.emod_def x (2 ^ (i + 1))
  have e3 : x / 2 ^ (i + 1) = x / 2 ^ i / 2 := by rw [← div_pow]; rfl
  have e4 : (2 : Int) ^ (i + 1) = 2 * 2 ^ i := by rw [Int.pow_succ, Int.mul_comm]
  rw [e3, e4] at e2
  rw [e4, e2, e1]
  have h2 : x / 2 ^ i = 2 * (x / 2 ^ i / 2) + x / 2 ^ i % 2 := by omega
  have h3 : x / 2 ^ i % 2 = 0 ∨ x / 2 ^ i % 2 = 1 := by omega
  unfold bit
  generalize x / 2 ^ i / 2 = q at *
  generalize x / 2 ^ i % 2 = r at *
  rw [h2]
  by_cases hr : r = 1
  · subst hr; simp only [beq_self_eq_true, if_true]; grind
  · have : r = 0 := h3.resolve_right hr
    subst this; simp; grind
end Go.Proofs.YtjjhgmmkapeifaaDoor

/- The operators on bits that the layer uses, as arithmetic. -/
namespace Go.Proofs.YtjjhgmmkapeifaaDoor
set_option linter.unusedVariables false

theorem or128 (c : Int) (h0 : 0 ≤ c) (h1 : c < 256) : bits .or .u8 c 128 = c % 128 + 128 := by
  have all : ∀ n : Fin 256, bits .or .u8 (n.val : Int) 128 = (n.val : Int) % 128 + 128 := by decide +kernel
  obtain ⟨n, rfl⟩ := Int.eq_ofNat_of_zero_le h0
  exact all ⟨n, by omega⟩
theorem not128 (c : Int) (h0 : 0 ≤ c) (h1 : c < 256) : bits .andNot .u8 c 128 = c % 128 := by
  have all : ∀ n : Fin 256, bits .andNot .u8 (n.val : Int) 128 = (n.val : Int) % 128 := by decide +kernel
  obtain ⟨n, rfl⟩ := Int.eq_ofNat_of_zero_le h0
  exact all ⟨n, by omega⟩
theorem not64 (c : Int) (h0 : 0 ≤ c) (h1 : c < 128) : bits .andNot .u8 c 64 = c % 64 := by
  have all : ∀ n : Fin 128, bits .andNot .u8 (n.val : Int) 64 = (n.val : Int) % 64 := by decide +kernel
  obtain ⟨n, rfl⟩ := Int.eq_ofNat_of_zero_le h0
  exact all ⟨n, by omega⟩
theorem and64 (c : Int) (h0 : 0 ≤ c) (h1 : c < 128) : bits .and .u8 c 64 = c - c % 64 := by
  have all : ∀ n : Fin 128, bits .and .u8 (n.val : Int) 64 = (n.val : Int) - (n.val : Int) % 64 := by decide +kernel
  obtain ⟨n, rfl⟩ := Int.eq_ofNat_of_zero_le h0
  exact all ⟨n, by omega⟩
theorem or_nat (v y : Int) (s : Nat) (hs : s ≤ 64) (h0 : 0 ≤ v) (h1 : v < 2 ^ s) :
    (((BitVec.ofInt 64 v ||| BitVec.ofInt 64 (y * 2 ^ s)).toNat : Nat) : Int) = v + y * 2 ^ s % 18446744073709551616 := by
  have hp := p2 s
  have hq := p2 (64 - s)
  have hle : (2 : Int) ^ s ≤ 2 ^ 64 := mono2 hs
  have e64 : (2 : Int) ^ 64 = 18446744073709551616 := rfl
  have es : (18446744073709551616 : Int) = 2 ^ s * 2 ^ (64 - s) := by rw [← Int.pow_add, ← e64]; congr 1; omega
  have em : y * 2 ^ s % 18446744073709551616 = 2 ^ s * (y % 2 ^ (64 - s)) := by rw [es, Int.mul_comm y]; exact Int.mul_emod_mul_of_pos _ _ hp
  have hr : 0 ≤ y % 2 ^ (64 - s) := Int.emod_nonneg _ (Int.ne_of_gt hq)
  have eB : (BitVec.ofInt 64 (y * 2 ^ s)).toNat = 2 ^ s * (y % 2 ^ (64 - s)).toNat := by
    rw [BitVec.toNat_ofInt]
    show (y * 2 ^ s % 18446744073709551616).toNat = _
    rw [em, Int.toNat_mul (Int.le_of_lt hp) hr]
    congr 1
  have eA : (BitVec.ofInt 64 v).toNat = v.toNat := by
    rw [BitVec.toNat_ofInt]
    show (v % 18446744073709551616).toNat = _
    rw [Int.emod_eq_of_lt h0 (by omega)]
  have hv : v.toNat < 2 ^ s := by
    have : ((2 ^ s : Nat) : Int) = 2 ^ s := by simp
    omega
  rw [BitVec.toNat_or, eA, eB, Nat.or_comm, ← Nat.two_pow_add_eq_or_of_lt hv, em]
  rw [Int.natCast_add, Int.natCast_mul, Int.toNat_of_nonneg hr, Int.toNat_of_nonneg h0]
  have : ((2 ^ s : Nat) : Int) = 2 ^ s := by simp
  rw [this]; omega
/-- v below 2^s beside a multiple of 2^s: 'or' is '+'. -/
theorem or_u64 (v y : Int) (s : Nat) (hs : s ≤ 64) (h0 : 0 ≤ v) (h1 : v < 2 ^ s) (hy : 0 ≤ y) (hb : v + y * 2 ^ s < 18446744073709551616) : bits .or .u64 v (y * 2 ^ s) = v + y * 2 ^ s := by
  have hz : 0 ≤ y * 2 ^ s := Int.mul_nonneg hy (Int.le_of_lt (p2 s))
  show IntKind.u64.wrap ((BitVec.ofInt 64 v ||| BitVec.ofInt 64 (y * 2 ^ s)).toNat : Nat) = v + y * 2 ^ s
  rw [or_nat v y s hs h0 h1]
  generalize y * 2 ^ s = z at *
  simp only [IntKind.wrap, IntKind.bits, IntKind.signed]
  simp
  omega
theorem or_i64 (v y : Int) (s : Nat) (hs : s ≤ 64) (h0 : 0 ≤ v) (h1 : v < 2 ^ s) (hl : -9223372036854775808 ≤ v + y * 2 ^ s) (hb : v + y * 2 ^ s < 9223372036854775808) : bits .or .i64 v (y * 2 ^ s) = v + y * 2 ^ s := by
  show IntKind.i64.wrap ((BitVec.ofInt 64 v ||| BitVec.ofInt 64 (y * 2 ^ s)).toNat : Nat) = v + y * 2 ^ s
  rw [or_nat v y s hs h0 h1, IntKind.wrap_i64]
  generalize y * 2 ^ s = z at *
  omega
end Go.Proofs.YtjjhgmmkapeifaaDoor

/- leb.Right, Most, Size. -/
namespace Go.Proofs.YtjjhgmmkapeifaaDoor
set_option linter.unusedVariables false
open Go.RowKit

/-- How many bytes so many bits want. -/
def mostZ (n : Int) : Int := if 1 ≤ n ∧ n ≤ 64 then (n + 6) / 7 else 0

theorem right_in (n : Int) (w : World) (h1 : 1 ≤ n) (h2 : n ≤ 64) : Calls Tryd.prog 104 #[.int .i64 n] w fun e w' => e = .returned (.bool true) ∧ w = w' := by
  go_enter Tryd.func104, Tryd.ntmps104
  go_wp2
  go_ret
  exact ⟨rfl, rfl⟩
theorem right_out (n : Int) (w : World) (h : n < 1 ∨ 64 < n) : Calls Tryd.prog 104 #[.int .i64 n] w fun e w' => e = .returned (.bool false) ∧ w = w' := by
  rcases h with h | h
  · have h' : ¬ 1 ≤ n := by omega
    go_enter Tryd.func104, Tryd.ntmps104
    go_wp2
    go_ret
    exact ⟨rfl, rfl⟩
  · have h' : 1 ≤ n := by omega
    have h2 : ¬ n ≤ 64 := by omega
    have h3 : decide (n ≤ 64) = false := by simpa using h2
    go_enter Tryd.func104, Tryd.ntmps104
    go_wp2
    go_ret
    exact ⟨rfl, rfl⟩
theorem most_in (n : Int) (w : World) (h1 : 1 ≤ n) (h2 : n ≤ 64) : Calls Tryd.prog 100 #[.int .i64 n] w fun e w' => e = .returned (.int .i64 ((n + 6) / 7)) ∧ w = w' := by
  go_enter Tryd.func100, Tryd.ntmps100
  go_wp2_with (go_at_call 104; refine (right_in _ _ h1 h2).mono ?_; rintro e w' ⟨rfl, rfl⟩)
  go_ret
  exact ⟨ret_int (by omega), rfl⟩
theorem most_out (n : Int) (w : World) (h : n < 1 ∨ 64 < n) : Calls Tryd.prog 100 #[.int .i64 n] w fun e w' => e = .returned (.int .i64 0) ∧ w = w' := by
  go_enter Tryd.func100, Tryd.ntmps100
  go_wp2_with (go_at_call 104; refine (right_out _ _ h).mono ?_; rintro e w' ⟨rfl, rfl⟩)
  go_ret
  exact ⟨rfl, rfl⟩
theorem most_any (n : Int) (w : World) : Calls Tryd.prog 100 #[.int .i64 n] w fun e w' => e = .returned (.int .i64 (mostZ n)) ∧ w = w' := by
  by_cases h : 1 ≤ n ∧ n ≤ 64
  · unfold mostZ; rw [if_pos h]; exact most_in n w h.1 h.2
  · unfold mostZ; rw [if_neg h]; exact most_out n w (by omega)
theorem aux_lo : ∀ (f x : Nat), 0 < Lib.bitLenAux f x → 2 ^ (Lib.bitLenAux f x - 1) ≤ x
  | 0, x, h => by simp [Lib.bitLenAux] at h
  | f + 1, x, h => by
    unfold Lib.bitLenAux at h ⊢
    by_cases hx : x = 0
    · rw [if_pos hx] at h; omega
    · rw [if_neg hx] at h ⊢
      have ih := aux_lo f (x / 2)
      by_cases h0 : 0 < Lib.bitLenAux f (x / 2)
      · have := ih h0
        have e : 1 + Lib.bitLenAux f (x / 2) - 1 = Lib.bitLenAux f (x / 2) - 1 + 1 := by omega
        rw [e, Nat.pow_succ]; omega
      · have : Lib.bitLenAux f (x / 2) = 0 := by omega
        rw [this]; simp; omega
theorem aux_hi : ∀ (f x : Nat), x < 2 ^ f → x < 2 ^ Lib.bitLenAux f x
  | 0, x, h => by simpa [Lib.bitLenAux] using h
  | f + 1, x, h => by
    unfold Lib.bitLenAux
    by_cases hx : x = 0
    · rw [if_pos hx]; subst hx; simp
    · rw [if_neg hx]
      rw [Nat.pow_succ] at h
      have ih := aux_hi f (x / 2) (by omega)
      rw [Nat.add_comm 1, Nat.pow_succ]; omega
theorem len_le (x : Int) (h0 : 0 ≤ x) (h1 : x ≤ 18446744073709551615) : Lib.bitLen x.toNat ≤ 64 := Lib.bitLen_le _ 64 (by omega) (by omega)
/-- The length that Size reckons is the least number of groups. -/
theorem size_least (x : Int) (h0 : 0 ≤ x) (h1 : x ≤ 18446744073709551615) : ∃ n : Nat, Least (fitU x) n ∧ (max 1 (Lib.bitLen x.toNat : Int) + 6) / 7 = n := by
  have hl := len_le x h0 h1
  have hi := aux_hi 64 x.toNat (by omega)
  have lo := aux_lo 64 x.toNat
  change x.toNat < 2 ^ Lib.bitLen x.toNat at hi
  change 0 < Lib.bitLen x.toNat → 2 ^ (Lib.bitLen x.toNat - 1) ≤ x.toNat at lo
  generalize Lib.bitLen x.toNat = b at *
  have hx : x = (x.toNat : Int) := by omega
  generalize x.toNat = y at *
  subst hx
  refine ⟨(max 1 b + 6) / 7, ⟨by omega, ?_, ?_⟩, by omega⟩
  · have e : (y : Int) < 2 ^ (7 * ((max 1 b + 6) / 7)) := by
      have := mono2 (a := b) (b := 7 * ((max 1 b + 6) / 7)) (by omega)
      have h2 : ((2 ^ b : Nat) : Int) = 2 ^ b := by simp
      omega
    generalize hn : (max 1 b + 6) / 7 = n at e
    have hn1 : n = n - 1 + 1 := by omega
    rw [pow7, hn1, Int.pow_succ] at e
    exact (Int.ediv_lt_iff_lt_mul (p128 _)).2 (by rw [Int.mul_comm]; exact e)
  · intro m hm hlt h
    have h' : (y : Int) / 128 ^ (m - 1) < 128 := h
    have h2 := (Int.ediv_lt_iff_lt_mul (p128 _)).1 h'
    have e : (128 : Int) * 128 ^ (m - 1) = 2 ^ (7 * m) := by
      rw [pow7, Int.mul_comm, show (128 : Int) ^ (m - 1) * 128 = 128 ^ (m - 1 + 1) from (Int.pow_succ _ _).symm]; congr 1; omega
    rw [e] at h2
    have hm2 := mono2 (a := 7 * m) (b := b - 1) (by omega)
    have h3 := lo (by omega)
    have h4 : ((2 ^ (b - 1) : Nat) : Int) = 2 ^ (b - 1) := by simp
    omega
theorem size_any (x : Int) (w : World) (h0 : 0 ≤ x) (h1 : x ≤ 18446744073709551615) {n : Nat} (hn : Least (fitU x) n) :
    Calls Tryd.prog 87 #[.int .u64 x] w fun e w' => e = .returned (.int .i64 n) ∧ w = w' := by
  obtain ⟨m, hm, e⟩ := size_least x h0 h1
  obtain rfl := hm.unique hn
  have hl := len_le x h0 h1
  have H := Lib.hid e
  have HM := Lib.hid hm
  have HN := Lib.hid hn
  clear e hm hn
  generalize hb : Lib.bitLen x.toNat = b at *
  have HB := Lib.hid hb
  clear hb
  have hb1 : 1 ≤ max 1 (b : Int) := by omega
  have hb2 : max 1 (b : Int) ≤ 64 := by omega
  go_enter Tryd.func87, Tryd.ntmps87
  go_wp2_with (first
    | (go_at_call 101; go_must (refine (Tryd.bits_Len64 _ _ h0 h1).mono ?_; rintro e w' ⟨rfl, rfl⟩; rw [HB.out]))
    | (go_at_call 100; go_must (refine (most_any _ _).mono ?_; rintro e w' ⟨rfl, rfl⟩)))
  go_ret
  exact ⟨ret_int (by have h := H.out; unfold mostZ; rw [if_pos ⟨by omega, by omega⟩]; exact h), rfl⟩
theorem refMost_in (n : Int) (w : World) (h1 : 1 ≤ n) (h2 : n ≤ 64) : Calls Tryd.prog 99 #[.int .i64 n] w fun e w' => e = .returned (.int .i64 ((n + 6) / 7)) ∧ w = w' := by
  go_enter Tryd.func99, Tryd.ntmps99
  go_wp2
  go_loop [3] (fun v => ∃ k : Nat, v = .int .i64 k ∧ 7 * (k : Int) ≤ n + 6) (fun v => (n - intOf v).toNat)
  case atStart => exact ⟨0, rfl, by omega⟩
  case round =>
    obtain ⟨k, rfl, hk⟩ := hrel
    by_cases hlt : 7 * (k : Int) < n
    · go_wp2
      go_round
      case rel => exact ⟨k + 1, by go_num, by omega⟩
      case measure => simp [intOf]; omega
    · have hd : decide (7 * (k : Int) < n) = false := by simpa using hlt
      go_wp2
      go_ret
      exact ⟨ret_int (by omega), rfl⟩
end Go.Proofs.YtjjhgmmkapeifaaDoor
