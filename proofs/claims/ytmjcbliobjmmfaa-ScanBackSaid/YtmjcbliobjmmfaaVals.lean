/- types.Value, Values, Func; creelref04.Value, Values, Func. -/
import Derived.Test.YtmjcbliobjmmfaaNames
namespace Go.Proofs.Ytmjcbliobjmmfaa
open Go.RowKit

/-- api.OK is 0, ErrType 7, ErrFloat 8, ErrMany 29. -/
def valueZ (n : Int) : Int := if n = 127 ∨ n = 126 then 0 else if n = 125 ∨ n = 124 then 8 else 7
def valuesZ : List UInt8 → Int
  | [] => 0
  | c :: l => if valueZ c.toNat = 0 then valuesZ l else valueZ c.toNat
def funcZ (p r : List UInt8) : Int := if 1000 < p.length ∨ 1 < r.length then 29 else if valuesZ p = 0 then valuesZ r else valuesZ p
theorem valuesZ_append (p r : List UInt8) : valuesZ (p ++ r) = if valuesZ p = 0 then valuesZ r else valuesZ p := by
  induction p with
  | nil => simp [valuesZ]
  | cons c l ih =>
    by_cases h : valueZ c.toNat = 0
    · simp [valuesZ, h, ih]
    · simp [valuesZ, h]
theorem values_step {l : List UInt8} {k : Nat} (h : k < l.length) : ∃ c : UInt8, (∀ hh : k < (S l).size, (S l)[k]'hh = c) ∧ valuesZ (l.drop k) = if valueZ c.toNat = 0 then valuesZ (l.drop (k + 1)) else valueZ c.toNat :=
  ⟨l[k], fun hh => S_get l k hh, by rw [List.drop_eq_getElem_cons h]; rfl⟩

theorem value_any (n : Int) (w : World) : Calls Try.prog 43 #[.int .u8 n] w fun e w' => e = .returned (.int .i64 (valueZ n)) ∧ w = w' := by
  by_cases a1 : n = 127
  · subst a1
    go_enter Try.func43, Try.ntmps43
    go_wp2
    go_ret
    exact ⟨rfl, rfl⟩
  by_cases a2 : n = 126
  · subst a2
    go_enter Try.func43, Try.ntmps43
    go_wp2
    go_ret
    exact ⟨rfl, rfl⟩
  by_cases a3 : n = 125
  · subst a3
    go_enter Try.func43, Try.ntmps43
    go_wp2
    go_ret
    exact ⟨rfl, rfl⟩
  by_cases a4 : n = 124
  · subst a4
    go_enter Try.func43, Try.ntmps43
    go_wp2
    go_ret
    exact ⟨rfl, rfl⟩
  have HE := Lib.hid (show valueZ n = 7 by unfold valueZ; rw [if_neg (by omega), if_neg (by omega)])
  have b1 : (n == 127) = false := by simpa using a1
  have b2 : (n == 126) = false := by simpa using a2
  have b3 : (n == 125) = false := by simpa using a3
  have b4 : (n == 124) = false := by simpa using a4
  clear a1 a2 a3 a4
  go_enter Try.func43, Try.ntmps43
  go_wp2
  go_ret
  exact ⟨ret_int HE.out.symm, rfl⟩
theorem refValue_any (n : Int) (w : World) : Calls Try.prog 6 #[.int .i64 n] w fun e w' => e = .returned (.int .i64 (valueZ n)) ∧ w = w' := by
  by_cases a1 : n = 127
  · subst a1
    go_enter Try.func6, Try.ntmps6
    go_wp2
    go_ret
    exact ⟨rfl, rfl⟩
  by_cases a2 : n = 126
  · subst a2
    go_enter Try.func6, Try.ntmps6
    go_wp2
    go_ret
    exact ⟨rfl, rfl⟩
  by_cases a3 : n = 125
  · subst a3
    go_enter Try.func6, Try.ntmps6
    go_wp2
    go_ret
    exact ⟨rfl, rfl⟩
  by_cases a4 : n = 124
  · subst a4
    go_enter Try.func6, Try.ntmps6
    go_wp2
    go_ret
    exact ⟨rfl, rfl⟩
  have HE := Lib.hid (show valueZ n = 7 by unfold valueZ; rw [if_neg (by omega), if_neg (by omega)])
  have b1 : (n == 127) = false := by simpa using a1
  have b2 : (n == 126) = false := by simpa using a2
  have b3 : (n == 125) = false := by simpa using a3
  have b4 : (n == 124) = false := by simpa using a4
  clear a1 a2 a3 a4
  go_enter Try.func6, Try.ntmps6
  go_wp2
  go_ret
  exact ⟨ret_int HE.out.symm, rfl⟩

set_option maxHeartbeats 400000 in
theorem values_any (l : List UInt8) (w : World) (hl : l.length ≤ 1000000) : Calls Try.prog 40 #[.string (S l)] w fun e w' => e = .returned (.int .i64 (valuesZ l)) ∧ w = w' := by
  have hs := S_size l
  go_enter Try.func40, Try.ntmps40
  go_wp2
  go_loop [7] (fun i => ∃ k : Nat, k ≤ l.length ∧ i = .int .i64 k ∧ valuesZ (l.drop k) = valuesZ l) (fun i => l.length - (intOf i).toNat)
  case atStart => exact ⟨0, by omega, rfl, by simp⟩
  case round =>
    obtain ⟨k, hk, rfl, hv⟩ := hrel
    by_cases hlt : k < l.length
    · obtain ⟨c, hg0, hd⟩ := values_step hlt
      have hlt' : k < (S l).size := by rw [hs]; exact hlt
      have hg := hg0 hlt'
      rw [hv] at hd
      have HD := Lib.hid hd
      have HG := Lib.hid hg
      have HS := Lib.hid hs
      clear hd hv hg hs hg0
      by_cases hz : valueZ c.toNat = 0
      · have hb : (valueZ c.toNat == 0) = true := by simpa using hz
        have hb' : (valueZ c.toNat != 0) = false := by simpa using hz
        have HZ := Lib.hid hz
        clear hz
        go_wp2_with (first
          | (go_at_call 43; go_must (rw [HG.out]; refine (value_any _ _).mono ?_; rintro e w' ⟨rfl, rfl⟩)))
        go_round
        case rel => exact ⟨k + 1, by omega, by go_num, by have := HD.out; rw [if_pos HZ.out] at this; exact this.symm⟩
        case measure => simp [intOf]; omega
      · have hb : (valueZ c.toNat == 0) = false := by simpa using hz
        have hb' : (valueZ c.toNat != 0) = true := by simpa using hz
        have HZ := Lib.hid hz
        clear hz
        go_wp2_with (first
          | (go_at_call 43; go_must (rw [HG.out]; refine (value_any _ _).mono ?_; rintro e w' ⟨rfl, rfl⟩)))
        go_ret
        exact ⟨ret_int (by have := HD.out; rw [if_neg HZ.out] at this; exact this.symm), rfl⟩
    · obtain rfl : k = l.length := by omega
      rw [List.drop_length] at hv
      have HV := Lib.hid hv
      clear hv
      go_wp2
      go_ret
      exact ⟨ret_int HV.out, rfl⟩

theorem wrap_byte (c : UInt8) : wrap64 (c.toNat : Int) = c.toNat := by
  have := c.toNat_lt
  unfold wrap64
  omega
set_option maxHeartbeats 400000 in
theorem refValues_any (l : List UInt8) (w : World) (hl : l.length ≤ 1000000) : Calls Try.prog 23 #[.string (S l)] w fun e w' => e = .returned (.int .i64 (valuesZ l)) ∧ w = w' := by
  have hs := S_size l
  go_enter Try.func23, Try.ntmps23
  go_wp2
  go_loop [3] (fun i => ∃ k : Nat, k ≤ l.length ∧ i = .int .i64 k ∧ valuesZ (l.drop k) = valuesZ l) (fun i => l.length - (intOf i).toNat)
  case atStart => exact ⟨0, by omega, rfl, by simp⟩
  case round =>
    obtain ⟨k, hk, rfl, hv⟩ := hrel
    by_cases hlt : k < l.length
    · obtain ⟨c, hg0, hd⟩ := values_step hlt
      have hlt' : k < (S l).size := by rw [hs]; exact hlt
      have hg := hg0 hlt'
      rw [hv] at hd
      have HD := Lib.hid hd
      have HG := Lib.hid hg
      have HS := Lib.hid hs
      clear hd hv hg hs hg0
      by_cases hz : valueZ c.toNat = 0
      · have hb : (valueZ c.toNat == 0) = true := by simpa using hz
        have hb' : (valueZ c.toNat != 0) = false := by simpa using hz
        have HZ := Lib.hid hz
        clear hz
        go_wp2_with (first
          | (go_at_call 6; go_must (rw [HG.out, wrap_byte]; refine (refValue_any _ _).mono ?_; rintro e w' ⟨rfl, rfl⟩)))
        go_round
        case rel => exact ⟨k + 1, by omega, by go_num, by have := HD.out; rw [if_pos HZ.out] at this; exact this.symm⟩
        case measure => simp [intOf]; omega
      · have hb : (valueZ c.toNat == 0) = false := by simpa using hz
        have hb' : (valueZ c.toNat != 0) = true := by simpa using hz
        have HZ := Lib.hid hz
        clear hz
        go_wp2_with (first
          | (go_at_call 6; go_must (rw [HG.out, wrap_byte]; refine (refValue_any _ _).mono ?_; rintro e w' ⟨rfl, rfl⟩)))
        go_ret
        exact ⟨ret_int (by have := HD.out; rw [if_neg HZ.out] at this; exact this.symm), rfl⟩
    · obtain rfl : k = l.length := by omega
      rw [List.drop_length] at hv
      have HV := Lib.hid hv
      have hd : decide (((l.length : Nat) : Int) < ((S l).size : Int)) = false := by simp [hs]
      clear hv
      go_wp2
      go_ret
      exact ⟨ret_int HV.out, rfl⟩

/-- A function's type, by value. -/
def ftV (p r : List UInt8) : Value := .agg #[.string (S p), .string (S r)]
theorem below_box (w : World) (o : Obj) : Below w.heap.size w (w.alloc o) := (Below.refl _ _).alloc (Nat.le_refl _) _

theorem func_any (p r : List UInt8) (w : World) (hp : p.length ≤ 100000) (hr : r.length ≤ 100000) : Calls Try.prog 32 #[ftV p r] w fun e w' => e = .returned (.int .i64 (funcZ p r)) ∧ Below w.heap.size w w' := by
  unfold ftV
  have hsp := S_size p
  have hsr := S_size r
  by_cases a1 : 1000 < p.length
  · have HE := Lib.hid (show funcZ p r = 29 by unfold funcZ; rw [if_pos (.inl a1)])
    have a1' : 1000 < (S p).size := by omega
    clear hsp hsr
    go_enter Try.func32, Try.ntmps32
    go_wp2
    go_ret
    exact ⟨ret_int HE.out.symm, below_box _ _⟩
  by_cases a2 : 1 < r.length
  · have HE := Lib.hid (show funcZ p r = 29 by unfold funcZ; rw [if_pos (.inr a2)])
    have a1' : decide ((1000 : Int) < ((S p).size : Int)) = false := by simp; omega
    have a2' : 1 < (S r).size := by omega
    clear hsp hsr
    go_enter Try.func32, Try.ntmps32
    go_wp2
    go_ret
    exact ⟨ret_int HE.out.symm, below_box _ _⟩
  have HE := Lib.hid (show funcZ p r = if valuesZ p = 0 then valuesZ r else valuesZ p by unfold funcZ; rw [if_neg (by omega)])
  have a1' : decide ((1000 : Int) < ((S p).size : Int)) = false := by simp; omega
  have a2' : decide ((1 : Int) < ((S r).size : Int)) = false := by simp; omega
  clear hsp hsr
  have V1 := Lib.hid (fun w => values_any p w (by omega))
  have V2 := Lib.hid (fun w => values_any r w (by omega))
  obtain ⟨x, hx⟩ : ∃ x, x = valuesZ p := ⟨_, rfl⟩
  obtain ⟨y, hy⟩ : ∃ y, y = valuesZ r := ⟨_, rfl⟩
  rw [← hx] at HE V1
  rw [← hy] at HE V2
  clear hx hy
  by_cases hz : x = 0
  · subst hz
    go_enter Try.func32, Try.ntmps32
    go_wp2_with (first
      | (go_at_call 40; go_must (first | ((with_reducible refine (V1.out _).mono ?_); rintro e w' ⟨rfl, rfl⟩) | ((with_reducible refine (V2.out _).mono ?_); rintro e w' ⟨rfl, rfl⟩))))
    go_ret
    exact ⟨ret_int (by rw [HE.out]; simp), below_box _ _⟩
  · have hb : (x == 0) = false := by simpa using hz
    have hb' : (x != 0) = true := by simpa using hz
    have HZ := Lib.hid hz
    clear hz
    go_enter Try.func32, Try.ntmps32
    go_wp2_with (first
      | (go_at_call 40; go_must ((with_reducible refine (V1.out _).mono ?_); rintro e w' ⟨rfl, rfl⟩)))
    go_ret
    exact ⟨ret_int (by rw [HE.out, if_neg HZ.out]), below_box _ _⟩

theorem refFunc_any (p r : List UInt8) (w : World) (hp : p.length ≤ 100000) (hr : r.length ≤ 100000) : Calls Try.prog 5 #[ftV p r] w fun e w' => e = .returned (.int .i64 (funcZ p r)) ∧ Below w.heap.size w w' := by
  unfold ftV
  have hsp := S_size p
  have hsr := S_size r
  by_cases a1 : 1000 < p.length
  · have HE := Lib.hid (show funcZ p r = 29 by unfold funcZ; rw [if_pos (.inl a1)])
    have a1' : 1000 < (S p).size := by omega
    clear hsp hsr
    go_enter Try.func5, Try.ntmps5
    go_wp2
    go_ret
    exact ⟨ret_int HE.out.symm, below_box _ _⟩
  by_cases a2 : 1 < r.length
  · have HE := Lib.hid (show funcZ p r = 29 by unfold funcZ; rw [if_pos (.inr a2)])
    have a1' : decide ((1000 : Int) < ((S p).size : Int)) = false := by simp; omega
    have a2' : 1 < (S r).size := by omega
    clear hsp hsr
    go_enter Try.func5, Try.ntmps5
    go_wp2
    go_ret
    exact ⟨ret_int HE.out.symm, below_box _ _⟩
  have hcat : (S p).size + (S r).size ≤ 9223372036854775807 := by omega
  have HE := Lib.hid (show funcZ p r = valuesZ (p ++ r) by rw [valuesZ_append]; unfold funcZ; rw [if_neg (by omega)])
  have a1' : decide ((1000 : Int) < ((S p).size : Int)) = false := by simp; omega
  have a2' : decide ((1 : Int) < ((S r).size : Int)) = false := by simp; omega
  clear hsp hsr
  have V := Lib.hid (fun w => refValues_any (p ++ r) w (by simp; omega))
  go_enter Try.func5, Try.ntmps5
  go_wp2_with (first
    | (go_at_call 23; go_must (rw [S_append]; refine (V.out _).mono ?_; rintro e w' ⟨rfl, rfl⟩)))
  go_ret
  exact ⟨ret_int HE.out.symm, below_box _ _⟩
end Go.Proofs.Ytmjcbliobjmmfaa

