/- types.Limits, Fits, flag; creelref04.Limits. -/
import Derived.Test.YtlhjgjplnaoieaaDoorVals
import Derived.Test.YtlhjgjplnaoieaaDoorRefs
import Derived.Deep.QuietTactic
import Derived.BigQuiet
namespace Go.Proofs.YtlhjgjplnaoieaaDoor
open Go.RowKit

/-- Limits, by value. -/
abbrev lv (a b : Int) (c : Bool) : Value := .agg #[.int .u32 a, .int .u32 b, .bool c]
/-- May limits be, of at most m? -/
def limB (a b : Int) (c : Bool) (m : Int) : Bool := if c then decide (a ≤ b) && decide (b ≤ m) else decide (a ≤ m) && decide (b = 0)
/-- api.ErrLimits is 26. -/
def limZ (a b : Int) (c : Bool) (m : Int) : Int := if limB a b c m then 0 else 26
theorem limZ_no {a b : Int} {c : Bool} {m : Int} (h : limB a b c m = false) : limZ a b c m = 26 := by unfold limZ; rw [h]; rfl
theorem limZ_yes {a b : Int} {c : Bool} {m : Int} (h : limB a b c m = true) : limZ a b c m = 0 := by unfold limZ; rw [h]; rfl

theorem limits_any (a b : Int) (c : Bool) (m : Int) (w : World) : Calls Tryd.prog 20 #[lv a b c, .int .u32 m] w fun e w' => e = .returned (.int .i64 (limZ a b c m)) ∧ Below w.heap.size w w' := by
  by_cases h1 : m < a
  · have e : limB a b c m = false := by
      unfold limB
      cases c
      · simp; omega
      · simp; omega
    have HE := Lib.hid (limZ_no e)
    clear e
    go_enter Tryd.func20, Tryd.ntmps20
    go_wp2
    go_ret
    exact ⟨ret_int HE.out.symm, below_box _ _⟩
  have d1 : decide (m < a) = false := by simpa using h1
  cases c
  · by_cases h2 : b = 0
    · have e : limB a b false m = true := by unfold limB; simp; omega
      have HE := Lib.hid (limZ_yes e)
      clear e
      subst h2
      go_enter Tryd.func20, Tryd.ntmps20
      go_wp2
      go_ret
      exact ⟨ret_int HE.out.symm, below_box _ _⟩
    · have e : limB a b false m = false := by unfold limB; simp [h2]
      have HE := Lib.hid (limZ_no e)
      have d2 : (b == 0) = false := by simpa using h2
      have d2' : (b != 0) = true := by simpa using h2
      clear e h2
      go_enter Tryd.func20, Tryd.ntmps20
      go_wp2
      go_ret
      exact ⟨ret_int HE.out.symm, below_box _ _⟩
  · by_cases h2 : b < a
    · have e : limB a b true m = false := by unfold limB; simp; omega
      have HE := Lib.hid (limZ_no e)
      clear e
      go_enter Tryd.func20, Tryd.ntmps20
      go_wp2
      go_ret
      exact ⟨ret_int HE.out.symm, below_box _ _⟩
    have d2 : decide (b < a) = false := by simpa using h2
    by_cases h3 : m < b
    · have e : limB a b true m = false := by unfold limB; simp; omega
      have HE := Lib.hid (limZ_no e)
      clear e
      go_enter Tryd.func20, Tryd.ntmps20
      go_wp2
      go_ret
      exact ⟨ret_int HE.out.symm, below_box _ _⟩
    have d3 : decide (m < b) = false := by simpa using h3
    have e : limB a b true m = true := by unfold limB; simp; omega
    have HE := Lib.hid (limZ_yes e)
    clear e
    go_enter Tryd.func20, Tryd.ntmps20
    go_wp2
    go_ret
    exact ⟨ret_int HE.out.symm, below_box _ _⟩

/-- Do the first limits do for the second? -/
def fitB (a b : Int) (c : Bool) (a' b' : Int) (c' : Bool) : Bool := decide (a' ≤ a) && (!c' || (c && decide (b ≤ b')))
theorem fits_any (a b : Int) (c : Bool) (a' b' : Int) (c' : Bool) (w : World) : Calls Tryd.prog 24 #[lv a b c, lv a' b' c'] w fun e w' => e = .returned (.bool (fitB a b c a' b' c')) ∧ Below w.heap.size w w' := by
  have HB : ∀ (w : World) (o o' : Obj), Below w.heap.size w ((w.alloc o).alloc o') := fun w o o' => (below_box w o).alloc (by simp) _
  by_cases h1 : a < a'
  · have e : fitB a b c a' b' c' = false := by unfold fitB; rw [decide_eq_false (by omega)]; rfl
    rw [e]
    clear e
    go_enter Tryd.func24, Tryd.ntmps24
    go_wp2
    go_ret
    exact ⟨rfl, HB _ _ _⟩
  have d1 : decide (a < a') = false := by simpa using h1
  cases c'
  · have e : fitB a b c a' b' false = true := by unfold fitB; rw [decide_eq_true (by omega)]; rfl
    rw [e]
    clear e
    go_enter Tryd.func24, Tryd.ntmps24
    go_wp2
    go_ret
    exact ⟨rfl, HB _ _ _⟩
  cases c
  · have e : fitB a b false a' b' true = false := by unfold fitB; simp
    rw [e]
    clear e
    go_enter Tryd.func24, Tryd.ntmps24
    go_wp2
    go_ret
    exact ⟨rfl, HB _ _ _⟩
  by_cases h2 : b ≤ b'
  · have e : fitB a b true a' b' true = true := by unfold fitB; rw [decide_eq_true (by omega), decide_eq_true h2]; rfl
    rw [e]
    clear e
    go_enter Tryd.func24, Tryd.ntmps24
    go_wp2
    go_ret
    exact ⟨rfl, HB _ _ _⟩
  · have e : fitB a b true a' b' true = false := by unfold fitB; rw [decide_eq_false h2]; simp
    have d2 : decide (b ≤ b') = false := by simpa using h2
    rw [e]
    clear e
    go_enter Tryd.func24, Tryd.ntmps24
    go_wp2
    go_ret
    exact ⟨rfl, HB _ _ _⟩

theorem flag_any (c : Bool) (w : World) : Calls Tryd.prog 37 #[.bool c] w fun e w' => e = .returned (.int .u8 (if c then 1 else 0)) ∧ w = w' := by
  cases c
  all_goals
    go_enter Tryd.func37, Tryd.ntmps37
    go_wp2
    go_ret
    exact ⟨rfl, rfl⟩

theorem refLimits_any (a b : Int) (c : Bool) (m : Int) (w : World) (a0 : 0 ≤ a) (a1 : a ≤ 4294967295) (b0 : 0 ≤ b) (b1 : b ≤ 4294967295) :
    Calls Tryd.prog 21 #[lv a b c, .int .i64 m] w fun e w' => e = .returned (.bool (limB a b c m)) ∧ Below w.heap.size w w' := by
  have wa : IntKind.i64.wrap a = a := by rw [IntKind.wrap_i64]; omega
  have wb : IntKind.i64.wrap b = b := by rw [IntKind.wrap_i64]; omega
  cases c
  · by_cases h1 : a ≤ m
    · by_cases h2 : b = 0
      · subst h2
        have e : limB a 0 false m = true := by unfold limB; simp [h1]
        rw [e]
        clear e
        go_enter Tryd.func21, Tryd.ntmps21
        go_wp2
        go_quiet (fail)
        go_wp2
        go_ret
        exact ⟨rfl, below_drewN (below_box _ _) _⟩
      · have e : limB a b false m = false := by unfold limB; simp [h2]
        have d2 : (b == 0) = false := by simpa using h2
        rw [e]
        clear e h2
        go_enter Tryd.func21, Tryd.ntmps21
        go_wp2
        go_quiet (fail)
        go_wp2
        go_ret
        exact ⟨rfl, below_drewN (below_box _ _) _⟩
    · have e : limB a b false m = false := by unfold limB; rw [decide_eq_false h1]; simp
      have d1 : decide (a ≤ m) = false := by simpa using h1
      rw [e]
      clear e h1
      go_enter Tryd.func21, Tryd.ntmps21
      go_wp2
      go_quiet (fail)
      go_wp2
      go_ret
      exact ⟨rfl, below_drewN (below_box _ _) _⟩
  · by_cases h1 : a ≤ b
    · by_cases h2 : b ≤ m
      · have e : limB a b true m = true := by unfold limB; simp [h1, h2]
        rw [e]
        clear e
        go_enter Tryd.func21, Tryd.ntmps21
        go_wp2
        go_quiet (fail)
        go_wp2
        go_ret
        exact ⟨rfl, below_drewN (below_box _ _) _⟩
      · have e : limB a b true m = false := by unfold limB; simp; omega
        have d2 : decide (b ≤ m) = false := by simpa using h2
        rw [e]
        clear e h2
        go_enter Tryd.func21, Tryd.ntmps21
        go_wp2
        go_quiet (fail)
        go_wp2
        go_ret
        exact ⟨rfl, below_drewN (below_box _ _) _⟩
    · have e : limB a b true m = false := by unfold limB; simp; omega
      have d1 : decide (a ≤ b) = false := by simpa using h1
      rw [e]
      clear e h1
      go_enter Tryd.func21, Tryd.ntmps21
      go_wp2
      go_quiet (fail)
      go_wp2
      go_ret
      exact ⟨rfl, below_drewN (below_box _ _) _⟩
end Go.Proofs.YtlhjgjplnaoieaaDoor
