/- leb.Right, Most, Size. -/
import Derived.Test.YtmjcbliobjmmfaaBytes
import Derived.Test.YtmjcbliobjmmfaaBits
import Derived.Deep.DeepMust
namespace Go.Proofs.Ytmjcbliobjmmfaa
open Go.RowKit

/-- How many bytes so many bits want. -/
def mostZ (n : Int) : Int := if 1 ≤ n ∧ n ≤ 64 then (n + 6) / 7 else 0

theorem right_in (n : Int) (w : World) (h1 : 1 ≤ n) (h2 : n ≤ 64) : Calls Try.prog 51 #[.int .i64 n] w fun e w' => e = .returned (.bool true) ∧ w = w' := by
  go_enter Try.func51, Try.ntmps51
  go_wp2
  go_ret
  exact ⟨rfl, rfl⟩
theorem right_out (n : Int) (w : World) (h : n < 1 ∨ 64 < n) : Calls Try.prog 51 #[.int .i64 n] w fun e w' => e = .returned (.bool false) ∧ w = w' := by
  rcases h with h | h
  · have h' : ¬ 1 ≤ n := by omega
    go_enter Try.func51, Try.ntmps51
    go_wp2
    go_ret
    exact ⟨rfl, rfl⟩
  · have h' : 1 ≤ n := by omega
    have h2 : ¬ n ≤ 64 := by omega
    have h3 : decide (n ≤ 64) = false := by simpa using h2
    go_enter Try.func51, Try.ntmps51
    go_wp2
    go_ret
    exact ⟨rfl, rfl⟩
theorem most_in (n : Int) (w : World) (h1 : 1 ≤ n) (h2 : n ≤ 64) : Calls Try.prog 52 #[.int .i64 n] w fun e w' => e = .returned (.int .i64 ((n + 6) / 7)) ∧ w = w' := by
  go_enter Try.func52, Try.ntmps52
  go_wp2_with (go_at_call 51; refine (right_in _ _ h1 h2).mono ?_; rintro e w' ⟨rfl, rfl⟩)
  go_ret
  exact ⟨ret_int (by omega), rfl⟩
theorem most_out (n : Int) (w : World) (h : n < 1 ∨ 64 < n) : Calls Try.prog 52 #[.int .i64 n] w fun e w' => e = .returned (.int .i64 0) ∧ w = w' := by
  go_enter Try.func52, Try.ntmps52
  go_wp2_with (go_at_call 51; refine (right_out _ _ h).mono ?_; rintro e w' ⟨rfl, rfl⟩)
  go_ret
  exact ⟨rfl, rfl⟩
theorem most_any (n : Int) (w : World) : Calls Try.prog 52 #[.int .i64 n] w fun e w' => e = .returned (.int .i64 (mostZ n)) ∧ w = w' := by
  by_cases h : 1 ≤ n ∧ n ≤ 64
  · unfold mostZ; rw [if_pos h]; exact most_in n w h.1 h.2
  · unfold mostZ; rw [if_neg h]; exact most_out n w (by omega)
end Go.Proofs.Ytmjcbliobjmmfaa

