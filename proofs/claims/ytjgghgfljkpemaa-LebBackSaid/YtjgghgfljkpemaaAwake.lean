/- awake; the least numbers of groups; strings of groups. -/
import Derived.Test.YtjgghgfljkpemaaRefs
namespace Go.Proofs.Ytjgghgfljkpemaa
open Go.RowKit

theorem least_find (F : Nat → Prop) : ∀ k, 1 ≤ k → F k → ∃ n, Least F n := by
  intro k
  induction k using Nat.strongRecOn with
  | _ k ih =>
    intro h1 h2
    by_cases h : ∃ m, 1 ≤ m ∧ m < k ∧ F m
    · obtain ⟨m, a, b, c⟩ := h
      exact ih m b a c
    · exact ⟨k, h1, h2, fun m a b c => h ⟨m, a, b, c⟩⟩
theorem leastU (x : Int) (h : x ≤ 18446744073709551615) : ∃ n, Least (fitU x) n := least_find _ 10 (by omega) (fitU_ten x (by omega))
theorem leastS (x : Int) (h0 : -9223372036854775808 ≤ x) (h : x ≤ 9223372036854775807) : ∃ n, Least (fitS x) n := least_find _ 10 (by omega) (fitS_ten x h0 (by omega))
theorem eg1 : Least (fitU 624485) 3 := ⟨by omega, by show _ < _; decide, fun m a b => by
  have : m = 1 ∨ m = 2 := by omega
  rcases this with rfl | rfl <;> (show ¬ _ < _; decide)⟩
theorem eg2 : Least (fitS (-123456)) 3 := ⟨by omega, by show _ ∧ _; decide, fun m a b => by
  have : m = 1 ∨ m = 2 := by omega
  rcases this with rfl | rfl <;> (show ¬ (_ ∧ _); decide)⟩
theorem eg1s : strOfNums (grp 624485 3) = ⟨#[229, 142, 38]⟩ := by decide
theorem eg2s : strOfNums (grp (-123456) 3) = ⟨#[192, 187, 120]⟩ := by decide

set_option maxHeartbeats 1000000 in
theorem awake_any (w : World) : Calls Try.prog 6 #[] w fun e w' => e = .returned (.bool true) ∧ Below w.heap.size w w' := by
  go_enter Try.func6, Try.ntmps6
  go_wp2_with (first
    | (go_at_call 8; go_must (refine (uint_any _ _ (by omega) (by omega) eg1).mono ?_; intro e w1 hb; obtain ⟨A1, c1, rfl, _, _, hl1, _, hb1⟩ := hb; have hs1 := str_lies hl1 (by rw [grp_length]; omega) c1 Try.underlying24 Try.underlying5; rw [eg1s] at hs1; have HB1 := Lib.hid hb1; clear hb1 hl1))
    | (go_at_call 10; go_must (refine (int_any _ _ (by omega) (by omega) eg2).mono ?_; intro e w2 hb; obtain ⟨A2, c2, rfl, _, _, hl2, _, hb2⟩ := hb; have hs2 := str_lies hl2 (by rw [grp_length]; omega) c2 Try.underlying24 Try.underlying5; rw [eg2s] at hs2; have HB2 := Lib.hid hb2; clear hb2 hl2)))
  go_ret
  exact ⟨rfl, HB1.out.trans (HB2.out.mono HB1.out.size)⟩
end Go.Proofs.Ytjgghgfljkpemaa
