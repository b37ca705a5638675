/- The law LebReads. -/
import Derived.Test.YtjgghgfljkpemaaBoth
import Derived.Test.YtjgghgfljkpemaaAwake
namespace Go.Proofs.Ytjgghgfljkpemaa
open Go.RowKit
set_option linter.unusedVariables false

theorem Has.below {w w' : World} {B : Nat} {A : Option Addr} {cap : Nat} {r : List Int} (h : Has w B A cap r) (hb : Below w.heap.size w w') : Has w' B A cap r :=
  ⟨h.lies.below hb h.low_, Nat.le_trans h.low_ hb.size, h.room, h.most⟩
theorem back_s {V : Int} (h0 : -9223372036854775808 ≤ V) (h1 : V ≤ 9223372036854775807) : IntKind.i64.wrap (V % 2 ^ 64) = V := by
  have e : (2 : Int) ^ 64 = 18446744073709551616 := rfl
  rw [IntKind.wrap_i64, e]
  omega

set_option maxHeartbeats 1000000 in
theorem reads_long (n : Nat) (A : Option Addr) (cap : Nat) (at_ m : Int) (w : World) (hn : 1000 < n) (hm : n ≤ maxLen) :
    Calls Try.prog 4 #[.slice A n cap, .int .i64 at_, .int .i64 m] w fun e w' => e = .returned (.bool true) ∧ Below w.heap.size w w' := by
  unfold maxLen at hm
  have hn' : (1000 : Int) < n := by omega
  go_enter Try.func4, Try.ntmps4
  go_wp2_with (go_at_call 6; go_must (refine (awake_any _).mono ?_; rintro e w1 ⟨rfl, hb1⟩; have HB1 := Lib.hid hb1; clear hb1))
  go_ret
  exact ⟨rfl, HB1.out⟩

set_option maxRecDepth 100000 in
set_option maxHeartbeats 2000000 in
theorem reads_short (r : List Int) (hb : ∀ c ∈ r, 0 ≤ c ∧ c ≤ 255) (A : Option Addr) (cap : Nat) (at_ m : Int) (w : World) (hh : Has w w.heap.size A cap r) (hr : r.length ≤ 1000) :
    Calls Try.prog 4 #[.slice A r.length cap, .int .i64 at_, .int .i64 m] w fun e w' => e = .returned (.bool true) ∧ Below w.heap.size w w' := by
  obtain ⟨X, Q, E, cu, cv⟩ := both_u r hb at_ m
  obtain ⟨V, P, F, v0, v1, cs, ct⟩ := both_s r hb at_ m
  have CU := Lib.hid cu
  have CV := Lib.hid cv
  have CS := Lib.hid cs
  have CT := Lib.hid ct
  have HH := Lib.hid hh
  obtain ⟨Y, hY⟩ : ∃ Y, Y = V % 2 ^ 64 := ⟨_, rfl⟩
  have hw := back_s v0 v1
  rw [← hY] at hw CT
  clear cu cv cs ct hh hb hY
  have hw2 : wrap64 Y = V := by rw [← IntWalk.i64_left]; exact hw
  have hr' : ¬ (1000 : Int) < r.length := by omega
  go_enter Try.func4, Try.ntmps4
  go_wp2_with (first
    | (go_at_call 6; go_must (refine (awake_any _).mono ?_; rintro e w1 ⟨rfl, hb1⟩; have HB1 := Lib.hid hb1; have HA := Lib.hid (HH.out.below hb1); clear hb1))
    | (go_at_call 15; go_must (refine (CU.out _ _ _ _ HA.out).mono ?_; rintro e w2 ⟨rfl, rfl⟩))
    | (go_at_call 16; go_must (refine (CS.out _ _ _ _ HA.out).mono ?_; rintro e w2 ⟨rfl, rfl⟩))
    | (first
        | (have tok := HC1; go_at_call 17; go_must (refine (CT.out _ _ _ _ HC1.out).mono ?_; rintro e w4 ⟨rfl, hb4⟩; have HB4 := Lib.hid (HB3.out.trans (hb4.mono HB3.out.size)); clear hb4))
        | (go_at_call 17; go_must (refine (CV.out _ _ _ _ HA.out).mono ?_; rintro e w3 ⟨rfl, hb3⟩; have HB3 := Lib.hid (HB1.out.trans (hb3.mono HB1.out.size)); have HC1 := Lib.hid (HA.out.below hb3); clear hb3))))
  go_ret
  exact ⟨rfl, HB4.out⟩

theorem reads_any (r : List Int) (hb : ∀ c ∈ r, 0 ≤ c ∧ c ≤ 255) (A : Option Addr) (cap : Nat) (at_ m : Int) (w : World) (hh : Has w w.heap.size A cap r) :
    Calls Try.prog 4 #[.slice A r.length cap, .int .i64 at_, .int .i64 m] w fun e w' => e = .returned (.bool true) ∧ Below w.heap.size w w' := by
  by_cases h : r.length ≤ 1000
  · exact reads_short r hb A cap at_ m w hh h
  · exact reads_long r.length A cap at_ m w (by omega) (Nat.le_trans hh.room hh.most)
end Go.Proofs.Ytjgghgfljkpemaa
