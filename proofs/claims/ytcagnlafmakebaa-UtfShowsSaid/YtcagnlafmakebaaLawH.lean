/- The walk of UtfShows. -/
import Derived.Test.YtcagnlafmakebaaRefRead
import Derived.Test.YtcagnlafmakebaaAwake
namespace Go.Proofs.Ytcagnlafmakebaa
open Go.RowKit

theorem two {B : Nat} {a w1 w2 : World} (h : Below B a w1) (hB : B ≤ a.heap.size) (k : Below w1.heap.size w1 w2) : Below B a w2 := h.trans (k.mono (Nat.le_trans hB h.size))

set_option maxRecDepth 100000 in
set_option maxHeartbeats 2000000 in
theorem shows_any (s t : ByteArray) (w : World) : Calls Try.prog 3 #[.string s, .string t] w fun e w' => e = .returned (.bool true) ∧ Below w.heap.size w w' := by
  by_cases h1 : 300 < s.size
  · go_enter Try.func3, Try.ntmps3
    go_wp2_with (first
      | (go_at_call 4; go_must (refine (awake_any _).mono ?_; rintro e w' ⟨rfl, hb⟩; have HB := Lib.hid hb; clear hb)))
    go_ret
    exact ⟨rfl, HB.out⟩
  · have d1 : decide ((300 : Int) < (s.size : Int)) = false := by simp; omega
    by_cases h2 : 300 < t.size
    · go_enter Try.func3, Try.ntmps3
      go_wp2_with (first
        | (go_at_call 4; go_must (refine (awake_any _).mono ?_; rintro e w' ⟨rfl, hb⟩; have HB := Lib.hid hb; clear hb)))
      go_ret
      exact ⟨rfl, HB.out⟩
    · have d2 : decide ((300 : Int) < (t.size : Int)) = false := by simp; omega
      obtain ⟨l, rfl⟩ : ∃ l, s = S l := ⟨_, (S_of s).symm⟩
      obtain ⟨m, rfl⟩ : ∃ m, t = S m := ⟨_, (S_of t).symm⟩
      have z1 : l.length ≤ 300 := by rw [S_size] at h1; omega
      have z2 : m.length ≤ 300 := by rw [S_size] at h2; omega
      have z3 : (showL l).length ≤ 100000 := by rw [showL_length]; have := (codes_length l).2; omega
      go_enter Try.func3, Try.ntmps3
      go_wp2_with (first
        | (go_at_call 4; go_must (refine (awake_any _).mono ?_; rintro e w' ⟨rfl, hb⟩; have HB := Lib.hid hb; clear hb)))
      have HB0 : Below w.heap.size w _ := HB.out
      have H0 := Lib.hid HB0
      clear HB0 HB
      refine (show_any l _ (by omega)).mono ?_
      rintro e w1 ⟨rfl, hb1⟩
      have H1 := Lib.hid (two H0.out (Nat.le_refl _) hb1)
      clear hb1 H0
      go_wp2_with fail
      refine (read_any (showL l) _ z3).mono ?_
      rintro e w2 ⟨y, ok, rfl, hr, hb2⟩
      obtain ⟨rfl, rfl⟩ := hr.of_show
      have H2 := Lib.hid (two H1.out (Nat.le_refl _) hb2)
      clear hb2 H1 hr
      go_wp2_with fail
      refine (read_any m _ (by omega)).mono ?_
      rintro e w3 ⟨u, is, rfl, hr, hb3⟩
      have H3 := Lib.hid (two H2.out (Nat.le_refl _) hb3)
      clear hb3 H2
      go_wp2_with fail
      refine (refRead_any m _ (by omega)).mono ?_
      rintro e w4 ⟨u', is', rfl, hr', hb4⟩
      obtain ⟨rfl, rfl⟩ := hr.unique hr'
      have H4 := Lib.hid (two H3.out (Nat.le_refl _) hb4)
      clear hb4 H3 hr'
      have e1 : ((S (showL y)).toList == (S (showL y)).toList) = true := by simp
      have e2 : ((S y).toList == (S y).toList) = true := by simp
      have e3 : ((S u).toList == (S u).toList) = true := by simp
      go_wp2_with fail
      refine (refShow_any y _ (by omega)).mono ?_
      rintro e w5 ⟨rfl, q, rfl⟩
      have H5 := Lib.hid (below_drewN H4.out q)
      clear H4
      rcases hr with ⟨rfl, hsh⟩ | ⟨rfl, rfl, _⟩
      · have hu : u.length ≤ 300 := by
          have := congrArg List.length hsh
          rw [showL_length] at this
          have := (codes_length u).1
          omega
        have e4 : ((S (showL u)).toList == (S m).toList) = true := by rw [hsh]; simp
        clear hsh
        go_wp2_with fail
        refine (show_any u _ (by omega)).mono ?_
        rintro e w6 ⟨rfl, hb6⟩
        have H6 := Lib.hid (two H5.out (Nat.le_refl _) hb6)
        clear hb6 H5
        go_wp2
        go_ret
        exact ⟨rfl, H6.out⟩
      · go_wp2
        go_ret
        exact ⟨rfl, H5.out⟩
end Go.Proofs.Ytcagnlafmakebaa
