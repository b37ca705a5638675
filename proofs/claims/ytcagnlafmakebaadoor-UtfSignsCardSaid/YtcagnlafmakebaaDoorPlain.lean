/- utf.plain. -/
import Derived.Test.YtcagnlafmakebaaDoorCode
import Derived.WalkKit
import Derived.Lib.Hide
import Derived.Deep.DeepMust
namespace Go.Proofs.YtcagnlafmakebaaDoor
open Go.RowKit

theorem plainB_true {a : UInt8} (h : plainB a = true) : 32 ≤ a.toNat ∧ a.toNat ≤ 126 ∧ a.toNat ≠ 34 ∧ a.toNat ≠ 92 := by
  unfold plainB at h
  simpa [and_assoc] using h
theorem plainB_false {a : UInt8} (h : plainB a = false) : a.toNat < 32 ∨ 126 < a.toNat ∨ a.toNat = 34 ∨ a.toNat = 92 := by
  unfold plainB at h
  simp at h
  omega

theorem plain_walk (c : Int) (w : World) (b : Bool) (hb : b = (decide (32 ≤ c) && decide (c ≤ 126) && !(c == 34) && !(c == 92))) :
    Calls Tryd.prog 18 #[.int .u8 c] w fun e w' => e = .returned (.bool b) ∧ w = w' := by
  by_cases a1 : 32 ≤ c
  · by_cases a2 : c ≤ 126
    · by_cases a3 : c = 34
      · have b3 : (c == 34) = true := by simpa using a3
        have b3' : (c != 34) = false := by simpa using a3
        obtain rfl : b = false := by rw [hb, b3]; simp
        clear a3 hb
        go_enter Tryd.func18, Tryd.ntmps18
        go_wp2
        go_ret
        exact ⟨rfl, rfl⟩
      · have b3 : (c == 34) = false := by simpa using a3
        have b3' : (c != 34) = true := by simpa using a3
        by_cases a4 : c = 92
        · have b4 : (c == 92) = true := by simpa using a4
          have b4' : (c != 92) = false := by simpa using a4
          obtain rfl : b = false := by rw [hb, b4]; simp
          clear a4 hb
          go_enter Tryd.func18, Tryd.ntmps18
          go_wp2
          go_ret
          exact ⟨rfl, rfl⟩
        · have b4 : (c == 92) = false := by simpa using a4
          have b4' : (c != 92) = true := by simpa using a4
          obtain rfl : b = true := by rw [hb, b3, b4]; simp [a1, a2]
          clear hb
          go_enter Tryd.func18, Tryd.ntmps18
          go_wp2
          go_ret
          exact ⟨rfl, rfl⟩
    · have b2 : decide (c ≤ 126) = false := by simpa using a2
      obtain rfl : b = false := by rw [hb, b2]; simp
      clear hb
      go_enter Tryd.func18, Tryd.ntmps18
      go_wp2
      go_ret
      exact ⟨rfl, rfl⟩
  · have b1 : decide (32 ≤ c) = false := by simpa using a1
    obtain rfl : b = false := by rw [hb, b1]; simp
    clear hb
    go_enter Tryd.func18, Tryd.ntmps18
    go_wp2
    go_ret
    exact ⟨rfl, rfl⟩

theorem plain_yes (c : Int) (w : World) (a : UInt8) (hc : c = (a.toNat : Int)) (h : plainB a = true) :
    Calls Tryd.prog 18 #[.int .u8 c] w fun e w' => e = .returned (.bool true) ∧ w = w' := by
  obtain ⟨h1, h2, h3, h4⟩ := plainB_true h
  subst hc
  have b3 : (((a.toNat : Nat) : Int) == 34) = false := by simp; omega
  have b4 : (((a.toNat : Nat) : Int) == 92) = false := by simp; omega
  refine plain_walk _ w true ?_
  rw [b3, b4, decide_eq_true (by omega), decide_eq_true (by omega)]; rfl
theorem plain_no (c : Int) (w : World) (a : UInt8) (hc : c = (a.toNat : Int)) (h : plainB a = false) :
    Calls Tryd.prog 18 #[.int .u8 c] w fun e w' => e = .returned (.bool false) ∧ w = w' := by
  have h1 := plainB_false h
  subst hc
  refine plain_walk _ w false ?_
  rcases h1 with h1 | h1 | h1 | h1
  · rw [decide_eq_false (by omega)]; rfl
  · rw [decide_eq_false (p := (a.toNat : Int) ≤ 126) (by omega)]; simp
  · rw [h1]; decide
  · rw [h1]; decide
end Go.Proofs.YtcagnlafmakebaaDoor
