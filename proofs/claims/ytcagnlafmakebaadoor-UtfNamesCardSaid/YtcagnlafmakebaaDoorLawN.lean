/- The walk of UtfNames. -/
import Derived.Test.YtcagnlafmakebaaDoorLib
import Derived.Test.YtcagnlafmakebaaDoorAwake
namespace Go.Proofs.YtcagnlafmakebaaDoor
open Go.RowKit Go.Lib

set_option maxRecDepth 100000 in
set_option maxHeartbeats 2000000 in
theorem names_any (s : ByteArray) (times : Int) (w : World) (hT : Tabs w) (t0 : 0 ≤ times) (t1 : times ≤ 255) : Calls Tryd.prog 4 #[.string s, .int .u8 times] w fun e w' => e = .returned (.bool true) ∧ Below w.heap.size w w' := by
  by_cases h1 : 300 < s.size
  · go_enter Tryd.func4, Tryd.ntmps4
    go_wp2_with (first
      | (go_at_call 5; go_must (refine (awake_any _).mono ?_; rintro e w' ⟨rfl, hb⟩; have HB := Lib.hid hb; clear hb)))
    go_ret
    exact ⟨rfl, HB.out⟩
  · have d1 : decide ((300 : Int) < (s.size : Int)) = false := by simp; omega
    obtain ⟨l, rfl⟩ : ∃ l, s = S l := ⟨_, (S_of s).symm⟩
    have hs : (S l).size ≤ 300 := by omega
    go_enter Tryd.func4, Tryd.ntmps4
    go_wp2_with (first
      | (go_at_call 5; go_must (refine (awake_any _).mono ?_; rintro e w1 ⟨rfl, hb⟩; have HB := Lib.hid hb; clear hb)))
    go_loop [5, 6] (fun t i => ∃ (m : List UInt8) (k : Nat), t = .string (S m) ∧ i = .int .i64 k ∧ k ≤ 8 ∧ m.length ≤ 300 * (k + 1)) (fun _ i => 8 - (RowKit.intOf i).toNat)
    case atStart => exact ⟨l, 0, rfl, rfl, by omega, by rw [S_size] at hs; omega⟩
    case round =>
      obtain ⟨m, k, rfl, rfl, hk, hm⟩ := hrel
      have hms : (S m).size ≤ 3000 := by rw [S_size]; omega
      by_cases hlt : (k : Int) < times % 8
      · go_wp2
        go_round
        case rel => exact ⟨m ++ l, k + 1, by rw [S_append], by go_num, by omega, by rw [List.length_append]; rw [S_size] at hs; omega⟩
        case measure => simp [RowKit.intOf]; omega
      · have hd : decide ((k : Int) < times % 8) = false := by simpa using hlt
        have hm2 : m.length ≤ 1000000 := by omega
        have hT1 := hT.below HB.out
        by_cases h2 : 200 < m.length
        · have e : checkZ m = 13 := by unfold checkZ; rw [if_pos h2]
          have h2' : 200 < (S m).size := by rw [S_size]; exact h2
          have HE := Lib.hid e
          clear e
          go_wp2_with (first
            | (go_at_call 12; go_must (refine (check_any m _ hm2 hT1).mono ?_; rintro e w2 ⟨rfl, hb⟩; rw [HE.out]; have H2 := Lib.hid hb; clear hb)))
          go_ret
          exact ⟨rfl, two HB.out (Nat.le_refl _) H2.out⟩
        · have hd2 : decide ((200 : Int) < ((S m).size : Int)) = false := by rw [S_size]; simp; omega
          by_cases hv : validD m = true
          · have e : checkZ m = 0 := by unfold checkZ; rw [if_neg h2, if_pos hv]
            have ec : 0 ≤ countZ m := by unfold countZ; rw [if_pos hv]; omega
            have HE := Lib.hid e
            clear e
            go_wp2_with (first
              | (go_at_call 12; go_must (refine (check_any m _ hm2 hT1).mono ?_; rintro e w2 ⟨rfl, hb⟩; rw [HE.out]; have H2 := Lib.hid hb; clear hb))
              | (go_at_call 8; go_must (refine (refCount_any m _ hm2).mono ?_; rintro e w3 ⟨rfl, hb⟩; have H3 := Lib.hid hb; clear hb)))
            go_ret
            exact ⟨rfl, two (two HB.out (Nat.le_refl _) H2.out) (Nat.le_refl _) H3.out⟩
          · have e : checkZ m = 4 := by unfold checkZ; rw [if_neg h2, if_neg hv]
            have ec : countZ m = -1 := by unfold countZ; rw [if_neg hv]
            have HE := Lib.hid e
            have HC := Lib.hid ec
            clear e ec hv
            go_wp2_with (first
              | (go_at_call 12; go_must (refine (check_any m _ hm2 hT1).mono ?_; rintro e w2 ⟨rfl, hb⟩; rw [HE.out]; have H2 := Lib.hid hb; clear hb))
              | (go_at_call 8; go_must (refine (refCount_any m _ hm2).mono ?_; rintro e w3 ⟨rfl, hb⟩; rw [HC.out]; have H3 := Lib.hid hb; clear hb)))
            go_ret
            exact ⟨rfl, two (two HB.out (Nat.le_refl _) H2.out) (Nat.le_refl _) H3.out⟩
end Go.Proofs.YtcagnlafmakebaaDoor
