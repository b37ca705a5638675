/- The walk of UtfSigns. -/
import Derived.Test.YtcagnlafmakebaaDoorValid
import Derived.Test.YtcagnlafmakebaaDoorAwake
import Derived.Laws.IdiomStrings
namespace Go.Proofs.YtcagnlafmakebaaDoor
open Go.RowKit Go.Lib

theorem right_any (l : List UInt8) (b off cap : Nat) (w : World) (hl : l.length ≤ 1000000) (hcap : l.length ≤ cap) (hT : Tabs w) (hp : Bys w b off l) :
    Calls Tryd.prog 10 #[.slice (some ⟨b, off, none⟩) l.length cap] w fun e w' => e = .returned (.bool (validD l)) ∧ Below w.heap.size w w' := by
  have hv := valid_slice (S l) b off cap w (by rw [S_size]; omega) (by rw [S_size]; omega) hT (Bya.of_bys hp)
  rw [S_list, S_size] at hv
  have HV := Lib.hid hv
  clear hv hp
  go_enter Tryd.func10, Tryd.ntmps10
  go_wp2_with (first
    | (go_at_call 17; go_must (refine HV.out.mono ?_; rintro e w1 ⟨rfl, hb1⟩; have H1 := Lib.hid hb1; clear hb1)))
  go_ret
  exact ⟨rfl, H1.out⟩

/-- []byte(s). -/
theorem conv_bytes (w : World) (z : ByteArray) (l : List UInt8) (hz : S l = z) : ∃ cap W, (convert 9 25 (.string z)).run Tryd.prog w = .ok (.slice (some ⟨w.heap.size, 0, none⟩) l.length cap) W ∧ l.length ≤ cap ∧ Bys W w.heap.size 0 l ∧ Below w.heap.size w W := by
  subst hz
  have h := run_bytes_of_string (P := Tryd.prog) w 9 25 5 (S l) Tryd.underlying9 Tryd.underlying25 Tryd.underlying5
  have hg := grownCap_ge w (S l).size 0 5
  rw [S_size] at h hg
  refine ⟨_, _, h, hg, fun j hj => ?_, (Below.refl _ _).drew.alloc (Nat.le_refl _) _⟩
  rw [Nat.zero_add]
  have hr : (bytesRow (S l) (grownCap w l.length 0 5))[j]? = some (.int .u8 ((l[j]'hj).toNat : Int)) := by
    unfold bytesRow S
    simp [Array.getElem?_append, hj]
  rw [← hr]
  exact cell_of_row _ w.heap.size j _ _ _ (heap_alloc_new w.drew _)

theorem same_valid (l : List UInt8) : (!(validD l == decide (0 ≤ countZ l))) = false := by
  unfold countZ
  by_cases hv : validD l = true
  · rw [if_pos hv, hv]; simp
  · have hv' : validD l = false := by simpa using hv
    rw [if_neg hv, hv']; rfl

set_option maxRecDepth 100000 in
set_option maxHeartbeats 4000000 in
theorem signs_any (s : ByteArray) (c : Int) (w : World) (hT : Tabs w) (c0 : -2147483648 ≤ c) (c1 : c ≤ 2147483647) : Calls Tryd.prog 3 #[.string s, .int .i32 c] w fun e w' => e = .returned (.bool true) ∧ Below w.heap.size w w' := by
  by_cases h1 : 1000 < s.size
  · go_enter Tryd.func3, Tryd.ntmps3
    go_wp2_with (first
      | (go_at_call 5; go_must (refine (awake_any _).mono ?_; rintro e w' ⟨rfl, hb⟩; have HB := Lib.hid hb; clear hb)))
    go_ret
    exact ⟨rfl, HB.out⟩
  · have d1 : decide ((1000 : Int) < (s.size : Int)) = false := by simp; omega
    obtain ⟨l, rfl⟩ : ∃ l, s = S l := ⟨_, (S_of s).symm⟩
    have hs : (S l).size ≤ 1000 := by omega
    have hl : l.length ≤ 1000 := by rw [S_size] at hs; exact hs
    go_enter Tryd.func3, Tryd.ntmps3
    go_wp2_with fail
    refine (awake_any _).mono ?_
    rintro e w1 ⟨rfl, hb1⟩
    have H1 := Lib.hid hb1
    clear hb1
    obtain ⟨cap, W, hconv, hcap, hbys, hbW⟩ := conv_bytes w1 (S l) l rfl
    have HBY := Lib.hid hbys
    have H2 := Lib.hid (two H1.out (Nat.le_refl _) hbW)
    clear hbys hbW H1
    go_wp2_with fail
    refine (first_any l _ _ cap _ (hT.below H2.out) HBY.out).mono ?_
    rintro e w3 ⟨rfl, hb3⟩
    have H3 := Lib.hid (two H2.out (Nat.le_refl _) hb3)
    clear hb3 H2 HBY hconv hcap
    go_wp2_with fail
    refine (refFirst_any l _ (by omega)).mono ?_
    rintro e w4 ⟨rfl, hb4⟩
    have H4 := Lib.hid (two H3.out (Nat.le_refl _) hb4)
    clear hb4 H3
    have hf := firstN_le l
    generalize hf1 : (firstN l).1 = f1 at *
    generalize hf2 : (firstN l).2 = f2 at *
    clear hf1 hf2
    go_wp2_with fail
    refine (refCount_any l _ (by omega)).mono ?_
    rintro e w5 ⟨rfl, hb5⟩
    have H5 := Lib.hid (two H4.out (Nat.le_refl _) hb5)
    clear hb5 H4
    have e1 : ((f1 : Int) != (f1 : Int)) = false := by simp
    have e2 : ((f2 : Int) != (f2 : Int)) = false := by simp
    have e3 : (countZ l != countZ l) = false := by simp
    have e4 := same_valid l
    go_wp2_with fail
    refine (count_any l _ (by omega) (hT.below H5.out)).mono ?_
    rintro e w6 ⟨rfl, hb6⟩
    have H6 := Lib.hid (two H5.out (Nat.le_refl _) hb6)
    clear hb6 H5
    obtain ⟨cap, W, hconv, hcap, hbys, hbW⟩ := conv_bytes w6 (S l) l rfl
    have HBY := Lib.hid hbys
    have H7 := Lib.hid (two H6.out (Nat.le_refl _) hbW)
    clear hbys hbW H6
    go_wp2_with fail
    refine (right_any l _ _ cap _ (by omega) hcap (hT.below H7.out) HBY.out).mono ?_
    rintro e w8 ⟨rfl, hb8⟩
    have H8 := Lib.hid (two H7.out (Nat.le_refl _) hb8)
    clear hb8 H7 HBY hconv hcap
    generalize validD l = v at *
    generalize countZ l = k at *
    go_wp2_with fail
    refine (bytes_any c _).mono ?_
    intro e w9 hb9
    have H9 := Lib.hid (two H8.out (Nat.le_refl _) hb9.below)
    obtain ⟨rfl, _⟩ := hb9
    clear H8
    obtain ⟨o, ho⟩ : ∃ o, bytesZ c = o := ⟨_, rfl⟩
    have ho4 : o.length ≤ 4 := by
      rw [← ho]; unfold bytesZ
      split
      · simp
      · exact bytesN_len _
    rw [ho]
    have HO := Lib.hid ho
    clear ho
    have hos : (S o).size ≤ 4 := by rw [S_size]; exact ho4
    obtain ⟨m, hm⟩ : ∃ m, o ++ l = m := ⟨_, rfl⟩
    obtain ⟨cap, W, hconv, hcap, hbys, hbW⟩ := conv_bytes w9 (S o ++ S l) m (by rw [← hm, S_append])
    have HM := Lib.hid hm
    clear hm
    have HBY := Lib.hid hbys
    have H10 := Lib.hid (two H9.out (Nat.le_refl _) hbW)
    clear hbys hbW H9
    go_wp2_with fail
    refine (first_any m _ _ cap _ (hT.below H10.out) HBY.out).mono ?_
    rintro e w11 ⟨rfl, hb11⟩
    have H11 := Lib.hid (two H10.out (Nat.le_refl _) hb11)
    clear hb11 H10 HBY hconv hcap
    by_cases he : o = []
    · subst he
      have e5 : (S []).toList.isEmpty = true := by rw [S_toList]; rfl
      go_wp2
      go_ret
      exact ⟨rfl, H11.out⟩
    · have e5 : (S o).toList.isEmpty = false := by
        rw [S_toList]
        cases o with
        | nil => exact absurd rfl he
        | cons a r => rfl
      have hc : 0 ≤ c := by
        by_cases h : c < 0
        · exact absurd (HO.out.symm.trans (by unfold bytesZ; rw [if_pos h])) he
        · omega
      have hn : bytesN c.toNat = o := by rw [← HO.out]; unfold bytesZ; rw [if_neg (by omega)]
      have hfirst : firstN m = (c.toNat, o.length) := by rw [← HM.out, ← hn]; exact first_bytes (by rw [hn]; exact he)
      have g1 : ((firstN m).1 : Int) = c := by rw [hfirst]; show ((c.toNat : Nat) : Int) = c; omega
      have g2 : ((firstN m).2 : Int) = ((S o).size : Int) := by rw [hfirst, S_size]
      rw [g1, g2]
      clear g1 g2 hfirst hn he
      have e6 : (c == c) = true := by simp
      have e7 : (((S o).size : Int) == ((S o).size : Int)) = true := by simp
      go_wp2
      go_ret
      exact ⟨rfl, H11.out⟩
end Go.Proofs.YtcagnlafmakebaaDoor
