/- creelref03.Count. -/
import Derived.Test.YtcagnlafmakebaaDoorRefFirst
namespace Go.Proofs.YtcagnlafmakebaaDoor
open Go.RowKit Go.Lib

def strLen : Value → Nat
  | .string s => s.size
  | _ => 0
theorem run_tail {n : Nat} {l : List UInt8} (h : n ≤ l.length) (w : World) : (Instr.slice 9 (.string (S l)) (some (.int .i64 (n : Int))) none none).run Tryd.prog w = .ok (.string (S (l.drop n))) w := by
  have h := run_slice_string_l (P := Tryd.prog) w 9 (S l) Tryd.underlying9 .i64 (n : Int) (by omega) (by rw [S_size]; omega)
  rw [h, S_extract, S_size, show ((n : Int)).toNat = n from rfl, List.take_of_length_le (by simp)]
theorem countZ_nil : countZ [] = 0 := by decide
theorem ret_val {k : IntKind} {a b : Int} (h : a = b) : Ending.returned (.int k a) = .returned (.int k b) := by rw [h]

set_option maxHeartbeats 1000000 in
theorem refCount_any (l : List UInt8) (w : World) (hl : l.length ≤ 1000000) : Calls Tryd.prog 8 #[.string (S l)] w fun e w' => e = .returned (.int .i64 (countZ l)) ∧ Below w.heap.size w w' := by
  go_enter Tryd.func8, Tryd.ntmps8
  go_wp2
  go_loopw [0, 3] (fun v c wr => ∃ (r : List UInt8) (k : Nat), v = .string (S r) ∧ c = .int .i64 k ∧ validD l = validD r ∧ runeCountL l = k + runeCountL r ∧ r.length ≤ 1000000 ∧ Below w.heap.size w wr) (fun v _ _ => strLen v)
  case atStart => exact ⟨l, 0, rfl, rfl, rfl, by omega, hl, Below.refl _ _⟩
  case round =>
    obtain ⟨r, k, rfl, rfl, hv, hc, hr, hbe⟩ := hrel
    have HB := Lib.hid hbe
    have hk : k ≤ 1000000 := by have := count_le l; omega
    clear hbe
    by_cases h0 : r = []
    · subst h0
      have e : countZ l = (k : Int) := by
        unfold countZ
        rw [if_pos (by rw [hv]; rfl), hc]
        have : runeCountL [] = 0 := rfl
        omega
      have HE := Lib.hid e
      have hz : (S []).size = 0 := rfl
      clear hv hc e
      go_wp2
      go_ret
      exact ⟨ret_val HE.out.symm, HB.out⟩
    · have hlen : 0 < r.length := List.length_pos_iff.2 h0
      have hz : 0 < (S r).size := by rw [S_size]; exact hlen
      have hle := firstN_le r
      by_cases hn : (firstN r).2 = 0
      · have e : countZ l = -1 := by
          unfold countZ
          rw [if_neg (by rw [hv, valid_none h0 hn]; simp)]
        have HE := Lib.hid e
        have HH := Lib.hid hn
        clear hv hc e hn
        go_wp2_with fail
        refine (refFirst_any r _ hr).mono ?_
        rintro e w1 ⟨rfl, hb1⟩
        rw [HH.out]
        have H1 := Lib.hid (two HB.out (Nat.le_refl _) hb1)
        clear hb1 HB
        go_wp2
        go_ret
        exact ⟨ret_val HE.out.symm, H1.out⟩
      · have hv2 := valid_some h0 hn
        have hc2 := count_some h0 hn
        have hsl := run_tail (n := (firstN r).2) (l := r) hle.2.1
        have hlt : strLen (.string (S (r.drop (firstN r).2))) < strLen (.string (S r)) := by
          show (S _).size < (S _).size
          rw [S_size, S_size, List.length_drop]; omega
        have hr2 : (r.drop (firstN r).2).length ≤ 1000000 := by rw [List.length_drop]; omega
        have HV := Lib.hid (hv.trans hv2)
        have HC := Lib.hid (show runeCountL l = (k + 1) + runeCountL (r.drop (firstN r).2) by omega)
        have HL := Lib.hid hlt
        have HR := Lib.hid hr2
        have hne : (((firstN r).2 : Int) == 0) = false := beq_eq_false_iff_ne.2 (by omega)
        clear hv hc hv2 hc2 hlt hr2
        go_wp2_with fail
        refine (refFirst_any r _ hr).mono ?_
        rintro e w1 ⟨rfl, hb1⟩
        have H1 := Lib.hid (two HB.out (Nat.le_refl _) hb1)
        clear hb1 HB
        generalize (firstN r).2 = n at *
        generalize (firstN r).1 = v at *
        go_wp2
        go_roundw
        case rel => exact ⟨_, k + 1, rfl, by go_num, HV.out, HC.out, HR.out, H1.out⟩
        case measure => exact HL.out
end Go.Proofs.YtcagnlafmakebaaDoor
