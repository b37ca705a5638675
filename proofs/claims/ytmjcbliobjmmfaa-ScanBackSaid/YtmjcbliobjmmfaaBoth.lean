/- Both readers, each beside the reference: the same answer. -/
import Derived.Test.YtmjcbliobjmmfaaRefR
namespace Go.Proofs.Ytmjcbliobjmmfaa
open Go.RowKit
set_option linter.unusedVariables false

theorem low_take {q : List Int} {p : Nat} {c : Int} (hpc : q[p]? = some c) (c0 : 0 ≤ c) (c2 : c < 128) : low (q.take (p + 1)) = numU (q.take p) c := by
  have hp := (List.getElem?_eq_some_iff.1 hpc).1
  rw [take_snoc hpc, low_snoc]
  unfold numU
  rw [Int.emod_eq_of_lt c0 c2]
theorem take_len {q : List Int} {p : Nat} {c : Int} (hpc : q[p]? = some c) : (q.take p).length = p := by
  have hp := (List.getElem?_eq_some_iff.1 hpc).1
  rw [List.length_take]; omega
theorem num_bd {q : List Int} {p : Nat} {c : Int} (hpc : q[p]? = some c) (c0 : 0 ≤ c) (c2 : c < 128) : 0 ≤ numU (q.take p) c ∧ numU (q.take p) c < 2 ^ (7 * (p + 1)) := by
  have hp := (List.getElem?_eq_some_iff.1 hpc).1
  have h := low_bd (q.take (p + 1))
  rw [low_take hpc c0 c2, List.length_take, show min (p + 1) q.length = p + 1 by omega] at h
  exact h
theorem ext_signed {q : List Int} {p : Nat} {c : Int} (hpc : q[p]? = some c) (c0 : 0 ≤ c) (c2 : c < 128) : ext true (numU (q.take p) c) (7 * (p + 1)) = numS (q.take p) c := by
  obtain ⟨b0, b1⟩ := num_bd hpc c0 c2
  have hb := bit_top (m := 7 * (p + 1)) (by omega) b0 b1
  obtain ⟨l0, l1⟩ := low_bd (q.take p)
  unfold ext
  unfold numS numU at *
  rw [take_len hpc] at *
  rw [hb]
  have e1 : (2 : Int) ^ (7 * (p + 1) - 1) = 64 * 2 ^ (7 * p) := by rw [show 7 * (p + 1) - 1 = 7 * p + 6 by omega, Int.pow_add, Int.mul_comm]; rfl
  have e2 : (2 : Int) ^ (7 * (p + 1)) = 128 * 2 ^ (7 * p) := by rw [show 7 * (p + 1) = 7 * p + 7 by omega, Int.pow_add, Int.mul_comm]; rfl
  rw [e1, e2]
  unfold sg
  generalize (2 : Int) ^ (7 * p) = t at *
  by_cases h : 64 ≤ c
  · have : 64 * t ≤ low (q.take p) + c * t := by
      have := Int.mul_le_mul_of_nonneg_right h (show 0 ≤ t by omega)
      omega
    simp only [this, decide_true, Bool.and_self, if_true, if_pos h]
    grind
  · have : ¬ 64 * t ≤ low (q.take p) + c * t := by
      have := Int.mul_le_mul_of_nonneg_right (show c ≤ 63 by omega) (show 0 ≤ t by omega)
      omega
    simp only [this, decide_false, Bool.and_false, Bool.false_eq_true, if_false, if_neg h]

/-- What is asked of a slice that comes in: it reads as these bytes. -/
structure Has (w : World) (B : Nat) (A : Option Addr) (cap : Nat) (r : List Int) : Prop where
  lies : Lies w B A (cells r)
  low_ : B ≤ w.heap.size
  room : r.length ≤ cap
  most : cap ≤ maxLen

end Go.Proofs.Ytmjcbliobjmmfaa

