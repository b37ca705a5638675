/- Plain mathematics: the bits of a varint's number, with and without a sign; when it fits. -/
import Derived.Test.YtmjcbliobjmmfaaRead
namespace Go.Proofs.Ytmjcbliobjmmfaa
open Go.RowKit
set_option linter.unusedVariables false

theorem bit_step (d x : Int) (i : Nat) : bit (d % 128 + 128 * x) (7 + i) = bit x i := by
  rw [← bit_div]
  have e : (d % 128 + 128 * x) / 2 ^ 7 = x := by
    show (d % 128 + 128 * x) / 128 = x
    omega
  rw [e]
theorem bit_byte (d x : Int) (i : Nat) (hi : i < 7) : bit (d % 128 + 128 * x) i = bit d i := by
  unfold bit
  have h : i = 0 ∨ i = 1 ∨ i = 2 ∨ i = 3 ∨ i = 4 ∨ i = 5 ∨ i = 6 := by omega
  have key : (d % 128 + 128 * x) / 2 ^ i % 2 = d / 2 ^ i % 2 := by
    rcases h with rfl | rfl | rfl | rfl | rfl | rfl | rfl <;> simp <;> omega
  rw [key]
theorem bit_low : ∀ (l : List Int) (j i : Nat) (c : Int), i < 7 → l[j]? = some c → bit (low l) (7 * j + i) = bit c i
  | [], j, i, c, _, h => by simp at h
  | d :: r, 0, i, c, hi, h => by
    have : d = c := by simpa using h
    subst this
    rw [Nat.mul_zero, Nat.zero_add]
    exact bit_byte d _ i hi
  | d :: r, j + 1, i, c, hi, h => by
    have ih := bit_low r j i c hi (by simpa using h)
    rw [show 7 * (j + 1) + i = 7 + (7 * j + i) by omega, ← ih]
    exact bit_step d _ _

/-- The number of n bits, m of them known: with a sign, or without. -/
def ext (s : Bool) (N : Int) (m : Nat) : Int := if s && bit N (m - 1) then N - 2 ^ m else N
theorem ext_low (s : Bool) (N : Int) (m j : Nat) (h : j < m) : bit (ext s N m) j = bit N j := by
  unfold ext
  split
  · unfold bit
    have e : (2 : Int) ^ m = 2 ^ j * 2 * 2 ^ (m - j - 1) := by
      rw [show (2 : Int) ^ j * 2 = 2 ^ (j + 1) from (Int.pow_succ 2 j).symm, ← Int.pow_add]; congr 1; omega
    have hp := p2 j
    have e2 : N - 2 ^ m = N + 2 ^ j * (2 * -2 ^ (m - j - 1)) := by rw [e]; generalize (2 : Int) ^ (m - j - 1) = t; generalize (2 : Int) ^ j = u; grind
    rw [e2, Int.add_mul_ediv_left _ _ (Int.ne_of_gt hp)]
    congr 1
    omega
  · rfl
theorem ext_bd (s : Bool) {N : Int} {m : Nat} (hm : 1 ≤ m) (h0 : 0 ≤ N) (h1 : N < 2 ^ m) : -2 ^ m ≤ ext s N m ∧ ext s N m < 2 ^ m := by
  unfold ext
  have := p2 m
  split <;> omega
theorem bit_top {N : Int} {m : Nat} (hm : 1 ≤ m) (h0 : 0 ≤ N) (h1 : N < 2 ^ m) : bit N (m - 1) = decide (2 ^ (m - 1) ≤ N) := by
  have e : (2 : Int) ^ m = 2 * 2 ^ (m - 1) := by rw [show m = m - 1 + 1 by omega, Int.pow_succ, Int.mul_comm]; rfl
  have hp := p2 (m - 1)
  unfold bit
  by_cases h : 2 ^ (m - 1) ≤ N
  · have : N / 2 ^ (m - 1) = 1 := by rw [Int.ediv_eq_iff_of_pos hp]; constructor <;> omega
    rw [this]; simp [h]
  · have : N / 2 ^ (m - 1) = 0 := Int.ediv_eq_zero_of_lt h0 (by omega)
    rw [this]; simp [h]
theorem ext_over (s : Bool) {N : Int} {m : Nat} (hm : 1 ≤ m) (h0 : 0 ≤ N) (h1 : N < 2 ^ m) : ext s N m / 2 ^ m = if s && bit N (m - 1) then -1 else 0 := by
  unfold ext
  split
  · rw [Int.ediv_eq_iff_of_pos (p2 m)]; constructor <;> omega
  · exact Int.ediv_eq_zero_of_lt h0 h1
theorem ext_high (s : Bool) {N : Int} {m : Nat} (hm : 1 ≤ m) (h0 : 0 ≤ N) (h1 : N < 2 ^ m) (j : Nat) (hj : m ≤ j) : bit (ext s N m) j = (s && bit N (m - 1)) :=
  from_same (ext_over s hm h0 h1) j hj

/-- The sign that is asked for above the lowest n bits. -/
def topB (s : Bool) (N : Int) (m n : Nat) : Bool := s && bit N (min n m - 1)
/-- All known bits above the lowest n are the sign. -/
def Good (s : Bool) (N : Int) (m n : Nat) : Prop := ∀ j, n ≤ j → j < m → bit N j = topB s N m n

theorem good_ext {s : Bool} {N : Int} {m n : Nat} (hm : 1 ≤ m) (h0 : 0 ≤ N) (h1 : N < 2 ^ m) (hg : Good s N m n) (i : Nat) (hi : n ≤ i ∨ m ≤ i) : bit (ext s N m) i = topB s N m n := by
  rcases Nat.lt_or_ge i m with g | g
  · rw [ext_low s N m i g]; exact hg i (by omega) g
  · rw [ext_high s hm h0 h1 i g]
    rcases Nat.lt_or_ge n m with k | k
    · have h2 := hg (m - 1) (by omega) (by omega)
      rw [h2]
      unfold topB
      cases s <;> simp
    · unfold topB
      rw [Nat.min_eq_right k]
/-- It fits n bits. -/
def Fits (s : Bool) (X : Int) (n : Nat) : Prop := if s then X / 2 ^ (n - 1) = 0 ∨ X / 2 ^ (n - 1) = -1 else X / 2 ^ n = 0
theorem good_fits {s : Bool} {N : Int} {m n : Nat} (hm : 1 ≤ m) (hn : 1 ≤ n) (h0 : 0 ≤ N) (h1 : N < 2 ^ m) : Good s N m n ↔ Fits s (ext s N m) n := by
  obtain ⟨b1, b2⟩ := ext_bd s hm h0 h1
  have mm := mono2 (Nat.le_max_left m n)
  constructor
  · intro hg
    have hx := good_ext hm h0 h1 hg
    cases s
    · have h := same_from (x := ext false N m) (a := n) (b := max m n) (t := false) (by omega) (by omega) (by omega) (fun j hj _ => by rw [hx j (.inl hj)]; simp [topB])
      unfold Fits
      simpa using h
    · have h := same_from (x := ext true N m) (a := n - 1) (b := max m n) (t := topB true N m n) (by omega) (by omega) (by omega) (fun j hj _ => by
        rcases Nat.lt_or_ge j n with g | g
        · obtain rfl : j = n - 1 := by omega
          rcases Nat.lt_or_ge (n - 1) m with k | k
          · rw [ext_low _ _ _ _ k]; unfold topB; rw [Nat.min_eq_left (by omega)]; simp
          · exact hx _ (.inr k)
        · exact hx j (.inl g))
      unfold Fits
      rw [if_pos rfl, h]
      cases topB true N m n <;> simp
  · intro hf j hj hjm
    unfold Fits at hf
    rw [← ext_low s N m j hjm]
    cases s
    · simp only [Bool.false_eq_true, if_false] at hf
      rw [from_same (a := n) (t := false) (by simpa using hf) j hj]; simp [topB]
    · simp only [if_true] at hf
      have hb : ∀ i, n - 1 ≤ i → bit (ext true N m) i = bit (ext true N m) (n - 1) := fun i hi => by
        rcases hf with hf | hf
        · rw [from_same (a := n - 1) (t := false) (by simpa using hf) i hi, from_same (a := n - 1) (t := false) (by simpa using hf) (n - 1) (by omega)]
        · rw [from_same (a := n - 1) (t := true) (by simpa using hf) i hi, from_same (a := n - 1) (t := true) (by simpa using hf) (n - 1) (by omega)]
      rw [hb j (by omega), ext_low true N m (n - 1) (by omega)]
      unfold topB
      rw [Nat.min_eq_left (by omega)]
      simp
end Go.Proofs.Ytmjcbliobjmmfaa

