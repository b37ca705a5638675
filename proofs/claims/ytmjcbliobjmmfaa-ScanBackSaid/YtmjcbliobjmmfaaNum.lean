/- Plain mathematics: the groups of seven bits of a number, its bits, where a varint ends. Of no program. -/
import Derived.Laws.MathBits
namespace Go.Proofs.Ytmjcbliobjmmfaa

/-- Bit j of a number, of endless two's complement. -/
def bit (x : Int) (j : Nat) : Bool := x / 2 ^ j % 2 == 1

/-- The first n groups of seven bits, each but the last with 128. -/
def grp (x : Int) (n : Nat) : List Int := (List.range n).map fun i => x / 128 ^ i % 128 + if i + 1 < n then 128 else 0
/-- The first n groups, all of them with 128. -/
def grps (x : Int) (n : Nat) : List Int := (List.range n).map fun i => x / 128 ^ i % 128 + 128

theorem grp_length (x : Int) (n : Nat) : (grp x n).length = n := by simp [grp]
theorem grps_length (x : Int) (n : Nat) : (grps x n).length = n := by simp [grps]
theorem grps_snoc (x : Int) (n : Nat) : grps x (n + 1) = grps x n ++ [x / 128 ^ n % 128 + 128] := by simp [grps, List.range_succ]
theorem grp_snoc (x : Int) (n : Nat) : grp x (n + 1) = grps x n ++ [x / 128 ^ n % 128] := by
  unfold grp grps
  rw [List.range_succ, List.map_append]
  congr 1
  · apply List.map_congr_left
    intro i hi
    have := List.mem_range.1 hi
    rw [if_pos (by omega)]
  · simp
theorem grps_get (x : Int) (n i : Nat) (h : i < n) : (grps x n)[i]? = some (x / 128 ^ i % 128 + 128) := by simp [grps, h]

/-- The least number from 1 on at which F holds. -/
def Least (F : Nat → Prop) (n : Nat) : Prop := 1 ≤ n ∧ F n ∧ ∀ m, 1 ≤ m → m < n → ¬ F m
theorem Least.unique {F : Nat → Prop} {n m : Nat} (h : Least F n) (k : Least F m) : n = m := by
  rcases Nat.lt_trichotomy n m with g | g | g
  · exact absurd h.2.1 (k.2.2 n h.1 g)
  · exact g
  · exact absurd k.2.1 (h.2.2 m k.1 g)
theorem Least.le {F : Nat → Prop} {n m : Nat} (h : Least F n) (hm : 1 ≤ m) (hF : F m) : n ≤ m := by
  rcases Nat.lt_or_ge m n with g | g
  · exact absurd hF (h.2.2 m hm g)
  · exact g

/-- n groups are enough: without a sign, with one. -/
def fitU (x : Int) (n : Nat) : Prop := x / 128 ^ (n - 1) < 128
def fitS (x : Int) (n : Nat) : Prop := -64 ≤ x / 128 ^ (n - 1) ∧ x / 128 ^ (n - 1) < 64

theorem p2 (n : Nat) : (0 : Int) < 2 ^ n := Int.pow_pos (by omega)
theorem p128 (n : Nat) : (0 : Int) < 128 ^ n := Int.pow_pos (by omega)
theorem mono2 {a b : Nat} (h : a ≤ b) : (2 : Int) ^ a ≤ 2 ^ b := by
  have e : (2 : Int) ^ b = 2 ^ a * 2 ^ (b - a) := by rw [← Int.pow_add]; congr 1; omega
  have := Int.mul_le_mul_of_nonneg_left (show (1 : Int) ≤ 2 ^ (b - a) from p2 _) (Int.le_of_lt (p2 a))
  rw [e]; omega
theorem mono128 {a b : Nat} (h : a ≤ b) : (128 : Int) ^ a ≤ 128 ^ b := by
  have e : (128 : Int) ^ b = 128 ^ a * 128 ^ (b - a) := by rw [← Int.pow_add]; congr 1; omega
  have := Int.mul_le_mul_of_nonneg_left (show (1 : Int) ≤ 128 ^ (b - a) from p128 _) (Int.le_of_lt (p128 a))
  rw [e]; omega
theorem pow7 (n : Nat) : (2 : Int) ^ (7 * n) = 128 ^ n := by rw [Int.pow_mul]; rfl
theorem div_pow (x : Int) (a b : Nat) : x / 2 ^ a / 2 ^ b = x / 2 ^ (a + b) := by
  rw [Int.pow_add, Int.ediv_ediv_of_nonneg (Int.le_of_lt (p2 a))]
theorem div_pow128 (x : Int) (a b : Nat) : x / 128 ^ a / 128 ^ b = x / 128 ^ (a + b) := by
  rw [Int.pow_add, Int.ediv_ediv_of_nonneg (Int.le_of_lt (p128 a))]
theorem bit_div (x : Int) (a j : Nat) : bit (x / 2 ^ a) j = bit x (a + j) := by unfold bit; rw [div_pow]
theorem bit_zero (j : Nat) : bit 0 j = false := by simp [bit]
theorem neg_one_div (j : Nat) : (-1 : Int) / 2 ^ j = -1 := by
  have := p2 j
  rw [Int.ediv_eq_iff_of_pos this]
  constructor <;> omega
theorem bit_neg (j : Nat) : bit (-1) j = true := by unfold bit; rw [neg_one_div]; rfl

theorem fitU_ten (x : Int) (h : x < 18446744073709551616) : fitU x 10 := by
  show x / 9223372036854775808 < 128
  omega
theorem fitS_ten (x : Int) (h0 : -9223372036854775808 ≤ x) (h : x < 9223372036854775808) : fitS x 10 := by
  show -64 ≤ x / 9223372036854775808 ∧ x / 9223372036854775808 < 64
  omega

theorem two_bounds {m : Nat} {y : Int} (h1 : -2 ^ (m + 1) ≤ y) (h2 : y < 2 ^ (m + 1)) : -2 ^ m ≤ y / 2 ∧ y / 2 < 2 ^ m := by
  rw [Int.pow_succ] at h1 h2
  omega
/-- All bits up to one above the number are the same: it is 0 or -1. -/
theorem same_bits : ∀ (m : Nat) (y : Int) (t : Bool), -2 ^ m ≤ y → y < 2 ^ m → (∀ j, j ≤ m → bit y j = t) → y = if t then -1 else 0
  | 0, y, t, h1, h2, h => by
    have h0 := h 0 (Nat.le_refl _)
    simp only [Int.pow_zero] at h1 h2
    unfold bit at h0
    simp only [Int.pow_zero, Int.ediv_one] at h0
    cases t
    · have : ¬ y % 2 = 1 := by simpa using h0
      simp only [Bool.false_eq_true, if_false]; omega
    · have : y % 2 = 1 := by simpa using h0
      simp only [if_true]; omega
  | m + 1, y, t, h1, h2, h => by
    have h0 := h 0 (by omega)
    obtain ⟨g1, g2⟩ := two_bounds h1 h2
    have ih := same_bits m (y / 2) t g1 g2 (fun j hj => by
      have := h (1 + j) (by omega)
      rw [← bit_div] at this
      simpa using this)
    unfold bit at h0
    simp only [Int.pow_zero, Int.ediv_one] at h0
    cases t
    · have : ¬ y % 2 = 1 := by simpa using h0
      simp only [Bool.false_eq_true, if_false] at ih ⊢; omega
    · have : y % 2 = 1 := by simpa using h0
      simp only [if_true] at ih ⊢; omega

theorem div_bounds {x : Int} {a b : Nat} (hab : a ≤ b) (h1 : -2 ^ b ≤ x) (h2 : x < 2 ^ b) : -2 ^ (b - a) ≤ x / 2 ^ a ∧ x / 2 ^ a < 2 ^ (b - a) := by
  have e : (2 : Int) ^ b = 2 ^ (b - a) * 2 ^ a := by rw [← Int.pow_add]; congr 1; omega
  have hp := p2 a
  rw [e] at h1 h2
  refine ⟨(Int.le_ediv_iff_mul_le hp).2 ?_, (Int.ediv_lt_iff_lt_mul hp).2 h2⟩
  rw [Int.neg_mul]; exact h1
/-- All bits from a up to b are t: what is above a is 0 or -1. -/
theorem same_from {x : Int} {a b : Nat} {t : Bool} (hab : a ≤ b) (h1 : -2 ^ b ≤ x) (h2 : x < 2 ^ b) (h : ∀ j, a ≤ j → j ≤ b → bit x j = t) : x / 2 ^ a = if t then -1 else 0 := by
  obtain ⟨g1, g2⟩ := div_bounds hab h1 h2
  exact same_bits (b - a) _ t g1 g2 (fun j hj => by rw [bit_div]; exact h _ (by omega) (by omega))
theorem from_same {x : Int} {a : Nat} {t : Bool} (h : x / 2 ^ a = if t then -1 else 0) (j : Nat) (hj : a ≤ j) : bit x j = t := by
  have e : j = a + (j - a) := by omega
  rw [e, ← bit_div, h]
  cases t
  · exact bit_zero _
  · exact bit_neg _
theorem bit_high {x : Int} {b : Nat} (h0 : 0 ≤ x) (h : x < 2 ^ b) (j : Nat) (hj : b ≤ j) : bit x j = false :=
  from_same (t := false) (by simp only [Bool.false_eq_true, if_false]; exact Int.ediv_eq_zero_of_lt h0 h) j hj

/-- Without a sign: n groups are enough if no bit from 7n up to 63 is set. -/
theorem fitU_bits {x : Int} {n : Nat} (h0 : 0 ≤ x) (h1 : x < 2 ^ 64) (hn : 1 ≤ n) (hn9 : n ≤ 9) : fitU x n ↔ ∀ j, 7 * n ≤ j → j < 64 → bit x j = false := by
  have e : x / 2 ^ (7 * n) = x / 128 ^ (n - 1) / 128 := by
    rw [pow7, show n = n - 1 + 1 by omega, ← div_pow128]; rfl
  have hq : 0 ≤ x / 128 ^ (n - 1) := Int.ediv_nonneg h0 (Int.le_of_lt (p128 _))
  constructor
  · intro h j hj _
    refine from_same (a := 7 * n) (t := false) ?_ j hj
    rw [e]
    have h' : x / 128 ^ (n - 1) < 128 := h
    simp only [Bool.false_eq_true, if_false]
    omega
  · intro h
    have h2 := same_from (x := x) (a := 7 * n) (b := 64) (t := false) (by omega) (by omega) h1 (fun j hj hb => by
      rcases Nat.lt_or_ge j 64 with g | g
      · exact h j hj g
      · exact bit_high h0 h1 j g)
    rw [e] at h2
    simp only [Bool.false_eq_true, if_false] at h2
    show x / 128 ^ (n - 1) < 128
    omega
theorem div64 (x : Int) (n : Nat) (hn : 1 ≤ n) : x / 2 ^ (7 * n - 1) = x / 128 ^ (n - 1) / 64 := by
  have e : 7 * n - 1 = 7 * (n - 1) + 6 := by omega
  rw [e, ← div_pow, pow7]; rfl
/-- With a sign: n groups are enough if all bits from 7n - 1 up to 63 are the same. -/
theorem fitS_bits {x : Int} {n : Nat} (h0 : -2 ^ 63 ≤ x) (h1 : x < 2 ^ 63) (hn : 1 ≤ n) (hn9 : n ≤ 9) : fitS x n ↔ ∀ j, 7 * n - 1 ≤ j → j < 64 → bit x j = bit x 63 := by
  have e := div64 x n hn
  constructor
  · intro h j hj hj2
    obtain ⟨a1, a2⟩ : -64 ≤ x / 128 ^ (n - 1) ∧ x / 128 ^ (n - 1) < 64 := h
    have hz : x / 2 ^ (7 * n - 1) = 0 ∨ x / 2 ^ (7 * n - 1) = -1 := by rw [e]; omega
    rcases hz with hz | hz
    · rw [from_same (t := false) (by simpa using hz) j hj, from_same (t := false) (by simpa using hz) 63 (by omega)]
    · rw [from_same (t := true) (by simpa using hz) j hj, from_same (t := true) (by simpa using hz) 63 (by omega)]
  · intro h
    have h2 := same_from (x := x) (a := 7 * n - 1) (b := 63) (t := bit x 63) (by omega) h0 h1 (fun j hj hb => h j hj (by omega))
    rw [e] at h2
    show -64 ≤ x / 128 ^ (n - 1) ∧ x / 128 ^ (n - 1) < 64
    split at h2 <;> omega
/-- The number modulo a power, one bit more. -/
theorem mod_bit (x : Int) (i : Nat) : x % 2 ^ (i + 1) = x % 2 ^ i + if bit x i then 2 ^ i else 0 := by
  have hp := p2 i
  have e1 := Int.emod_def x (2 ^ i)
  have e2 := Int.emod_def x (2 ^ (i + 1))
  have e3 : x / 2 ^ (i + 1) = x / 2 ^ i / 2 := by rw [← div_pow]; rfl
  have e4 : (2 : Int) ^ (i + 1) = 2 * 2 ^ i := by rw [Int.pow_succ, Int.mul_comm]
  rw [e3, e4] at e2
  rw [e4, e2, e1]
  have h2 : x / 2 ^ i = 2 * (x / 2 ^ i / 2) + x / 2 ^ i % 2 := by omega
  have h3 : x / 2 ^ i % 2 = 0 ∨ x / 2 ^ i % 2 = 1 := by omega
  unfold bit
  generalize x / 2 ^ i / 2 = q at *
  generalize x / 2 ^ i % 2 = r at *
  rw [h2]
  by_cases hr : r = 1
  · subst hr; simp only [beq_self_eq_true, if_true]; grind
  · have : r = 0 := h3.resolve_right hr
    subst this; simp; grind
end Go.Proofs.Ytmjcbliobjmmfaa

