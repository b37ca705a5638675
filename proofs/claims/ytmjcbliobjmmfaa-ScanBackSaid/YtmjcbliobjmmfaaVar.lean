/- Plain mathematics: where a varint stops, the number of its lower bytes. -/
import Derived.Test.YtmjcbliobjmmfaaBitsOf
namespace Go.Proofs.Ytmjcbliobjmmfaa
open Go.RowKit

/-- Of the first M of the bytes r, the first p go on; the next one, if there is one, does not. -/
structure Stop (M : Nat) (r : List Int) (p : Nat) : Prop where
  leM : p ≤ M
  leR : p ≤ r.length
  on : ∀ i c, i < p → r[i]? = some c → 128 ≤ c
  off : ∀ c, p < M → r[p]? = some c → c < 128

theorem stop_ex (r : List Int) : ∀ M, ∃ p, Stop M r p
  | 0 => ⟨0, Nat.le_refl _, Nat.zero_le _, fun i c h => by omega, fun c h => by omega⟩
  | M + 1 => by
    obtain ⟨p, h⟩ := stop_ex r M
    have hM := h.leM
    have hR := h.leR
    rcases Nat.lt_or_ge p M with g | g
    · exact ⟨p, by omega, hR, h.on, fun c _ hc => h.off c g hc⟩
    · obtain rfl : p = M := by omega
      by_cases hr : p < r.length
      · by_cases hb : 128 ≤ r[p]
        · refine ⟨p + 1, by omega, by omega, fun i c hi hc => ?_, fun c h1 => by omega⟩
          rcases Nat.lt_or_ge i p with k | k
          · exact h.on i c k hc
          · obtain rfl : i = p := by omega
            rw [List.getElem?_eq_getElem hr] at hc
            injection hc with hc
            omega
        · refine ⟨p, by omega, hR, h.on, fun c _ hc => ?_⟩
          rw [List.getElem?_eq_getElem hr] at hc
          injection hc with hc
          omega
      · exact ⟨p, by omega, hR, h.on, fun c _ hc => by rw [List.getElem?_eq_none (by omega)] at hc; cases hc⟩

/-- The number of the lower seven bits of bytes. -/
def low : List Int → Int
  | [] => 0
  | c :: r => c % 128 + 128 * low r
theorem low_snoc : ∀ (l : List Int) (c : Int), low (l ++ [c]) = low l + c % 128 * 2 ^ (7 * l.length)
  | [], c => by simp [low]
  | d :: r, c => by
    have ih := low_snoc r c
    show d % 128 + 128 * low (r ++ [c]) = d % 128 + 128 * low r + c % 128 * 2 ^ (7 * (r.length + 1))
    have e : (2 : Int) ^ (7 * (r.length + 1)) = 128 * 2 ^ (7 * r.length) := by rw [show 7 * (r.length + 1) = 7 * r.length + 7 by omega, Int.pow_add, Int.mul_comm]; rfl
    rw [ih, e]
    generalize (2 : Int) ^ (7 * r.length) = t
    grind
theorem low_bd : ∀ l : List Int, 0 ≤ low l ∧ low l < 2 ^ (7 * l.length)
  | [] => by simp [low]
  | d :: r => by
    obtain ⟨h1, h2⟩ := low_bd r
    have e : (2 : Int) ^ (7 * (r.length + 1)) = 128 * 2 ^ (7 * r.length) := by rw [show 7 * (r.length + 1) = 7 * r.length + 7 by omega, Int.pow_add, Int.mul_comm]; rfl
    show 0 ≤ d % 128 + 128 * low r ∧ d % 128 + 128 * low r < 2 ^ (7 * (r.length + 1))
    rw [e]
    omega
/-- A last byte, with its sign. -/
def sg (c : Int) : Int := if 64 ≤ c then c - 128 else c
theorem take_snoc {l : List Int} {k : Nat} {c : Int} (h : l[k]? = some c) : l.take (k + 1) = l.take k ++ [c] := by
  obtain ⟨hk, e⟩ := List.getElem?_eq_some_iff.1 h
  rw [List.take_succ_eq_append_getElem hk, e]
theorem scale {a b : Nat} {x : Int} (hx : 0 ≤ x) (h : x < 2 ^ a) : 0 ≤ x * 2 ^ b ∧ x * 2 ^ b < 2 ^ (a + b) := by
  refine ⟨Int.mul_nonneg hx (Int.le_of_lt (p2 b)), ?_⟩
  rw [Int.pow_add]
  exact Int.mul_lt_mul_of_pos_right h (p2 b)
end Go.Proofs.Ytmjcbliobjmmfaa

