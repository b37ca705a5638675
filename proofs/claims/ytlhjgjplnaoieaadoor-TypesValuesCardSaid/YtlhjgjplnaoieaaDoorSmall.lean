/- leb.Right, Most, Size. -/
import Derived.Test.YtlhjgjplnaoieaaDoorBytes
import Derived.Test.YtlhjgjplnaoieaaDoorBits
import Derived.Test.YtlhjgjplnaoieaaDoorShelf
import Derived.Deep.DeepMust
namespace Go.Proofs.YtlhjgjplnaoieaaDoor
open Go.RowKit

/-- How many bytes so many bits want. -/
def mostZ (n : Int) : Int := if 1 ≤ n ∧ n ≤ 64 then (n + 6) / 7 else 0

theorem right_in (n : Int) (w : World) (h1 : 1 ≤ n) (h2 : n ≤ 64) : Calls Tryd.prog 45 #[.int .i64 n] w fun e w' => e = .returned (.bool true) ∧ w = w' := by
  go_enter Tryd.func45, Tryd.ntmps45
  go_wp2
  go_ret
  exact ⟨rfl, rfl⟩
theorem right_out (n : Int) (w : World) (h : n < 1 ∨ 64 < n) : Calls Tryd.prog 45 #[.int .i64 n] w fun e w' => e = .returned (.bool false) ∧ w = w' := by
  rcases h with h | h
  · have h' : ¬ 1 ≤ n := by omega
    go_enter Tryd.func45, Tryd.ntmps45
    go_wp2
    go_ret
    exact ⟨rfl, rfl⟩
  · have h' : 1 ≤ n := by omega
    have h2 : ¬ n ≤ 64 := by omega
    have h3 : decide (n ≤ 64) = false := by simpa using h2
    go_enter Tryd.func45, Tryd.ntmps45
    go_wp2
    go_ret
    exact ⟨rfl, rfl⟩
theorem most_in (n : Int) (w : World) (h1 : 1 ≤ n) (h2 : n ≤ 64) : Calls Tryd.prog 43 #[.int .i64 n] w fun e w' => e = .returned (.int .i64 ((n + 6) / 7)) ∧ w = w' := by
  go_enter Tryd.func43, Tryd.ntmps43
  go_wp2_with (go_at_call 45; refine (right_in _ _ h1 h2).mono ?_; rintro e w' ⟨rfl, rfl⟩)
  go_ret
  exact ⟨ret_int (by omega), rfl⟩
theorem most_out (n : Int) (w : World) (h : n < 1 ∨ 64 < n) : Calls Tryd.prog 43 #[.int .i64 n] w fun e w' => e = .returned (.int .i64 0) ∧ w = w' := by
  go_enter Tryd.func43, Tryd.ntmps43
  go_wp2_with (go_at_call 45; refine (right_out _ _ h).mono ?_; rintro e w' ⟨rfl, rfl⟩)
  go_ret
  exact ⟨rfl, rfl⟩
theorem most_any (n : Int) (w : World) : Calls Tryd.prog 43 #[.int .i64 n] w fun e w' => e = .returned (.int .i64 (mostZ n)) ∧ w = w' := by
  by_cases h : 1 ≤ n ∧ n ≤ 64
  · unfold mostZ; rw [if_pos h]; exact most_in n w h.1 h.2
  · unfold mostZ; rw [if_neg h]; exact most_out n w (by omega)
theorem aux_lo : ∀ (f x : Nat), 0 < Lib.bitLenAux f x → 2 ^ (Lib.bitLenAux f x - 1) ≤ x
  | 0, x, h => by simp [Lib.bitLenAux] at h
  | f + 1, x, h => by
    unfold Lib.bitLenAux at h ⊢
    by_cases hx : x = 0
    · rw [if_pos hx] at h; omega
    · rw [if_neg hx] at h ⊢
      have ih := aux_lo f (x / 2)
      by_cases h0 : 0 < Lib.bitLenAux f (x / 2)
      · have := ih h0
        have e : 1 + Lib.bitLenAux f (x / 2) - 1 = Lib.bitLenAux f (x / 2) - 1 + 1 := by omega
        rw [e, Nat.pow_succ]; omega
      · have : Lib.bitLenAux f (x / 2) = 0 := by omega
        rw [this]; simp; omega
theorem aux_hi : ∀ (f x : Nat), x < 2 ^ f → x < 2 ^ Lib.bitLenAux f x
  | 0, x, h => by simpa [Lib.bitLenAux] using h
  | f + 1, x, h => by
    unfold Lib.bitLenAux
    by_cases hx : x = 0
    · rw [if_pos hx]; subst hx; simp
    · rw [if_neg hx]
      rw [Nat.pow_succ] at h
      have ih := aux_hi f (x / 2) (by omega)
      rw [Nat.add_comm 1, Nat.pow_succ]; omega
theorem len_le (x : Int) (h0 : 0 ≤ x) (h1 : x ≤ 18446744073709551615) : Lib.bitLen x.toNat ≤ 64 := Lib.bitLen_le _ 64 (by omega) (by omega)
/-- The length that Size reckons is the least number of groups. -/
theorem size_least (x : Int) (h0 : 0 ≤ x) (h1 : x ≤ 18446744073709551615) : ∃ n : Nat, Least (fitU x) n ∧ (max 1 (Lib.bitLen x.toNat : Int) + 6) / 7 = n := by
  have hl := len_le x h0 h1
  have hi := aux_hi 64 x.toNat (by omega)
  have lo := aux_lo 64 x.toNat
  change x.toNat < 2 ^ Lib.bitLen x.toNat at hi
  change 0 < Lib.bitLen x.toNat → 2 ^ (Lib.bitLen x.toNat - 1) ≤ x.toNat at lo
  generalize Lib.bitLen x.toNat = b at *
  have hx : x = (x.toNat : Int) := by omega
  generalize x.toNat = y at *
  subst hx
  refine ⟨(max 1 b + 6) / 7, ⟨by omega, ?_, ?_⟩, by omega⟩
  · have e : (y : Int) < 2 ^ (7 * ((max 1 b + 6) / 7)) := by
      have := mono2 (a := b) (b := 7 * ((max 1 b + 6) / 7)) (by omega)
      have h2 : ((2 ^ b : Nat) : Int) = 2 ^ b := by simp
      omega
    generalize hn : (max 1 b + 6) / 7 = n at e
    have hn1 : n = n - 1 + 1 := by omega
    rw [pow7, hn1, Int.pow_succ] at e
    exact (Int.ediv_lt_iff_lt_mul (p128 _)).2 (by rw [Int.mul_comm]; exact e)
  · intro m hm hlt h
    have h' : (y : Int) / 128 ^ (m - 1) < 128 := h
    have h2 := (Int.ediv_lt_iff_lt_mul (p128 _)).1 h'
    have e : (128 : Int) * 128 ^ (m - 1) = 2 ^ (7 * m) := by
      rw [pow7, Int.mul_comm, show (128 : Int) ^ (m - 1) * 128 = 128 ^ (m - 1 + 1) from (Int.pow_succ _ _).symm]; congr 1; omega
    rw [e] at h2
    have hm2 := mono2 (a := 7 * m) (b := b - 1) (by omega)
    have h3 := lo (by omega)
    have h4 : ((2 ^ (b - 1) : Nat) : Int) = 2 ^ (b - 1) := by simp
    omega
theorem size_any (x : Int) (w : World) (h0 : 0 ≤ x) (h1 : x ≤ 18446744073709551615) {n : Nat} (hn : Least (fitU x) n) :
    Calls Tryd.prog 40 #[.int .u64 x] w fun e w' => e = .returned (.int .i64 n) ∧ w = w' := by
  obtain ⟨m, hm, e⟩ := size_least x h0 h1
  obtain rfl := hm.unique hn
  have hl := len_le x h0 h1
  have H := Lib.hid e
  have HM := Lib.hid hm
  have HN := Lib.hid hn
  clear e hm hn
  generalize hb : Lib.bitLen x.toNat = b at *
  have HB := Lib.hid hb
  clear hb
  have hb1 : 1 ≤ max 1 (b : Int) := by omega
  have hb2 : max 1 (b : Int) ≤ 64 := by omega
  go_enter Tryd.func40, Tryd.ntmps40
  go_wp2_with (first
    | (go_at_call 44; go_must (refine (Tryd.bits_Len64 _ _ h0 h1).mono ?_; rintro e w' ⟨rfl, rfl⟩; rw [HB.out]))
    | (go_at_call 43; go_must (refine (most_any _ _).mono ?_; rintro e w' ⟨rfl, rfl⟩)))
  go_ret
  exact ⟨ret_int (by have h := H.out; unfold mostZ; rw [if_pos ⟨by omega, by omega⟩]; exact h), rfl⟩
end Go.Proofs.YtlhjgjplnaoieaaDoor
