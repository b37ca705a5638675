/- creelref02.Uint; the least number of groups. -/
import Derived.Test.YtmjcbliobjmmfaaGroup
import Derived.Deep.QuietTactic
import Derived.BigQuiet
namespace Go.Proofs.Ytmjcbliobjmmfaa
open Go.RowKit

theorem below_drewN {B : Nat} {w w1 : World} (h : Below B w w1) (d : Nat) : Below B w (w1.drewN d) := ⟨h.os, h.tape, h.output, h.size, h.block⟩

/-- Is a bit from a up to j other than t? -/
def anyB (x : Int) (t : Bool) (a : Nat) : Nat → Bool
  | 0 => false
  | j + 1 => anyB x t a j || (decide (a ≤ j) && (bit x j != t))
theorem any_start (x : Int) (t : Bool) (a : Nat) : ∀ j, j ≤ a → anyB x t a j = false
  | 0, _ => rfl
  | j + 1, h => by
    show (anyB x t a j || (decide (a ≤ j) && (bit x j != t))) = false
    rw [any_start x t a j (by omega)]
    simp; omega
theorem any_snoc (x : Int) (t : Bool) {a j : Nat} (h : a ≤ j) : anyB x t a (j + 1) = (anyB x t a j || (bit x j != t)) := by
  show (anyB x t a j || (decide (a ≤ j) && (bit x j != t))) = _
  simp [h]
theorem any_none (x : Int) (t : Bool) (a : Nat) : ∀ j, anyB x t a j = false ↔ ∀ i, a ≤ i → i < j → bit x i = t
  | 0 => by simp [anyB]
  | j + 1 => by
    show (anyB x t a j || (decide (a ≤ j) && (bit x j != t))) = false ↔ _
    rw [Bool.or_eq_false_iff, any_none x t a j]
    constructor
    · rintro ⟨h1, h2⟩ i hi hij
      rcases Nat.lt_or_ge i j with g | g
      · exact h1 i hi g
      · obtain rfl : i = j := by omega
        simpa [hi] using h2
    · intro h
      refine ⟨fun i hi hij => h i hi (by omega), ?_⟩
      by_cases g : a ≤ j
      · simp [g, h j g (by omega)]
      · simp [g]

theorem bytes_made {l : List Int} {w w1 w' : World} {e : Ending} (h : Bytes l w1 e w') (hb : Below w.heap.size w w1) : Bytes l w e w' := by
  obtain ⟨A, c, h1, h2, h3, h4, h5, h6⟩ := h
  have := hb.size
  exact ⟨A, c, h1, h2, h3, h4, fun a e => ⟨by have := (h5 a e).1; omega, (h5 a e).2⟩, hb.trans (h6.mono this)⟩

set_option maxHeartbeats 1000000 in
theorem refUint_any (x : Int) (w : World) (h0 : 0 ≤ x) (h1 : x ≤ 18446744073709551615) {n : Nat} (hn : Least (fitU x) n) :
    Calls Try.prog 38 #[.int .u64 x] w (Bytes (grp x n) w) := by
  have h10 : n ≤ 10 := hn.le (by omega) (fitU_ten x (by omega))
  have hn1 := hn.1
  have hall : ∀ k, 1 ≤ k → k ≤ 9 → (fitU x k ↔ anyB x false (7 * k) 64 = false) := fun k a b => by
    rw [any_none]; exact fitU_bits h0 (by show x < 18446744073709551616; omega) a b
  have h64 : ∀ j, 64 ≤ j → bit x j = false := fun j hj => bit_high h0 (b := 64) (by show x < 18446744073709551616; omega) j hj
  have HA := Lib.hid hall
  have HN := Lib.hid hn
  have H64 := Lib.hid h64
  clear hall hn h64
  go_enter Try.func38, Try.ntmps38
  go_wp2_with (go_at_call 44; go_must (refine (bits_any _ _ h0 h1).mono ?_; rintro e w1 ⟨A, c, rfl, hc1, hc2, hl, hlo, hbe⟩; rw [bools_length] at hc1; simp only [bools_length]; have HL := Lib.hid hl; have HBE := Lib.hid hbe; clear hl hlo hbe))
  go_loop [4] (fun i => ∃ k : Nat, 1 ≤ k ∧ k ≤ n ∧ i = .int .i64 k) (fun i => 10 - (intOf i).toNat)
  case atStart => exact ⟨1, by omega, by omega, rfl⟩
  case round =>
    obtain ⟨k, hk1, hkn, rfl⟩ := hrel
    by_cases hk9 : k < 10
    · have hk9' : (k : Int) < 10 := by omega
      go_wp2
      go_loop [5, 6] (fun m i => ∃ j : Nat, 7 * k ≤ j ∧ j ≤ 64 ∧ i = .int .i64 j ∧ m = .bool (anyB x false (7 * k) j)) (fun _ i => 64 - (intOf i).toNat)
      case atStart => exact ⟨7 * k, by omega, by omega, by go_num, by rw [any_start _ _ _ _ (by omega)]⟩
      case round =>
        obtain ⟨j, hj1, hj2, rfl, rfl⟩ := hrel
        by_cases hj : j < 64
        · obtain ⟨b, off, rfl, hb, hc⟩ := HL.out _ _ (bools_get x hj)
          have hs := any_snoc x false hj1
          generalize anyB x false (7 * k) j = s at *
          generalize bit x j = bt at *
          have HS := Lib.hid hs
          clear hs
          cases s
          all_goals go_wp2
          all_goals
            go_round
            case rel => exact ⟨j + 1, by omega, by omega, by go_num, by rw [HS.out]; simp⟩
            case measure => simp [intOf]; omega
        · obtain rfl : j = 64 := by omega
          by_cases hkn2 : k = n
          · subst hkn2
            have hf : anyB x false (7 * k) 64 = false := (HA.out k hk1 (by omega)).1 HN.out.2.1
            rw [hf]
            clear hf
            go_wp2_with (go_at_call 45; go_must (refine (group_any x k false A c _ _ HL.out (Nat.le_refl _) H64.out h10).mono ?_; intro e w2 hb2; have HB2 := Lib.hid (bytes_made hb2 HBE.out); obtain ⟨A2, c2, rfl, -⟩ := hb2))
            go_ret
            exact HB2.out
          · have hf : anyB x false (7 * k) 64 = true := by
              have := mt (HA.out k hk1 (by omega)).2 (HN.out.2.2 k hk1 (by omega))
              simpa using this
            rw [hf]
            clear hf
            go_wp2
            go_round
            case rel => exact ⟨k + 1, by omega, by omega, by go_num⟩
            case measure => simp [intOf]; omega
    · obtain rfl : k = 10 := by omega
      obtain rfl : n = 10 := by omega
      go_wp2_with (go_at_call 45; go_must (refine (group_any x 10 false A c _ _ HL.out (Nat.le_refl _) H64.out (Nat.le_refl _)).mono ?_; intro e w2 hb2; have HB2 := Lib.hid (bytes_made hb2 HBE.out); obtain ⟨A2, c2, rfl, -⟩ := hb2))
      go_ret
      exact HB2.out

theorem least_find (F : Nat → Prop) : ∀ k, 1 ≤ k → F k → ∃ n, Least F n := by
  intro k
  induction k using Nat.strongRecOn with
  | _ k ih =>
    intro h1 h2
    by_cases h : ∃ m, 1 ≤ m ∧ m < k ∧ F m
    · obtain ⟨m, a, b, c⟩ := h
      exact ih m b a c
    · exact ⟨k, h1, h2, fun m a b c => h ⟨m, a, b, c⟩⟩
theorem leastU (x : Int) (h : x ≤ 18446744073709551615) : ∃ n, Least (fitU x) n := least_find _ 10 (by omega) (fitU_ten x (by omega))
end Go.Proofs.Ytmjcbliobjmmfaa

