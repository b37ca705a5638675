/- creelref02.Uint and creelref02.Int. -/
import Derived.Test.YtjgghgfljkpemaaGroup
import Derived.Deep.QuietTactic
import Derived.BigQuiet
namespace Go.Proofs.Ytjgghgfljkpemaa
open Go.RowKit

theorem below_drewN {B : Nat} {w w1 : World} (h : Below B w w1) (d : Nat) : Below B w (w1.drewN d) := ⟨h.os, h.tape, h.output, h.size, h.block⟩

/-- Is a bit from a up to j other than t? -/
def anyB (x : Int) (t : Bool) (a : Nat) : Nat → Bool
  | 0 => false
  | j + 1 => anyB x t a j || (decide (a ≤ j) && (bit x j != t))
theorem any_start (x : Int) (t : Bool) (a : Nat) : ∀ j, j ≤ a → anyB x t a j = false
  | 0, _ => rfl
  | j + 1, h => by
    show (anyB x t a j || (decide (a ≤ j) && (bit x j != t))) = false
    rw [any_start x t a j (by omega)]
    simp; omega
theorem any_snoc (x : Int) (t : Bool) {a j : Nat} (h : a ≤ j) : anyB x t a (j + 1) = (anyB x t a j || (bit x j != t)) := by
  show (anyB x t a j || (decide (a ≤ j) && (bit x j != t))) = _
  simp [h]
theorem any_none (x : Int) (t : Bool) (a : Nat) : ∀ j, anyB x t a j = false ↔ ∀ i, a ≤ i → i < j → bit x i = t
  | 0 => by simp [anyB]
  | j + 1 => by
    show (anyB x t a j || (decide (a ≤ j) && (bit x j != t))) = false ↔ _
    rw [Bool.or_eq_false_iff, any_none x t a j]
    constructor
    · rintro ⟨h1, h2⟩ i hi hij
      rcases Nat.lt_or_ge i j with g | g
      · exact h1 i hi g
      · obtain rfl : i = j := by omega
        simpa [hi] using h2
    · intro h
      refine ⟨fun i hi hij => h i hi (by omega), ?_⟩
      by_cases g : a ≤ j
      · simp [g, h j g (by omega)]
      · simp [g]

theorem bytes_made {l : List Int} {w w1 w' : World} {e : Ending} (h : Bytes l w1 e w') (hb : Below w.heap.size w w1) : Bytes l w e w' := by
  obtain ⟨A, c, h1, h2, h3, h4, h5, h6⟩ := h
  have := hb.size
  exact ⟨A, c, h1, h2, h3, h4, fun a e => ⟨by have := (h5 a e).1; omega, (h5 a e).2⟩, hb.trans (h6.mono this)⟩

set_option maxHeartbeats 1000000 in
theorem refUint_any (x : Int) (w : World) (h0 : 0 ≤ x) (h1 : x ≤ 18446744073709551615) {n : Nat} (hn : Least (fitU x) n) :
    Calls Try.prog 7 #[.int .u64 x] w (Bytes (grp x n) w) := by
  have h10 : n ≤ 10 := hn.le (by omega) (fitU_ten x (by omega))
  have hn1 := hn.1
  have hall : ∀ k, 1 ≤ k → k ≤ 9 → (fitU x k ↔ anyB x false (7 * k) 64 = false) := fun k a b => by
    rw [any_none]; exact fitU_bits h0 (by show x < 18446744073709551616; omega) a b
  have h64 : ∀ j, 64 ≤ j → bit x j = false := fun j hj => bit_high h0 (b := 64) (by show x < 18446744073709551616; omega) j hj
  have HA := Lib.hid hall
  have HN := Lib.hid hn
  have H64 := Lib.hid h64
  clear hall hn h64
  go_enter Try.func7, Try.ntmps7
  go_wp2_with (go_at_call 18; go_must (refine (bits_any _ _ h0 h1).mono ?_; rintro e w1 ⟨A, c, rfl, hc1, hc2, hl, hlo, hbe⟩; rw [bools_length] at hc1; simp only [bools_length]; have HL := Lib.hid hl; have HBE := Lib.hid hbe; clear hl hlo hbe))
  go_loop [4] (fun i => ∃ k : Nat, 1 ≤ k ∧ k ≤ n ∧ i = .int .i64 k) (fun i => 10 - (intOf i).toNat)
  case atStart => exact ⟨1, by omega, by omega, rfl⟩
  case round =>
    obtain ⟨k, hk1, hkn, rfl⟩ := hrel
    by_cases hk9 : k < 10
    · have hk9' : (k : Int) < 10 := by omega
      go_wp2
      go_loop [5, 6] (fun m i => ∃ j : Nat, 7 * k ≤ j ∧ j ≤ 64 ∧ i = .int .i64 j ∧ m = .bool (anyB x false (7 * k) j)) (fun _ i => 64 - (intOf i).toNat)
      case atStart => exact ⟨7 * k, by omega, by omega, by go_num, by rw [any_start _ _ _ _ (by omega)]⟩
      case round =>
        obtain ⟨j, hj1, hj2, rfl, rfl⟩ := hrel
        by_cases hj : j < 64
        · obtain ⟨b, off, rfl, hb, hc⟩ := HL.out _ _ (bools_get x hj)
          have hs := any_snoc x false hj1
          generalize anyB x false (7 * k) j = s at *
          generalize bit x j = bt at *
          have HS := Lib.hid hs
          clear hs
          cases s
          all_goals go_wp2
          all_goals
            go_round
            case rel => exact ⟨j + 1, by omega, by omega, by go_num, by rw [HS.out]; simp⟩
            case measure => simp [intOf]; omega
        · obtain rfl : j = 64 := by omega
          by_cases hkn2 : k = n
          · subst hkn2
            have hf : anyB x false (7 * k) 64 = false := (HA.out k hk1 (by omega)).1 HN.out.2.1
            rw [hf]
            clear hf
            go_wp2_with (go_at_call 19; go_must (refine (group_any x k false A c _ _ HL.out (Nat.le_refl _) H64.out h10).mono ?_; intro e w2 hb2; have HB2 := Lib.hid (bytes_made hb2 HBE.out); obtain ⟨A2, c2, rfl, -⟩ := hb2))
            go_ret
            exact HB2.out
          · have hf : anyB x false (7 * k) 64 = true := by
              have := mt (HA.out k hk1 (by omega)).2 (HN.out.2.2 k hk1 (by omega))
              simpa using this
            rw [hf]
            clear hf
            go_wp2
            go_round
            case rel => exact ⟨k + 1, by omega, by omega, by go_num⟩
            case measure => simp [intOf]; omega
    · obtain rfl : k = 10 := by omega
      obtain rfl : n = 10 := by omega
      go_wp2_with (go_at_call 19; go_must (refine (group_any x 10 false A c _ _ HL.out (Nat.le_refl _) H64.out (Nat.le_refl _)).mono ?_; intro e w2 hb2; have HB2 := Lib.hid (bytes_made hb2 HBE.out); obtain ⟨A2, c2, rfl, -⟩ := hb2))
      go_ret
      exact HB2.out

theorem fitS_any {x : Int} (h0 : -9223372036854775808 ≤ x) (h1 : x ≤ 9223372036854775807) (k : Nat) (a : 1 ≤ k) (b : k ≤ 9) : fitS x k ↔ anyB x (bit x 63) (7 * k - 1) 64 = false := by
  rw [any_none]; exact fitS_bits (by show -9223372036854775808 ≤ x; omega) (by show x < 9223372036854775808; omega) a b
theorem mod64_bit (x : Int) (j : Nat) (hj : j < 64) : bit (x % 18446744073709551616) j = bit x j := by
  unfold bit
  have e : (18446744073709551616 : Int) = 2 ^ j * 2 * 2 ^ (63 - j) := by
    rw [show (2 : Int) ^ j * 2 = 2 ^ (j + 1) from (Int.pow_succ 2 j).symm, ← Int.pow_add, show j + 1 + (63 - j) = 64 by omega]; rfl
  have hp := p2 j
  have e2 : x = x % 18446744073709551616 + 2 ^ j * (2 * 2 ^ (63 - j) * (x / 18446744073709551616)) := by
    rw [← Int.mul_assoc, ← Int.mul_assoc, ← e]; exact (Int.emod_add_mul_ediv x _).symm
  generalize x % 18446744073709551616 = y at *
  generalize x / 18446744073709551616 = z at *
  rw [e2, Int.add_mul_ediv_left _ _ (Int.ne_of_gt hp), Int.mul_assoc 2]
  congr 1
  omega
theorem bools_mod (x : Int) : bools (x % 18446744073709551616) 64 = bools x 64 := by
  unfold bools
  apply List.map_congr_left
  intro j hj
  rw [mod64_bit x j (List.mem_range.1 hj)]
theorem sign_bits {x : Int} (h0 : -9223372036854775808 ≤ x) (h1 : x ≤ 9223372036854775807) (j : Nat) (hj : 63 ≤ j) : bit x j = bit x 63 := by
  have h : x / 2 ^ 63 = 0 ∨ x / 2 ^ 63 = -1 := by
    show x / 9223372036854775808 = 0 ∨ x / 9223372036854775808 = -1
    omega
  rcases h with h | h
  · rw [from_same (a := 63) (t := false) (by simpa using h) j hj, from_same (a := 63) (t := false) (by simpa using h) 63 (by omega)]
  · rw [from_same (a := 63) (t := true) (by simpa using h) j hj, from_same (a := 63) (t := true) (by simpa using h) 63 (by omega)]

set_option maxHeartbeats 1000000 in
theorem refInt_any (x : Int) (w : World) (h0 : -9223372036854775808 ≤ x) (h1 : x ≤ 9223372036854775807) {n : Nat} (hn : Least (fitS x) n) :
    Calls Try.prog 11 #[.int .i64 x] w (Bytes (grp x n) w) := by
  have h10 : n ≤ 10 := hn.le (by omega) (fitS_ten x h0 (by omega))
  have hn1 := hn.1
  have HA := Lib.hid (fitS_any h0 h1)
  have HN := Lib.hid hn
  have H64 := Lib.hid (fun j hj => sign_bits h0 h1 j (Nat.le_trans (by omega : 63 ≤ 64) hj))
  have HM := Lib.hid (bools_mod x)
  clear hn
  obtain ⟨y, hy⟩ : ∃ y, y = x % 18446744073709551616 := ⟨_, rfl⟩
  have hwr : IntKind.u64.wrap x = y := by rw [hy]; simp [IntKind.wrap, IntKind.bits, IntKind.signed]
  rw [← hy] at HM
  have hy0 : 0 ≤ y := by omega
  have hy1 : y ≤ 18446744073709551615 := by omega
  clear hy
  go_enter Try.func11, Try.ntmps11
  go_wp2_with (go_at_call 18; go_must (refine (bits_any _ _ hy0 hy1).mono ?_; rw [HM.out]; rintro e w1 ⟨A, c, rfl, hc1, hc2, hl, hlo, hbe⟩; rw [bools_length] at hc1; simp only [bools_length]; have HL := Lib.hid hl; have HBE := Lib.hid hbe; clear hl hlo hbe))
  clear hwr
  obtain ⟨b, off, rfl, hb, hc63⟩ := HL.out _ _ (bools_get x (show 63 < 64 by omega))
  have HC0 : ∀ j, j < 64 → w1.cell? ⟨b, off + j, none⟩ = some (.bool (bit x j)) := fun j hj => by
    obtain ⟨b', off', e', _, h2⟩ := HL.out _ _ (bools_get x hj)
    simp only [Option.some.injEq, Addr.mk.injEq] at e'
    obtain ⟨rfl, rfl, _⟩ := e'
    exact h2
  have HC := Lib.hid HC0
  clear HC0
  obtain ⟨t, ht⟩ : ∃ t, t = bit x 63 := ⟨_, rfl⟩
  rw [← ht] at hc63 HA H64
  have HT := Lib.hid ht
  clear ht
  go_loopw [4] (fun i wr => ∃ k d : Nat, 1 ≤ k ∧ k ≤ n ∧ i = .int .i64 k ∧ wr = w1.drewN d) (fun i _ => 10 - (intOf i).toNat)
  case atStart => exact ⟨1, 0, by omega, by omega, rfl, rfl⟩
  case round =>
    obtain ⟨k, d, hk1, hkn, rfl, rfl⟩ := hrel
    by_cases hk9 : k < 10
    · have hk9' : (k : Int) < 10 := by omega
      go_wp2
      go_loopw [5, 6] (fun m i wr => ∃ j d : Nat, 7 * k - 1 ≤ j ∧ j ≤ 64 ∧ i = .int .i64 j ∧ m = .bool (anyB x t (7 * k - 1) j) ∧ wr = w1.drewN d) (fun _ i _ => 64 - (intOf i).toNat)
      case atStart => exact ⟨7 * k - 1, d, by omega, by omega, by go_num, by rw [any_start _ _ _ _ (by omega)], rfl⟩
      case round =>
        obtain ⟨j, d2, hj1, hj2, rfl, rfl, rfl⟩ := hrel
        by_cases hj : j < 64
        · have hc := HC.out j hj
          have hs := any_snoc x t hj1
          generalize anyB x t (7 * k - 1) j = s at *
          generalize bit x j = bt at *
          have HS := Lib.hid hs
          clear hs
          have hj' : (j : Int) < 64 := by omega
          cases s
          all_goals go_wp2
          all_goals go_quiet (fail)
          all_goals go_wp2
          all_goals
            go_roundw
            case rel => exact ⟨j + 1, _, by omega, by omega, by go_num, by rw [HS.out]; cases bt <;> cases t <;> rfl, rfl⟩
            case measure => simp [intOf]; omega
        · obtain rfl : j = 64 := by omega
          by_cases hkn2 : k = n
          · subst hkn2
            have hf : anyB x t (7 * k - 1) 64 = false := (HA.out k hk1 (by omega)).1 HN.out.2.1
            rw [hf]
            clear hf
            go_wp2_with (go_at_call 19; go_must (refine (group_any x k t (some ⟨b, off, none⟩) c _ (w1.drewN d2) HL.out (Nat.le_refl _) H64.out h10).mono ?_; intro e w2 hb2; have HB2 := Lib.hid (bytes_made hb2 (below_drewN HBE.out d2)); obtain ⟨A2, c2, rfl, -⟩ := hb2))
            go_ret
            exact HB2.out
          · have hf : anyB x t (7 * k - 1) 64 = true := by
              have := mt (HA.out k hk1 (by omega)).2 (HN.out.2.2 k hk1 (by omega))
              simpa using this
            rw [hf]
            clear hf
            go_wp2
            go_roundw
            case rel => exact ⟨k + 1, d2, by omega, by omega, by go_num, rfl⟩
            case measure => simp [intOf]; omega
    · obtain rfl : k = 10 := by omega
      obtain rfl : n = 10 := by omega
      obtain ⟨d2, rfl⟩ : ∃ d2, d2 = d := ⟨_, rfl⟩
      go_wp2_with (go_at_call 19; go_must (refine (group_any x 10 t (some ⟨b, off, none⟩) c _ (w1.drewN d2) HL.out (Nat.le_refl _) H64.out h10).mono ?_; intro e w2 hb2; have HB2 := Lib.hid (bytes_made hb2 (below_drewN HBE.out d2)); obtain ⟨A2, c2, rfl, -⟩ := hb2))
      go_ret
      exact HB2.out
end Go.Proofs.Ytjgghgfljkpemaa
