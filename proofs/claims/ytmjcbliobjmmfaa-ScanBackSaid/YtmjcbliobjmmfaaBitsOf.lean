/- creelref02.Bits and creelref02.Group. -/
import Derived.Test.YtmjcbliobjmmfaaUint
namespace Go.Proofs.Ytmjcbliobjmmfaa
open Go.RowKit

/-- What a function that makes a slice hands back: the values vs, in a row of its own. -/
def Made (vs : List Value) (w : World) (e : Ending) (w' : World) : Prop :=
  ∃ A c, e = .returned (.slice A vs.length c) ∧ vs.length ≤ c ∧ c ≤ maxLen ∧ Lies w' w'.heap.size A vs ∧ (∀ a, A = some a → w.heap.size ≤ a.block ∧ a.block < w'.heap.size) ∧ Below w.heap.size w w'
theorem made_own {w w' : World} {n : Nat} {t : TypeId} {v : Value} {vs : List Value} (h : w'.ownsRow w.heap.size t 1 v n vs) (hn : vs.length = n) (hb : Below w.heap.size w w') : Made vs w (.returned v) w' := by
  obtain ⟨A, c, rfl, h1, h2, h3, h4⟩ := lies_own h
  subst hn
  exact ⟨A, c, rfl, h1, h2, h3, h4, hb⟩

/-- The first n bits of a number. -/
def bools (x : Int) (n : Nat) : List Value := (List.range n).map fun j => .bool (bit x j)
theorem bools_length (x : Int) (n : Nat) : (bools x n).length = n := by simp [bools]
theorem bools_snoc (x : Int) (n : Nat) : bools x (n + 1) = bools x n ++ [.bool (bit x n)] := by simp [bools, List.range_succ]
theorem bools_get (x : Int) {n j : Nat} (h : j < n) : (bools x n)[j]? = some (.bool (bit x j)) := by simp [bools, h]
theorem infoO : (Try.prog.info? 4).map (fun i => (i.zero, i.size, i.bytes)) = some (some (.bool false), 1, 1) := by kernel_rfl
theorem pow_half (x : Int) (k : Nat) : x / 2 ^ (k + 1) = x / 2 ^ k / 2 := by rw [← div_pow]; rfl

set_option maxHeartbeats 400000 in
theorem bits_any (x : Int) (w : World) (h0 : 0 ≤ x) (h1 : x ≤ 18446744073709551615) : Calls Try.prog 44 #[.int .u64 x] w (Made (bools x 64) w) := by
  obtain ⟨i0, hi0, hz0, hz1, hz2⟩ := info_parts infoO
  go_enter Try.func44, Try.ntmps44
  go_wp2
  go_loopw [0, 3, 4] (fun v b i wr => ∃ k : Nat, k ≤ 64 ∧ i = .int .i64 k ∧ v = .int .u64 (x / 2 ^ k) ∧ wr.ownsRow w.heap.size 4 1 b k (bools x k) ∧ Below w.heap.size w wr) (fun _ _ i _ => 64 - (intOf i).toNat)
  case atStart => exact ⟨0, by omega, rfl, by simp, World.ownsRow_nil _ _ _ _, Below.refl _ _⟩
  case round =>
    obtain ⟨k, hk, rfl, rfl, hown, hbe⟩ := hrel
    obtain ⟨q, hq⟩ : ∃ q, q = x / 2 ^ k := ⟨_, rfl⟩
    have hq0 : 0 ≤ q := by rw [hq]; exact Int.ediv_nonneg h0 (Int.le_of_lt (p2 _))
    have hq1 : q ≤ 18446744073709551615 := by rw [hq]; exact Int.le_trans (Int.ediv_le_self _ h0) h1
    have hsz := hbe.size
    rw [← hq]
    have HQ := Lib.hid hq
    have HBE := Lib.hid hbe
    clear hq hbe
    by_cases hlt : k < 64
    · go_wp2_with (at_builtin; refine wpList_append_own _ rfl _ _ _ rfl w.heap.size 4 i0 _ 1 1 Try.underlying71 hi0 hz0 hz1 hz2 rfl (by omega) _ _ _ rfl (hown.alloc _) ⟨wr.heap.size, 0, none⟩ 1 1 [.bool (q % 2 == 1)] rfl rfl (World.news_of_block (cs := #[.bool (q % 2 == 1)]) (t := 4) (fr := (0, 0)) (heap_alloc_new wr _)) (by simp [Value.oneCell']) (by unfold maxLen; omega) (by omega) (by simp; omega) ?_; intro v' w2 hown2 hgrow2 _; have HO2 := Lib.hid hown2; have HG2 := Lib.hid hgrow2; clear hown2 hgrow2)
      go_roundw
      case rel => exact ⟨k + 1, by omega, by go_num, by rw [pow_half, HQ.out], by rw [bools_snoc]; unfold bit; rw [← HQ.out]; exact HO2.out, below_append HBE.out hown HG2.out⟩
      case measure => simp [intOf]; omega
    · obtain rfl : k = 64 := by omega
      go_wp2
      go_ret
      exact made_own hown (bools_length _ _) HBE.out

/-- A byte, its bits from the highest on. -/
theorem group_step (x : Int) (a m : Nat) (hm : m < 7) : x / 2 ^ (a + m) % 2 ^ (7 - m) = x / 2 ^ (a + (m + 1)) % 2 ^ (7 - (m + 1)) * 2 + if bit x (a + m) then 1 else 0 := by
  have e : x / 2 ^ (a + (m + 1)) = x / 2 ^ (a + m) / 2 := by rw [← Nat.add_assoc, pow_half]
  rw [e]
  unfold bit
  generalize x / 2 ^ (a + m) = y
  have h : m = 0 ∨ m = 1 ∨ m = 2 ∨ m = 3 ∨ m = 4 ∨ m = 5 ∨ m = 6 := by omega
  by_cases hy : y % 2 = 1
  · rw [if_pos (by simpa using hy)]
    rcases h with rfl | rfl | rfl | rfl | rfl | rfl | rfl <;> simp <;> omega
  · rw [if_neg (by simpa using hy)]
    rcases h with rfl | rfl | rfl | rfl | rfl | rfl | rfl <;> simp <;> omega
theorem group_bd (x : Int) (a m : Nat) (hm : m ≤ 7) : 0 ≤ x / 2 ^ (a + m) % 2 ^ (7 - m) ∧ x / 2 ^ (a + m) % 2 ^ (7 - m) ≤ 127 := by
  have hp := p2 (7 - m)
  have h1 := Int.emod_nonneg (x / 2 ^ (a + m)) (Int.ne_of_gt hp)
  have h2 := Int.emod_lt_of_pos (x / 2 ^ (a + m)) hp
  have h3 : (2 : Int) ^ (7 - m) ≤ 2 ^ 7 := mono2 (by omega)
  have h4 : (2 : Int) ^ 7 = 128 := rfl
  omega
end Go.Proofs.Ytmjcbliobjmmfaa

