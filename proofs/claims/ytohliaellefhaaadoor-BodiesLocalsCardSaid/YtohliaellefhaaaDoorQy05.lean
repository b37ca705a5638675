/- leb.Uint and creelref02.Uint: the same bytes, as a list. -/
import Derived.Test.YtohliaellefhaaaDoorQy04
import Derived.Test.YtohliaellefhaaaDoorQy01
import Derived.Test.YtohliaellefhaaaDoorQy02
import Derived.WalkSpells
import Derived.Laws.MakeOwn
namespace Go.Proofs.YtohliaellefhaaaDoor
set_option linter.unusedVariables false
open Go.RowKit

/-- How many bytes a number takes. -/
noncomputable def lebN (x : Int) : Nat := if h : x ≤ 18446744073709551615 then (leastU x h).choose else 1
/-- A number's bytes. -/
noncomputable def lebL (x : Int) : List UInt8 := (grp x (lebN x)).map fun c => UInt8.ofNat c.toNat
theorem lebN_least (x : Int) (h : x ≤ 18446744073709551615) : Least (fitU x) (lebN x) := by
  unfold lebN
  rw [dif_pos h]
  exact (leastU x h).choose_spec
theorem grp_bytes (x : Int) (n : Nat) : ∀ c ∈ grp x n, 0 ≤ c ∧ c ≤ 255 := by
  intro c hc
  obtain ⟨i, _, rfl⟩ := List.mem_map.1 hc
  have : 0 ≤ x / 128 ^ i % 128 ∧ x / 128 ^ i % 128 ≤ 127 := by omega
  split <;> omega
theorem nums_lebL (x : Int) : nums (lebL x) = grp x (lebN x) := by
  unfold nums lebL
  rw [List.map_map]
  conv => rhs; rw [← List.map_id (grp x (lebN x))]
  apply List.map_congr_left
  intro c hc
  have := grp_bytes x _ c hc
  simp
  omega
theorem lebL_length (x : Int) : (lebL x).length = lebN x := by unfold lebL; rw [List.length_map, grp_length]
theorem lebL_len (x : Int) (h : x ≤ 18446744073709551615) : 1 ≤ (lebL x).length ∧ (lebL x).length ≤ 10 := by
  rw [lebL_length]
  have h1 := lebN_least x h
  exact ⟨h1.1, h1.le (by omega) (fitU_ten x (by omega))⟩
/-- What both hand back. -/
def Leb (l : List UInt8) (w : World) (e : Ending) (w' : World) : Prop := ∃ A c, e = .returned (.slice A l.length c) ∧ Lies w' w'.heap.size A (cells (nums l)) ∧ Below w.heap.size w w'
theorem leb_of {x : Int} {w w' : World} {e : Ending} (h : Bytes (grp x (lebN x)) w e w') : Leb (lebL x) w e w' := by
  obtain ⟨A, c, h1, _, _, h4, _, h6⟩ := h
  rw [← nums_lebL] at h1 h4
  rw [nums_length] at h1
  exact ⟨A, c, h1, h4, h6⟩
theorem uintL (x : Int) (w : World) (h0 : 0 ≤ x) (h1 : x ≤ 18446744073709551615) : Calls Tryd.prog 52 #[.int .u64 x] w (Leb (lebL x) w) :=
  (uint_any x w h0 h1 (lebN_least x h1)).mono fun _ _ h => leb_of h
theorem refUintL (x : Int) (w : World) (h0 : 0 ≤ x) (h1 : x ≤ 18446744073709551615) : Calls Tryd.prog 40 #[.int .u64 x] w (Leb (lebL x) w) :=
  (refUint_any x w h0 h1 (lebN_least x h1)).mono fun _ _ h => leb_of h
end Go.Proofs.YtohliaellefhaaaDoor

/- leb.Int and creelref02.Int (from the leb layer): the least number of groups of seven bits. -/
namespace Go.Proofs.YtohliaellefhaaaDoor
set_option linter.unusedVariables false
open Go.RowKit
set_option maxRecDepth 100000

theorem no_moreS {x : Int} {k : Nat} (h : ∀ m, 1 ≤ m → m ≤ k → ¬ fitS x m) (hq : x / 128 ^ k < -64 ∨ 64 ≤ x / 128 ^ k) : ∀ m, 1 ≤ m → m ≤ k + 1 → ¬ fitS x m := by
  intro m h1 h2 h3
  rcases Nat.lt_or_ge m (k + 1) with g | g
  · exact h m h1 (by omega) h3
  · obtain rfl : m = k + 1 := by omega
    obtain ⟨a, b⟩ : -64 ≤ x / 128 ^ k ∧ x / 128 ^ k < 64 := h3
    omega
theorem bytes_endS {x q : Int} {n k : Nat} {w w2 : World} {v : Value} (hq : q = x / 128 ^ k) (hn : Least (fitS x) n) (hno : ∀ m, 1 ≤ m → m ≤ k → ¬ fitS x m) (hf : -64 ≤ q) (hf2 : q < 64)
    (ho : w2.ownsRow w.heap.size 5 1 v (k + 1) (cells (grps x k) ++ [.int .u8 (q % 128)])) (hb : Below w.heap.size w w2) : Bytes (grp x n) w (.returned v) w2 := by
  have hk : Least (fitS x) (k + 1) := ⟨by omega, by show -64 ≤ x / 128 ^ k ∧ x / 128 ^ k < 64; omega, fun m h1 h2 => hno m h1 (by omega)⟩
  obtain rfl := hk.unique hn
  have e : cells (grp x (k + 1)) = cells (grps x k) ++ [.int .u8 (q % 128)] := by rw [grp_snoc, cells_snoc, ← hq]
  exact bytes_own (by rw [e]; exact ho) (grp_length _ _) hb
theorem div_small {x q : Int} {k : Nat} (h0 : -9223372036854775808 ≤ x) (h1 : x ≤ 9223372036854775807) (hq : q = x / 128 ^ k) : -9223372036854775808 ≤ q ∧ q ≤ 9223372036854775807 := by
  have hp := p128 k
  subst hq
  refine ⟨(Int.le_ediv_iff_mul_le hp).2 ?_, ?_⟩
  · have := Int.mul_le_mul_of_nonneg_left (show (1 : Int) ≤ 128 ^ k by omega) (show (0 : Int) ≤ 9223372036854775808 by omega)
    omega
  · rcases Int.lt_or_le x 0 with g | g
    · have := Int.ediv_neg_of_neg_of_pos g hp; omega
    · exact Int.le_trans (Int.ediv_le_self _ g) h1

set_option maxHeartbeats 800000 in
theorem int_any (x : Int) (w : World) (h0 : -9223372036854775808 ≤ x) (h1 : x ≤ 9223372036854775807) {n : Nat} (hn : Least (fitS x) n) :
    Calls Tryd.prog 82 #[.int .i64 x] w (Bytes (grp x n) w) := by
  obtain ⟨i0, hi0, hz0, hz1, hz2⟩ := info_parts infoB
  have HN := Lib.hid hn
  clear hn
  go_enter Tryd.func82, Tryd.ntmps82
  go_wp2
  go_loopw [3, 0] (fun b v wr => ∃ k : Nat, v = .int .i64 (x / 128 ^ k) ∧ wr.ownsRow w.heap.size 5 1 b k (cells (grps x k)) ∧ Below w.heap.size w wr ∧ ∀ m, 1 ≤ m → m ≤ k → ¬ fitS x m) (fun _ v _ => (intOf v).natAbs)
  case atStart => exact ⟨0, by simp, World.ownsRow_nil _ _ _ _, Below.refl _ _, fun m h1 h2 => by omega⟩
  case round =>
    obtain ⟨k, rfl, hown, hbe, hno⟩ := hrel
    obtain ⟨q, hq⟩ : ∃ q, q = x / 128 ^ k := ⟨_, rfl⟩
    obtain ⟨hq0, hq1⟩ := div_small h0 h1 hq
    have hk : k ≤ 9 := by
      rcases Nat.lt_or_ge k 10 with g | g
      · omega
      · exact absurd (fitS_ten x h0 (by omega)) (hno 10 (by omega) g)
    have hsz := hbe.size
    rw [← hq]
    have HQ := Lib.hid hq
    have HBE := Lib.hid hbe
    have HNO := Lib.hid hno
    have hor : bits .or .u8 (q % 256) 128 = q % 128 + 128 := byte_or q
    have hnot : bits .andNot .u8 (q % 256) 128 = q % 128 := byte_not q
    clear hq hbe hno
    have hparts : q < -64 ∨ 64 ≤ q ∨ (-64 ≤ q ∧ q < 64) := by omega
    rcases hparts with hlt | hlt | ⟨hge, hlt⟩
    · go_wp2_with (at_builtin; refine wpList_append_own _ rfl _ _ _ rfl w.heap.size 5 i0 _ 1 1 Tryd.underlying36 hi0 hz0 hz1 hz2 rfl (by omega) _ _ _ rfl (hown.alloc _) ⟨wr.heap.size, 0, none⟩ 1 1 [.int .u8 (q % 128 + 128)] rfl rfl (World.news_of_block (cs := #[.int .u8 (q % 128 + 128)]) (t := 5) (fr := (0, 0)) (heap_alloc_new wr _)) (by simp [Value.oneCell']) (by unfold maxLen; omega) (by omega) (by simp; omega) ?_; intro v' w2 hown2 hgrow2 _; have HO2 := Lib.hid hown2; have HG2 := Lib.hid hgrow2; clear hown2 hgrow2)
      go_roundw
      case rel => exact ⟨k + 1, by rw [pow_out, HQ.out], by rw [grps_snoc, cells_snoc, ← HQ.out]; exact HO2.out, below_append HBE.out hown HG2.out, no_moreS HNO.out (by rw [← HQ.out]; omega)⟩
      case measure => simp [intOf]; omega
    · have hn0 : ¬ q < -64 := by omega
      go_wp2_with (at_builtin; refine wpList_append_own _ rfl _ _ _ rfl w.heap.size 5 i0 _ 1 1 Tryd.underlying36 hi0 hz0 hz1 hz2 rfl (by omega) _ _ _ rfl (hown.alloc _) ⟨wr.heap.size, 0, none⟩ 1 1 [.int .u8 (q % 128 + 128)] rfl rfl (World.news_of_block (cs := #[.int .u8 (q % 128 + 128)]) (t := 5) (fr := (0, 0)) (heap_alloc_new wr _)) (by simp [Value.oneCell']) (by unfold maxLen; omega) (by omega) (by simp; omega) ?_; intro v' w2 hown2 hgrow2 _; have HO2 := Lib.hid hown2; have HG2 := Lib.hid hgrow2; clear hown2 hgrow2)
      go_roundw
      case rel => exact ⟨k + 1, by rw [pow_out, HQ.out], by rw [grps_snoc, cells_snoc, ← HQ.out]; exact HO2.out, below_append HBE.out hown HG2.out, no_moreS HNO.out (by rw [← HQ.out]; omega)⟩
      case measure => simp [intOf]; omega
    · have hd : decide (64 ≤ q) = false := by simpa using hlt
      go_wp2_with (at_builtin; refine wpList_append_own _ rfl _ _ _ rfl w.heap.size 5 i0 _ 1 1 Tryd.underlying36 hi0 hz0 hz1 hz2 rfl (by omega) _ _ _ rfl (hown.alloc _) ⟨wr.heap.size, 0, none⟩ 1 1 [.int .u8 (q % 128)] rfl rfl (World.news_of_block (cs := #[.int .u8 (q % 128)]) (t := 5) (fr := (0, 0)) (heap_alloc_new wr _)) (by simp [Value.oneCell']) (by unfold maxLen; omega) (by omega) (by simp; omega) ?_; intro v' w2 hown2 hgrow2 _; have HO2 := Lib.hid hown2; have HG2 := Lib.hid hgrow2; clear hown2 hgrow2)
      go_ret
      exact bytes_endS HQ.out HN.out HNO.out (by omega) (by omega) HO2.out (below_append HBE.out hown HG2.out)
theorem fitS_any {x : Int} (h0 : -9223372036854775808 ≤ x) (h1 : x ≤ 9223372036854775807) (k : Nat) (a : 1 ≤ k) (b : k ≤ 9) : fitS x k ↔ anyB x (bit x 63) (7 * k - 1) 64 = false := by
  rw [any_none]; exact fitS_bits (by show -9223372036854775808 ≤ x; omega) (by show x < 9223372036854775808; omega) a b
theorem mod64_bit (x : Int) (j : Nat) (hj : j < 64) : bit (x % 18446744073709551616) j = bit x j := by
  unfold bit
  have e : (18446744073709551616 : Int) = 2 ^ j * 2 * 2 ^ (63 - j) := by
    rw [show (2 : Int) ^ j * 2 = 2 ^ (j + 1) from (Int.pow_succ 2 j).symm, ← Int.pow_add, show j + 1 + (63 - j) = 64 by omega]; rfl
  have hp := p2 j
  have e2 : x = x % 18446744073709551616 + 2 ^ j * (2 * 2 ^ (63 - j) * (x / 18446744073709551616)) := by
    rw [← Int.mul_assoc, ← Int.mul_assoc, ← e]; exact (Int.emod_add_mul_ediv x _).symm
  generalize x % 18446744073709551616 = y at *
  generalize x / 18446744073709551616 = z at *
  rw [e2, Int.add_mul_ediv_left _ _ (Int.ne_of_gt hp), Int.mul_assoc 2]
  congr 1
  omega
theorem bools_mod (x : Int) : bools (x % 18446744073709551616) 64 = bools x 64 := by
  unfold bools
  apply List.map_congr_left
  intro j hj
  rw [mod64_bit x j (List.mem_range.1 hj)]
theorem sign_bits {x : Int} (h0 : -9223372036854775808 ≤ x) (h1 : x ≤ 9223372036854775807) (j : Nat) (hj : 63 ≤ j) : bit x j = bit x 63 := by
  have h : x / 2 ^ 63 = 0 ∨ x / 2 ^ 63 = -1 := by
    show x / 9223372036854775808 = 0 ∨ x / 9223372036854775808 = -1
    omega
  rcases h with h | h
  · rw [from_same (a := 63) (t := false) (by simpa using h) j hj, from_same (a := 63) (t := false) (by simpa using h) 63 (by omega)]
  · rw [from_same (a := 63) (t := true) (by simpa using h) j hj, from_same (a := 63) (t := true) (by simpa using h) 63 (by omega)]

end Go.Proofs.YtohliaellefhaaaDoor

/- leb.Uint, leb.Int: what they hand back is a row of the call's own; a signed number's bytes. (By gen/genOwn.py from the leb layer.) -/
namespace Go.Proofs.YtohliaellefhaaaDoor
open Go.RowKit
set_option linter.unusedVariables false
set_option maxRecDepth 100000

def Owned (l : List Int) (w : World) (e : Ending) (w' : World) : Prop := ∃ v, e = .returned v ∧ w'.ownsRow w.heap.size 5 1 v l.length (cells l) ∧ Below w.heap.size w w'
theorem owned_own {w w' : World} {n : Nat} {v : Value} {l : List Int} (h : w'.ownsRow w.heap.size 5 1 v n (cells l)) (hn : l.length = n) (hb : Below w.heap.size w w') : Owned l w (.returned v) w' := by
  subst hn
  exact ⟨v, rfl, h, hb⟩
theorem own_end {x q : Int} {n k : Nat} {w w2 : World} {v : Value} (hq : q = x / 128 ^ k) (hn : Least (fitU x) n) (hno : ∀ m, 1 ≤ m → m ≤ k → ¬ fitU x m) (hf : q < 128)
    (ho : w2.ownsRow w.heap.size 5 1 v (k + 1) (cells (grps x k) ++ [.int .u8 q])) (hb : Below w.heap.size w w2) (h0 : 0 ≤ q) : Owned (grp x n) w (.returned v) w2 := by
  have hk : Least (fitU x) (k + 1) := ⟨by omega, by show x / 128 ^ k < 128; omega, fun m h1 h2 => hno m h1 (by omega)⟩
  obtain rfl := hk.unique hn
  have e : cells (grp x (k + 1)) = cells (grps x k) ++ [.int .u8 q] := by rw [grp_snoc, cells_snoc, ← hq, show q % 128 = q by omega]
  exact owned_own (by rw [e]; exact ho) (grp_length _ _) hb

set_option maxHeartbeats 400000 in
theorem uint_own (x : Int) (w : World) (h0 : 0 ≤ x) (h1 : x ≤ 18446744073709551615) {n : Nat} (hn : Least (fitU x) n) :
    Calls Tryd.prog 52 #[.int .u64 x] w (Owned (grp x n) w) := by
  have h10 : n ≤ 10 := hn.le (by omega) (fitU_ten x (by omega))
  obtain ⟨i0, hi0, hz0, hz1, hz2⟩ := info_parts infoB
  have HN := Lib.hid hn
  clear hn
  go_enter Tryd.func52, Tryd.ntmps52
  go_wp2_with (first
    | (go_at_call 69; go_must (refine (size_any _ _ h0 h1 HN.out).mono ?_; rintro e w' ⟨rfl, rfl⟩))
    | (at_make; refine wpList_make_own _ rfl _ _ _ rfl w.heap.size 5 i0 _ 1 Tryd.underlying36 hi0 hz0 hz1 .i64 .i64 _ n rfl rfl rfl (by rw [hz2]; omega) (by unfold maxLen; omega) (Nat.le_refl _) ?_; intro w1 hown1 hgrow1))
  have hbe1 : Below w.heap.size w w1 := below_of_gb hgrow1
  have HO := Lib.hid hown1
  have HB := Lib.hid hbe1
  clear hown1 hgrow1 hbe1
  go_loopw [3, 0] (fun b v wr => ∃ k : Nat, v = .int .u64 (x / 128 ^ k) ∧ wr.ownsRow w.heap.size 5 1 b k (cells (grps x k)) ∧ Below w.heap.size w wr ∧ ∀ m, 1 ≤ m → m ≤ k → ¬ fitU x m) (fun _ v _ => (intOf v).toNat)
  case atStart => exact ⟨0, by simp, HO.out, HB.out, fun m h1 h2 => by omega⟩
  case round =>
    obtain ⟨k, rfl, hown, hbe, hno⟩ := hrel
    obtain ⟨q, hq⟩ : ∃ q, q = x / 128 ^ k := ⟨_, rfl⟩
    have hq0 : 0 ≤ q := by rw [hq]; exact Int.ediv_nonneg h0 (Int.le_of_lt (p128 _))
    have hq1 : q ≤ 18446744073709551615 := by rw [hq]; exact Int.le_trans (Int.ediv_le_self _ h0) h1
    have hk : k ≤ 9 := by
      rcases Nat.lt_or_ge k 10 with g | g
      · omega
      · exact absurd (fitU_ten x (by omega)) (hno 10 (by omega) g)
    have hsz := hbe.size
    rw [← hq]
    have HQ := Lib.hid hq
    have HBE := Lib.hid hbe
    have HNO := Lib.hid hno
    have hor : bits .or .u8 (q % 256) 128 = q % 128 + 128 := byte_or q
    clear hq hbe hno
    by_cases hlt : 128 ≤ q
    · go_wp2_with (at_builtin; refine wpList_append_own _ rfl _ _ _ rfl w.heap.size 5 i0 _ 1 1 Tryd.underlying36 hi0 hz0 hz1 hz2 rfl (by omega) _ _ _ rfl (hown.alloc _) ⟨wr.heap.size, 0, none⟩ 1 1 [.int .u8 (q % 128 + 128)] rfl rfl (World.news_of_block (cs := #[.int .u8 (q % 128 + 128)]) (t := 5) (fr := (0, 0)) (heap_alloc_new wr _)) (by simp [Value.oneCell']) (by unfold maxLen; omega) (by omega) (by simp; omega) ?_; intro v' w2 hown2 hgrow2 _; have HO2 := Lib.hid hown2; have HG2 := Lib.hid hgrow2; clear hown2 hgrow2)
      go_roundw
      case rel => exact ⟨k + 1, by rw [pow_out, HQ.out], by rw [grps_snoc, cells_snoc, ← HQ.out]; exact HO2.out, below_append HBE.out hown HG2.out, no_more HNO.out (by rw [← HQ.out]; omega)⟩
      case measure => simp [intOf]; omega
    · go_wp2_with (at_builtin; refine wpList_append_own _ rfl _ _ _ rfl w.heap.size 5 i0 _ 1 1 Tryd.underlying36 hi0 hz0 hz1 hz2 rfl (by omega) _ _ _ rfl (hown.alloc _) ⟨wr.heap.size, 0, none⟩ 1 1 [.int .u8 q] rfl rfl (World.news_of_block (cs := #[.int .u8 q]) (t := 5) (fr := (0, 0)) (heap_alloc_new wr _)) (by simp [Value.oneCell']) (by unfold maxLen; omega) (by omega) (by simp; omega) ?_; intro v' w2 hown2 hgrow2 _; have HO2 := Lib.hid hown2; have HG2 := Lib.hid hgrow2; clear hown2 hgrow2)
      go_ret
      exact own_end HQ.out HN.out HNO.out (by omega) HO2.out (below_append HBE.out hown HG2.out) hq0

theorem own_endS {x q : Int} {n k : Nat} {w w2 : World} {v : Value} (hq : q = x / 128 ^ k) (hn : Least (fitS x) n) (hno : ∀ m, 1 ≤ m → m ≤ k → ¬ fitS x m) (hf : -64 ≤ q) (hf2 : q < 64)
    (ho : w2.ownsRow w.heap.size 5 1 v (k + 1) (cells (grps x k) ++ [.int .u8 (q % 128)])) (hb : Below w.heap.size w w2) : Owned (grp x n) w (.returned v) w2 := by
  have hk : Least (fitS x) (k + 1) := ⟨by omega, by show -64 ≤ x / 128 ^ k ∧ x / 128 ^ k < 64; omega, fun m h1 h2 => hno m h1 (by omega)⟩
  obtain rfl := hk.unique hn
  have e : cells (grp x (k + 1)) = cells (grps x k) ++ [.int .u8 (q % 128)] := by rw [grp_snoc, cells_snoc, ← hq]
  exact owned_own (by rw [e]; exact ho) (grp_length _ _) hb
set_option maxHeartbeats 800000 in
theorem int_own (x : Int) (w : World) (h0 : -9223372036854775808 ≤ x) (h1 : x ≤ 9223372036854775807) {n : Nat} (hn : Least (fitS x) n) :
    Calls Tryd.prog 82 #[.int .i64 x] w (Owned (grp x n) w) := by
  obtain ⟨i0, hi0, hz0, hz1, hz2⟩ := info_parts infoB
  have HN := Lib.hid hn
  clear hn
  go_enter Tryd.func82, Tryd.ntmps82
  go_wp2
  go_loopw [3, 0] (fun b v wr => ∃ k : Nat, v = .int .i64 (x / 128 ^ k) ∧ wr.ownsRow w.heap.size 5 1 b k (cells (grps x k)) ∧ Below w.heap.size w wr ∧ ∀ m, 1 ≤ m → m ≤ k → ¬ fitS x m) (fun _ v _ => (intOf v).natAbs)
  case atStart => exact ⟨0, by simp, World.ownsRow_nil _ _ _ _, Below.refl _ _, fun m h1 h2 => by omega⟩
  case round =>
    obtain ⟨k, rfl, hown, hbe, hno⟩ := hrel
    obtain ⟨q, hq⟩ : ∃ q, q = x / 128 ^ k := ⟨_, rfl⟩
    obtain ⟨hq0, hq1⟩ := div_small h0 h1 hq
    have hk : k ≤ 9 := by
      rcases Nat.lt_or_ge k 10 with g | g
      · omega
      · exact absurd (fitS_ten x h0 (by omega)) (hno 10 (by omega) g)
    have hsz := hbe.size
    rw [← hq]
    have HQ := Lib.hid hq
    have HBE := Lib.hid hbe
    have HNO := Lib.hid hno
    have hor : bits .or .u8 (q % 256) 128 = q % 128 + 128 := byte_or q
    have hnot : bits .andNot .u8 (q % 256) 128 = q % 128 := byte_not q
    clear hq hbe hno
    have hparts : q < -64 ∨ 64 ≤ q ∨ (-64 ≤ q ∧ q < 64) := by omega
    rcases hparts with hlt | hlt | ⟨hge, hlt⟩
    · go_wp2_with (at_builtin; refine wpList_append_own _ rfl _ _ _ rfl w.heap.size 5 i0 _ 1 1 Tryd.underlying36 hi0 hz0 hz1 hz2 rfl (by omega) _ _ _ rfl (hown.alloc _) ⟨wr.heap.size, 0, none⟩ 1 1 [.int .u8 (q % 128 + 128)] rfl rfl (World.news_of_block (cs := #[.int .u8 (q % 128 + 128)]) (t := 5) (fr := (0, 0)) (heap_alloc_new wr _)) (by simp [Value.oneCell']) (by unfold maxLen; omega) (by omega) (by simp; omega) ?_; intro v' w2 hown2 hgrow2 _; have HO2 := Lib.hid hown2; have HG2 := Lib.hid hgrow2; clear hown2 hgrow2)
      go_roundw
      case rel => exact ⟨k + 1, by rw [pow_out, HQ.out], by rw [grps_snoc, cells_snoc, ← HQ.out]; exact HO2.out, below_append HBE.out hown HG2.out, no_moreS HNO.out (by rw [← HQ.out]; omega)⟩
      case measure => simp [intOf]; omega
    · have hn0 : ¬ q < -64 := by omega
      go_wp2_with (at_builtin; refine wpList_append_own _ rfl _ _ _ rfl w.heap.size 5 i0 _ 1 1 Tryd.underlying36 hi0 hz0 hz1 hz2 rfl (by omega) _ _ _ rfl (hown.alloc _) ⟨wr.heap.size, 0, none⟩ 1 1 [.int .u8 (q % 128 + 128)] rfl rfl (World.news_of_block (cs := #[.int .u8 (q % 128 + 128)]) (t := 5) (fr := (0, 0)) (heap_alloc_new wr _)) (by simp [Value.oneCell']) (by unfold maxLen; omega) (by omega) (by simp; omega) ?_; intro v' w2 hown2 hgrow2 _; have HO2 := Lib.hid hown2; have HG2 := Lib.hid hgrow2; clear hown2 hgrow2)
      go_roundw
      case rel => exact ⟨k + 1, by rw [pow_out, HQ.out], by rw [grps_snoc, cells_snoc, ← HQ.out]; exact HO2.out, below_append HBE.out hown HG2.out, no_moreS HNO.out (by rw [← HQ.out]; omega)⟩
      case measure => simp [intOf]; omega
    · have hd : decide (64 ≤ q) = false := by simpa using hlt
      go_wp2_with (at_builtin; refine wpList_append_own _ rfl _ _ _ rfl w.heap.size 5 i0 _ 1 1 Tryd.underlying36 hi0 hz0 hz1 hz2 rfl (by omega) _ _ _ rfl (hown.alloc _) ⟨wr.heap.size, 0, none⟩ 1 1 [.int .u8 (q % 128)] rfl rfl (World.news_of_block (cs := #[.int .u8 (q % 128)]) (t := 5) (fr := (0, 0)) (heap_alloc_new wr _)) (by simp [Value.oneCell']) (by unfold maxLen; omega) (by omega) (by simp; omega) ?_; intro v' w2 hown2 hgrow2 _; have HO2 := Lib.hid hown2; have HG2 := Lib.hid hgrow2; clear hown2 hgrow2)
      go_ret
      exact own_endS HQ.out HN.out HNO.out (by omega) (by omega) HO2.out (below_append HBE.out hown HG2.out)
theorem leastS (x : Int) (h0 : -9223372036854775808 ≤ x) (h1 : x ≤ 9223372036854775807) : ∃ n, Least (fitS x) n := least_find _ 10 (by omega) (fitS_ten x h0 (by omega))
/-- How many bytes a number with a sign takes. -/
noncomputable def sebN (x : Int) : Nat := if h : -9223372036854775808 ≤ x ∧ x ≤ 9223372036854775807 then (leastS x h.1 h.2).choose else 1
/-- A number's bytes, with a sign. -/
noncomputable def sebL (x : Int) : List UInt8 := (grp x (sebN x)).map fun c => UInt8.ofNat c.toNat
theorem sebN_least (x : Int) (h0 : -9223372036854775808 ≤ x) (h1 : x ≤ 9223372036854775807) : Least (fitS x) (sebN x) := by
  unfold sebN
  rw [dif_pos ⟨h0, h1⟩]
  exact (leastS x h0 h1).choose_spec
theorem nums_grp (x : Int) (n : Nat) : nums ((grp x n).map fun c => UInt8.ofNat c.toNat) = grp x n := by
  unfold nums
  rw [List.map_map]
  conv => rhs; rw [← List.map_id (grp x n)]
  apply List.map_congr_left
  intro c hc
  have := grp_bytes x _ c hc
  simp
  omega
theorem nums_sebL (x : Int) : nums (sebL x) = grp x (sebN x) := nums_grp x _
theorem sebL_length (x : Int) : (sebL x).length = sebN x := by unfold sebL; rw [List.length_map, grp_length]
theorem sebL_len (x : Int) (h0 : -9223372036854775808 ≤ x) (h1 : x ≤ 9223372036854775807) : 1 ≤ (sebL x).length ∧ (sebL x).length ≤ 10 := by
  rw [sebL_length]
  have h2 := sebN_least x h0 h1
  exact ⟨h2.1, h2.le (by omega) (fitS_ten x h0 (by omega))⟩
theorem bytesL_of {xs : List Int} {l : List UInt8} {w w' : World} {e : Ending} (h : Owned xs w e w') (hl : nums l = xs) : BytesL l w e w' := by
  obtain ⟨v, rfl, h1, h2⟩ := h
  subst hl
  rw [nums_length] at h1
  exact ⟨v, rfl, h1, h2⟩
theorem uintB (x : Int) (w : World) (h0 : 0 ≤ x) (h1 : x ≤ 18446744073709551615) : Calls Tryd.prog 52 #[.int .u64 x] w (BytesL (lebL x) w) :=
  (uint_own x w h0 h1 (lebN_least x h1)).mono fun _ _ h => bytesL_of h (nums_lebL x)
theorem intB (x : Int) (w : World) (h0 : -9223372036854775808 ≤ x) (h1 : x ≤ 9223372036854775807) : Calls Tryd.prog 82 #[.int .i64 x] w (BytesL (sebL x) w) :=
  (int_own x w h0 h1 (sebN_least x h0 h1)).mono fun _ _ h => bytesL_of h (nums_sebL x)
end Go.Proofs.YtohliaellefhaaaDoor

/- The instructions as lists, and what the functions of package ops and of its reference make of them. No program here. -/
namespace Go.Proofs.YtohliaellefhaaaDoor
set_option linter.unusedVariables false

/-- An access: bytes, type, writes, signed. -/
structure AccR where
  n : Nat
  t : Nat
  wr : Bool
  sg : Bool
  deriving DecidableEq
/-- A row of the reference. -/
structure RowR where
  op : Nat
  name : List UInt8
  imm : Nat
  takes : List UInt8
  has : List UInt8
  free : Bool
  deriving DecidableEq
-- LISTS
/-- What controlNames holds. -/
def tab0 : List (List UInt8) := [[117, 110, 114, 101, 97, 99, 104, 97, 98, 108, 101], [110, 111, 112], [98, 108, 111, 99, 107], [108, 111, 111, 112], [105, 102], [101, 108, 115, 101], [], [], [], [], [], [101, 110, 100], [98, 114], [98, 114, 95, 105, 102], [98, 114, 95, 116, 97, 98, 108, 101], [114, 101, 116, 117, 114, 110], [99, 97, 108, 108], [99, 97, 108, 108, 95, 105, 110, 100, 105, 114, 101, 99, 116], [], [], [], [], [], [], [], [], [100, 114, 111, 112], [115, 101, 108, 101, 99, 116], [], [], [], [], [108, 111, 99, 97, 108, 46, 103, 101, 116], [108, 111, 99, 97, 108, 46, 115, 101, 116], [108, 111, 99, 97, 108, 46, 116, 101, 101], [103, 108, 111, 98, 97, 108, 46, 103, 101, 116], [103, 108, 111, 98, 97, 108, 46, 115, 101, 116]]
/-- What memoryNames holds. -/
def tab1 : List (List UInt8) := [[105, 51, 50, 46, 108, 111, 97, 100], [105, 54, 52, 46, 108, 111, 97, 100], [], [], [105, 51, 50, 46, 108, 111, 97, 100, 56, 95, 115], [105, 51, 50, 46, 108, 111, 97, 100, 56, 95, 117], [105, 51, 50, 46, 108, 111, 97, 100, 49, 54, 95, 115], [105, 51, 50, 46, 108, 111, 97, 100, 49, 54, 95, 117], [105, 54, 52, 46, 108, 111, 97, 100, 56, 95, 115], [105, 54, 52, 46, 108, 111, 97, 100, 56, 95, 117], [105, 54, 52, 46, 108, 111, 97, 100, 49, 54, 95, 115], [105, 54, 52, 46, 108, 111, 97, 100, 49, 54, 95, 117], [105, 54, 52, 46, 108, 111, 97, 100, 51, 50, 95, 115], [105, 54, 52, 46, 108, 111, 97, 100, 51, 50, 95, 117], [105, 51, 50, 46, 115, 116, 111, 114, 101], [105, 54, 52, 46, 115, 116, 111, 114, 101], [], [], [105, 51, 50, 46, 115, 116, 111, 114, 101, 56], [105, 51, 50, 46, 115, 116, 111, 114, 101, 49, 54], [105, 54, 52, 46, 115, 116, 111, 114, 101, 56], [105, 54, 52, 46, 115, 116, 111, 114, 101, 49, 54], [105, 54, 52, 46, 115, 116, 111, 114, 101, 51, 50], [109, 101, 109, 111, 114, 121, 46, 115, 105, 122, 101], [109, 101, 109, 111, 114, 121, 46, 103, 114, 111, 119], [105, 51, 50, 46, 99, 111, 110, 115, 116], [105, 54, 52, 46, 99, 111, 110, 115, 116]]
/-- What testNames holds. -/
def tab2 : List (List UInt8) := [[105, 51, 50, 46, 101, 113, 122], [105, 51, 50, 46, 101, 113], [105, 51, 50, 46, 110, 101], [105, 51, 50, 46, 108, 116, 95, 115], [105, 51, 50, 46, 108, 116, 95, 117], [105, 51, 50, 46, 103, 116, 95, 115], [105, 51, 50, 46, 103, 116, 95, 117], [105, 51, 50, 46, 108, 101, 95, 115], [105, 51, 50, 46, 108, 101, 95, 117], [105, 51, 50, 46, 103, 101, 95, 115], [105, 51, 50, 46, 103, 101, 95, 117], [105, 54, 52, 46, 101, 113, 122], [105, 54, 52, 46, 101, 113], [105, 54, 52, 46, 110, 101], [105, 54, 52, 46, 108, 116, 95, 115], [105, 54, 52, 46, 108, 116, 95, 117], [105, 54, 52, 46, 103, 116, 95, 115], [105, 54, 52, 46, 103, 116, 95, 117], [105, 54, 52, 46, 108, 101, 95, 115], [105, 54, 52, 46, 108, 101, 95, 117], [105, 54, 52, 46, 103, 101, 95, 115], [105, 54, 52, 46, 103, 101, 95, 117]]
/-- What numberNames holds. -/
def tab3 : List (List UInt8) := [[105, 51, 50, 46, 99, 108, 122], [105, 51, 50, 46, 99, 116, 122], [105, 51, 50, 46, 112, 111, 112, 99, 110, 116], [105, 51, 50, 46, 97, 100, 100], [105, 51, 50, 46, 115, 117, 98], [105, 51, 50, 46, 109, 117, 108], [105, 51, 50, 46, 100, 105, 118, 95, 115], [105, 51, 50, 46, 100, 105, 118, 95, 117], [105, 51, 50, 46, 114, 101, 109, 95, 115], [105, 51, 50, 46, 114, 101, 109, 95, 117], [105, 51, 50, 46, 97, 110, 100], [105, 51, 50, 46, 111, 114], [105, 51, 50, 46, 120, 111, 114], [105, 51, 50, 46, 115, 104, 108], [105, 51, 50, 46, 115, 104, 114, 95, 115], [105, 51, 50, 46, 115, 104, 114, 95, 117], [105, 51, 50, 46, 114, 111, 116, 108], [105, 51, 50, 46, 114, 111, 116, 114], [105, 54, 52, 46, 99, 108, 122], [105, 54, 52, 46, 99, 116, 122], [105, 54, 52, 46, 112, 111, 112, 99, 110, 116], [105, 54, 52, 46, 97, 100, 100], [105, 54, 52, 46, 115, 117, 98], [105, 54, 52, 46, 109, 117, 108], [105, 54, 52, 46, 100, 105, 118, 95, 115], [105, 54, 52, 46, 100, 105, 118, 95, 117], [105, 54, 52, 46, 114, 101, 109, 95, 115], [105, 54, 52, 46, 114, 101, 109, 95, 117], [105, 54, 52, 46, 97, 110, 100], [105, 54, 52, 46, 111, 114], [105, 54, 52, 46, 120, 111, 114], [105, 54, 52, 46, 115, 104, 108], [105, 54, 52, 46, 115, 104, 114, 95, 115], [105, 54, 52, 46, 115, 104, 114, 95, 117], [105, 54, 52, 46, 114, 111, 116, 108], [105, 54, 52, 46, 114, 111, 116, 114]]
/-- What convertNames holds. -/
def tab4 : List (List UInt8) := [[105, 51, 50, 46, 119, 114, 97, 112, 95, 105, 54, 52], [], [], [], [], [105, 54, 52, 46, 101, 120, 116, 101, 110, 100, 95, 105, 51, 50, 95, 115], [105, 54, 52, 46, 101, 120, 116, 101, 110, 100, 95, 105, 51, 50, 95, 117]]
/-- What accesses holds. -/
def tabA : List AccR := [⟨4, 127, false, false⟩, ⟨8, 126, false, false⟩, ⟨0, 0, false, false⟩, ⟨0, 0, false, false⟩, ⟨1, 127, false, true⟩, ⟨1, 127, false, false⟩, ⟨2, 127, false, true⟩, ⟨2, 127, false, false⟩, ⟨1, 126, false, true⟩, ⟨1, 126, false, false⟩, ⟨2, 126, false, true⟩, ⟨2, 126, false, false⟩, ⟨4, 126, false, true⟩, ⟨4, 126, false, false⟩, ⟨4, 127, true, false⟩, ⟨8, 126, true, false⟩, ⟨0, 0, false, false⟩, ⟨0, 0, false, false⟩, ⟨1, 127, true, false⟩, ⟨2, 127, true, false⟩, ⟨1, 126, true, false⟩, ⟨2, 126, true, false⟩, ⟨4, 126, true, false⟩]
/-- The reference's groups. -/
def groupsL : List RowR := [⟨0, [32, 117, 110, 114, 101, 97, 99, 104, 97, 98, 108, 101], 0, [], [], true⟩, ⟨1, [32, 110, 111, 112], 0, [], [], false⟩, ⟨2, [32, 98, 108, 111, 99, 107, 32, 108, 111, 111, 112, 32, 105, 102], 1, [], [], true⟩, ⟨5, [32, 101, 108, 115, 101], 0, [], [], true⟩, ⟨11, [32, 101, 110, 100], 0, [], [], true⟩, ⟨12, [32, 98, 114, 32, 98, 114, 95, 105, 102], 2, [], [], true⟩, ⟨14, [32, 98, 114, 95, 116, 97, 98, 108, 101], 3, [], [], true⟩, ⟨15, [32, 114, 101, 116, 117, 114, 110], 0, [], [], true⟩, ⟨16, [32, 99, 97, 108, 108], 4, [], [], true⟩, ⟨17, [32, 99, 97, 108, 108, 95, 105, 110, 100, 105, 114, 101, 99, 116], 5, [], [], true⟩, ⟨26, [32, 100, 114, 111, 112, 32, 115, 101, 108, 101, 99, 116], 0, [], [], true⟩, ⟨32, [108, 111, 99, 97, 108, 46, 32, 103, 101, 116, 32, 115, 101, 116, 32, 116, 101, 101], 6, [], [], true⟩, ⟨35, [103, 108, 111, 98, 97, 108, 46, 32, 103, 101, 116, 32, 115, 101, 116], 7, [], [], true⟩, ⟨40, [105, 51, 50, 46, 32, 108, 111, 97, 100], 8, [119], [119], false⟩, ⟨41, [105, 54, 52, 46, 32, 108, 111, 97, 100], 8, [119], [108], false⟩, ⟨44, [105, 51, 50, 46, 32, 108, 111, 97, 100, 56, 95, 115, 32, 108, 111, 97, 100, 56, 95, 117, 32, 108, 111, 97, 100, 49, 54, 95, 115, 32, 108, 111, 97, 100, 49, 54, 95, 117], 8, [119], [119], false⟩, ⟨48, [105, 54, 52, 46, 32, 108, 111, 97, 100, 56, 95, 115, 32, 108, 111, 97, 100, 56, 95, 117, 32, 108, 111, 97, 100, 49, 54, 95, 115, 32, 108, 111, 97, 100, 49, 54, 95, 117, 32, 108, 111, 97, 100, 51, 50, 95, 115, 32, 108, 111, 97, 100, 51, 50, 95, 117], 8, [119], [108], false⟩, ⟨54, [105, 51, 50, 46, 32, 115, 116, 111, 114, 101], 8, [119, 119], [], false⟩, ⟨55, [105, 54, 52, 46, 32, 115, 116, 111, 114, 101], 8, [119, 108], [], false⟩, ⟨58, [105, 51, 50, 46, 32, 115, 116, 111, 114, 101, 56, 32, 115, 116, 111, 114, 101, 49, 54], 8, [119, 119], [], false⟩, ⟨60, [105, 54, 52, 46, 32, 115, 116, 111, 114, 101, 56, 32, 115, 116, 111, 114, 101, 49, 54, 32, 115, 116, 111, 114, 101, 51, 50], 8, [119, 108], [], false⟩, ⟨63, [109, 101, 109, 111, 114, 121, 46, 32, 115, 105, 122, 101], 9, [], [119], false⟩, ⟨64, [109, 101, 109, 111, 114, 121, 46, 32, 103, 114, 111, 119], 9, [119], [119], false⟩, ⟨65, [105, 51, 50, 46, 32, 99, 111, 110, 115, 116], 10, [], [119], false⟩, ⟨66, [105, 54, 52, 46, 32, 99, 111, 110, 115, 116], 11, [], [108], false⟩, ⟨69, [105, 51, 50, 46, 32, 101, 113, 122], 0, [119], [119], false⟩, ⟨70, [105, 51, 50, 46, 32, 101, 113, 32, 110, 101, 32, 108, 116, 95, 115, 32, 108, 116, 95, 117, 32, 103, 116, 95, 115, 32, 103, 116, 95, 117, 32, 108, 101, 95, 115, 32, 108, 101, 95, 117, 32, 103, 101, 95, 115, 32, 103, 101, 95, 117], 0, [119, 119], [119], false⟩, ⟨80, [105, 54, 52, 46, 32, 101, 113, 122], 0, [108], [119], false⟩, ⟨81, [105, 54, 52, 46, 32, 101, 113, 32, 110, 101, 32, 108, 116, 95, 115, 32, 108, 116, 95, 117, 32, 103, 116, 95, 115, 32, 103, 116, 95, 117, 32, 108, 101, 95, 115, 32, 108, 101, 95, 117, 32, 103, 101, 95, 115, 32, 103, 101, 95, 117], 0, [108, 108], [119], false⟩, ⟨103, [105, 51, 50, 46, 32, 99, 108, 122, 32, 99, 116, 122, 32, 112, 111, 112, 99, 110, 116], 0, [119], [119], false⟩, ⟨106, [105, 51, 50, 46, 32, 97, 100, 100, 32, 115, 117, 98, 32, 109, 117, 108, 32, 100, 105, 118, 95, 115, 32, 100, 105, 118, 95, 117, 32, 114, 101, 109, 95, 115, 32, 114, 101, 109, 95, 117, 32, 97, 110, 100, 32, 111, 114, 32, 120, 111, 114, 32, 115, 104, 108, 32, 115, 104, 114, 95, 115, 32, 115, 104, 114, 95, 117, 32, 114, 111, 116, 108, 32, 114, 111, 116, 114], 0, [119, 119], [119], false⟩, ⟨121, [105, 54, 52, 46, 32, 99, 108, 122, 32, 99, 116, 122, 32, 112, 111, 112, 99, 110, 116], 0, [108], [108], false⟩, ⟨124, [105, 54, 52, 46, 32, 97, 100, 100, 32, 115, 117, 98, 32, 109, 117, 108, 32, 100, 105, 118, 95, 115, 32, 100, 105, 118, 95, 117, 32, 114, 101, 109, 95, 115, 32, 114, 101, 109, 95, 117, 32, 97, 110, 100, 32, 111, 114, 32, 120, 111, 114, 32, 115, 104, 108, 32, 115, 104, 114, 95, 115, 32, 115, 104, 114, 95, 117, 32, 114, 111, 116, 108, 32, 114, 111, 116, 114], 0, [108, 108], [108], false⟩, ⟨167, [105, 51, 50, 46, 32, 119, 114, 97, 112, 95, 105, 54, 52], 0, [108], [119], false⟩, ⟨172, [105, 54, 52, 46, 32, 101, 120, 116, 101, 110, 100, 95, 105, 51, 50, 95, 115, 32, 101, 120, 116, 101, 110, 100, 95, 105, 51, 50, 95, 117], 0, [119], [108], false⟩]
-- END LISTS

/-- The name of an instruction. -/
def nameR (n : Nat) : List UInt8 :=
  if n < 37 then tab0.getD n [] else if 40 ≤ n ∧ n < 67 then tab1.getD (n - 40) [] else if 69 ≤ n ∧ n < 91 then tab2.getD (n - 69) [] else if 103 ≤ n ∧ n < 139 then tab3.getD (n - 103) [] else if 167 ≤ n ∧ n < 174 then tab4.getD (n - 167) [] else []
def acc0 : AccR := ⟨0, 0, false, false⟩
def accR (n : Nat) : AccR := if n < 40 then acc0 else tabA.getD (n - 40) acc0
def isAcc (n : Nat) : Bool := decide (0 < (accR n).n)
def between (n a b : Nat) : Bool := decide (a ≤ n ∧ n ≤ b)
def accTypes (n : Nat) : List UInt8 × List UInt8 :=
  if isAcc n = false then ([], []) else if (accR n).wr = true then (if (accR n).t = 127 then ([127, 127], []) else ([127, 126], [])) else if (accR n).t = 127 then ([127], [127]) else ([127], [126])
def typesR (n : Nat) : List UInt8 × List UInt8 :=
  if n = 63 ∨ n = 65 then ([], [127]) else if n = 64 then ([127], [127]) else if n = 66 then ([], [126]) else if n = 69 then ([127], [127]) else if between n 70 79 = true then ([127, 127], [127])
  else if n = 80 then ([126], [127]) else if between n 81 90 = true then ([126, 126], [127]) else if between n 103 105 = true then ([127], [127]) else if between n 106 120 = true then ([127, 127], [127])
  else if between n 121 123 = true then ([126], [126]) else if between n 124 138 = true then ([126, 126], [126]) else if n = 167 then ([126], [127]) else if n = 172 ∨ n = 173 then ([127], [126]) else accTypes n
def immR (n : Nat) : Nat :=
  if n = 2 ∨ n = 3 ∨ n = 4 then 1 else if n = 12 ∨ n = 13 then 2 else if n = 14 then 3 else if n = 16 then 4 else if n = 17 then 5 else if n = 32 ∨ n = 33 ∨ n = 34 then 6 else if n = 35 ∨ n = 36 then 7
  else if n = 63 ∨ n = 64 then 9 else if n = 65 then 10 else if n = 66 then 11 else if isAcc n = true then 8 else 0
def freeR (n : Nat) : Bool := decide (n < 37 ∧ n ≠ 1)
def floatR (n : Nat) : Bool :=
  decide (n = 42 ∨ n = 43 ∨ n = 56 ∨ n = 57 ∨ n = 67 ∨ n = 68) || (between n 91 102 || between n 139 166 || between n 168 171 || between n 174 191)
def checkR (n : Nat) : Nat := if nameR n ≠ [] then 0 else if floatR n = true then 8 else 9
/-- A description. -/
structure Inf where
  name : List UInt8
  imm : Nat
  ps : List UInt8
  rs : List UInt8
  free : Bool
  deriving DecidableEq
def infR (n : Nat) : Inf := if nameR n = [] then ⟨[], 0, [], [], false⟩ else ⟨nameR n, immR n, (typesR n).1, (typesR n).2, freeR n⟩

/-- The reference's word: what is still to come; f rounds are left. -/
def wordGo (s : List UInt8) : Nat → Nat → Int → Nat → Int → Option (List UInt8)
  | 0, _, _, _, _ => none
  | f + 1, i, head, frm, n =>
    if i < s.length ∧ s.getD i 0 ≠ 32 then wordGo s f (i + 1) head frm n
    else if head < 0 then wordGo s f (i + 1) i (i + 1) n
    else if n = 0 then some (s.take head.toNat ++ (s.drop frm).take (i - frm))
    else wordGo s f (i + 1) head (i + 1) (n - 1)
def wordR (s : List UInt8) (n : Int) : Option (List UInt8) := wordGo s (s.length + 1) 0 (-1) 0 n
def row0 : RowR := ⟨0, [], 0, [], [], false⟩
/-- The reference's Of, k rows are left. -/
def ofGo (n : Nat) : Nat → Option RowR
  | 0 => none
  | k + 1 =>
    let r := groupsL.getD k row0
    if r.op ≤ n then (match wordR r.name ((n : Int) - r.op) with | some s => some ⟨n, s, r.imm, r.takes, r.has, r.free⟩ | none => none) else ofGo n k
def refR (n : Nat) : Option RowR := ofGo n 35
def lettersR (s : List UInt8) : List UInt8 := s.map fun c => if c = 119 then 127 else 126
def floatsL : List (Nat × Nat) := [(42, 43), (56, 57), (67, 68), (91, 102), (139, 166), (168, 171), (174, 191)]
def refFloat (n : Nat) : Bool := floatsL.any fun p => decide (p.1 ≤ n ∧ n ≤ p.2)
def refCheck (n : Nat) : Nat := if refFloat n = true then 8 else if (refR n).isSome = true then 0 else 9
def accStep (s : List UInt8) (n : Nat) (i : Nat) : Nat :=
  if i < 3 then n else if s.getD i 0 = 56 then 1 else if (s.drop i).take 2 = [49, 54] then 2 else if (s.drop i).take 2 = [51, 50] then 4 else n
def accLong (s : List UInt8) : Bool := s.take 3 == [105, 54, 52]
def accBytes (s : List UInt8) : Nat :=
  let n := (List.range (s.length - 1)).foldl (accStep s) (if accLong s = true then 8 else 4)
  if s.getD (s.length - 1) 0 = 56 then 1 else n
/-- The reference's Access: bytes, long, writes, signed. -/
def refAcc (n : Nat) : Option (Nat × Bool × Bool × Bool) :=
  match refR n with
  | some r => if r.imm = 8 then some (accBytes r.name, accLong r.name, decide (r.takes.length = 2), r.name.drop (r.name.length - 2) == [95, 115]) else none
  | none => none

/-- Both tell the same of every opcode. -/
def sameTell (n : Nat) : Bool :=
  checkR n == refCheck n && ((immR n == 1) == (decide (2 ≤ n) && decide (n ≤ 4))) && (infR n == match refR n with
    | some r => ⟨r.name, r.imm, lettersR r.takes, lettersR r.has, r.free⟩
    | none => ⟨[], 0, [], [], false⟩)
def sameAcc (n : Nat) : Bool :=
  match refAcc n with
  | some (b, long, w, g) => isAcc n && accR n == ⟨b, if long then 126 else 127, w, g⟩
  | none => !isAcc n && accR n == acc0
theorem tell_all : ∀ n, n < 256 → sameTell n = true := by decide +kernel
theorem acc_all : ∀ n, n < 256 → sameAcc n = true := by decide +kernel
end Go.Proofs.YtohliaellefhaaaDoor
