/- leb.Right, Most, Size. -/
import Derived.Test.YtebgmfjgapmpfabDoorQi01
import Derived.Test.YtebgmfjgapmpfabDoorShelf
import Derived.Deep.DeepMust
import Derived.WalkSpells
import Derived.Laws.MakeOwn
import Derived.Deep.QuietTactic
import Derived.BigQuiet
import Derived.Deep.RegionHeld3
namespace Go.Proofs.YtebgmfjgapmpfabDoor
set_option linter.unusedVariables false
open Go.RowKit

/-- How many bytes so many bits want. -/
def mostZ (n : Int) : Int := if 1 ≤ n ∧ n ≤ 64 then (n + 6) / 7 else 0

theorem right_in (n : Int) (w : World) (h1 : 1 ≤ n) (h2 : n ≤ 64) : Calls Tryd.prog 119 #[.int .i64 n] w fun e w' => e = .returned (.bool true) ∧ w = w' := by
  go_enter Tryd.func119, Tryd.ntmps119
  go_wp2
  go_ret
  exact ⟨rfl, rfl⟩
theorem right_out (n : Int) (w : World) (h : n < 1 ∨ 64 < n) : Calls Tryd.prog 119 #[.int .i64 n] w fun e w' => e = .returned (.bool false) ∧ w = w' := by
  rcases h with h | h
  · have h' : ¬ 1 ≤ n := by omega
    go_enter Tryd.func119, Tryd.ntmps119
    go_wp2
    go_ret
    exact ⟨rfl, rfl⟩
  · have h' : 1 ≤ n := by omega
    have h2 : ¬ n ≤ 64 := by omega
    have h3 : decide (n ≤ 64) = false := by simpa using h2
    go_enter Tryd.func119, Tryd.ntmps119
    go_wp2
    go_ret
    exact ⟨rfl, rfl⟩
theorem most_in (n : Int) (w : World) (h1 : 1 ≤ n) (h2 : n ≤ 64) : Calls Tryd.prog 108 #[.int .i64 n] w fun e w' => e = .returned (.int .i64 ((n + 6) / 7)) ∧ w = w' := by
  go_enter Tryd.func108, Tryd.ntmps108
  go_wp2_with (go_at_call 119; refine (right_in _ _ h1 h2).mono ?_; rintro e w' ⟨rfl, rfl⟩)
  go_ret
  exact ⟨ret_int (by omega), rfl⟩
theorem most_out (n : Int) (w : World) (h : n < 1 ∨ 64 < n) : Calls Tryd.prog 108 #[.int .i64 n] w fun e w' => e = .returned (.int .i64 0) ∧ w = w' := by
  go_enter Tryd.func108, Tryd.ntmps108
  go_wp2_with (go_at_call 119; refine (right_out _ _ h).mono ?_; rintro e w' ⟨rfl, rfl⟩)
  go_ret
  exact ⟨rfl, rfl⟩
theorem most_any (n : Int) (w : World) : Calls Tryd.prog 108 #[.int .i64 n] w fun e w' => e = .returned (.int .i64 (mostZ n)) ∧ w = w' := by
  by_cases h : 1 ≤ n ∧ n ≤ 64
  · unfold mostZ; rw [if_pos h]; exact most_in n w h.1 h.2
  · unfold mostZ; rw [if_neg h]; exact most_out n w (by omega)
theorem aux_lo : ∀ (f x : Nat), 0 < Lib.bitLenAux f x → 2 ^ (Lib.bitLenAux f x - 1) ≤ x
  | 0, x, h => by simp [Lib.bitLenAux] at h
  | f + 1, x, h => by
    unfold Lib.bitLenAux at h ⊢
    by_cases hx : x = 0
    · rw [if_pos hx] at h; omega
    · rw [if_neg hx] at h ⊢
      have ih := aux_lo f (x / 2)
      by_cases h0 : 0 < Lib.bitLenAux f (x / 2)
      · have := ih h0
        have e : 1 + Lib.bitLenAux f (x / 2) - 1 = Lib.bitLenAux f (x / 2) - 1 + 1 := by omega
        rw [e, Nat.pow_succ]; omega
      · have : Lib.bitLenAux f (x / 2) = 0 := by omega
        rw [this]; simp; omega
theorem aux_hi : ∀ (f x : Nat), x < 2 ^ f → x < 2 ^ Lib.bitLenAux f x
  | 0, x, h => by simpa [Lib.bitLenAux] using h
  | f + 1, x, h => by
    unfold Lib.bitLenAux
    by_cases hx : x = 0
    · rw [if_pos hx]; subst hx; simp
    · rw [if_neg hx]
      rw [Nat.pow_succ] at h
      have ih := aux_hi f (x / 2) (by omega)
      rw [Nat.add_comm 1, Nat.pow_succ]; omega
theorem len_le (x : Int) (h0 : 0 ≤ x) (h1 : x ≤ 18446744073709551615) : Lib.bitLen x.toNat ≤ 64 := Lib.bitLen_le _ 64 (by omega) (by omega)
/-- The length that Size reckons is the least number of groups. -/
theorem size_least (x : Int) (h0 : 0 ≤ x) (h1 : x ≤ 18446744073709551615) : ∃ n : Nat, Least (fitU x) n ∧ (max 1 (Lib.bitLen x.toNat : Int) + 6) / 7 = n := by
  have hl := len_le x h0 h1
  have hi := aux_hi 64 x.toNat (by omega)
  have lo := aux_lo 64 x.toNat
  change x.toNat < 2 ^ Lib.bitLen x.toNat at hi
  change 0 < Lib.bitLen x.toNat → 2 ^ (Lib.bitLen x.toNat - 1) ≤ x.toNat at lo
  generalize Lib.bitLen x.toNat = b at *
  have hx : x = (x.toNat : Int) := by omega
  generalize x.toNat = y at *
  subst hx
  refine ⟨(max 1 b + 6) / 7, ⟨by omega, ?_, ?_⟩, by omega⟩
  · have e : (y : Int) < 2 ^ (7 * ((max 1 b + 6) / 7)) := by
      have := mono2 (a := b) (b := 7 * ((max 1 b + 6) / 7)) (by omega)
      have h2 : ((2 ^ b : Nat) : Int) = 2 ^ b := by simp
      omega
    generalize hn : (max 1 b + 6) / 7 = n at e
    have hn1 : n = n - 1 + 1 := by omega
    rw [pow7, hn1, Int.pow_succ] at e
    exact (Int.ediv_lt_iff_lt_mul (p128 _)).2 (by rw [Int.mul_comm]; exact e)
  · intro m hm hlt h
    have h' : (y : Int) / 128 ^ (m - 1) < 128 := h
    have h2 := (Int.ediv_lt_iff_lt_mul (p128 _)).1 h'
    have e : (128 : Int) * 128 ^ (m - 1) = 2 ^ (7 * m) := by
      rw [pow7, Int.mul_comm, show (128 : Int) ^ (m - 1) * 128 = 128 ^ (m - 1 + 1) from (Int.pow_succ _ _).symm]; congr 1; omega
    rw [e] at h2
    have hm2 := mono2 (a := 7 * m) (b := b - 1) (by omega)
    have h3 := lo (by omega)
    have h4 : ((2 ^ (b - 1) : Nat) : Int) = 2 ^ (b - 1) := by simp
    omega
theorem size_any (x : Int) (w : World) (h0 : 0 ≤ x) (h1 : x ≤ 18446744073709551615) {n : Nat} (hn : Least (fitU x) n) :
    Calls Tryd.prog 87 #[.int .u64 x] w fun e w' => e = .returned (.int .i64 n) ∧ w = w' := by
  obtain ⟨m, hm, e⟩ := size_least x h0 h1
  obtain rfl := hm.unique hn
  have hl := len_le x h0 h1
  have H := Lib.hid e
  have HM := Lib.hid hm
  have HN := Lib.hid hn
  clear e hm hn
  generalize hb : Lib.bitLen x.toNat = b at *
  have HB := Lib.hid hb
  clear hb
  have hb1 : 1 ≤ max 1 (b : Int) := by omega
  have hb2 : max 1 (b : Int) ≤ 64 := by omega
  go_enter Tryd.func87, Tryd.ntmps87
  go_wp2_with (first
    | (go_at_call 109; go_must (refine (Tryd.bits_Len64 _ _ h0 h1).mono ?_; rintro e w' ⟨rfl, rfl⟩; rw [HB.out]))
    | (go_at_call 108; go_must (refine (most_any _ _).mono ?_; rintro e w' ⟨rfl, rfl⟩)))
  go_ret
  exact ⟨ret_int (by have h := H.out; unfold mostZ; rw [if_pos ⟨by omega, by omega⟩]; exact h), rfl⟩
end Go.Proofs.YtebgmfjgapmpfabDoor

/- leb.Uint: the least number of groups of seven bits. -/
namespace Go.Proofs.YtebgmfjgapmpfabDoor
set_option linter.unusedVariables false
open Go.RowKit

theorem byte_or (q : Int) : bits .or .u8 (q % 256) 128 = q % 128 + 128 := by rw [or128 _ (by omega) (by omega)]; omega
theorem byte_not (q : Int) : bits .andNot .u8 (q % 256) 128 = q % 128 := by rw [not128 _ (by omega) (by omega)]; omega
theorem pow_out (x : Int) (k : Nat) : x / 128 ^ (k + 1) = x / 128 ^ k / 128 := by rw [← div_pow128]; rfl

theorem info3 : (Tryd.prog.info? 5).map (fun i => (i.zero, i.size, i.bytes)) = some (some (.int .u8 0), 1, 1) := infoB

theorem below_append {w wr w2 : World} {e : TypeId} {b : Value} {k : Nat} {vs : List Value} {o : Obj} (hb : Below w.heap.size w wr) (ho : wr.ownsRow w.heap.size e 1 b k vs) (hg : (wr.alloc o).grownBy w2 b.ownBlock) : Below w.heap.size w w2 :=
  Below.grown (hb.alloc hb.size _) hg (by have := hb.size; simp; omega) (fun g h => (ho.lt g h).1)
theorem no_more {x : Int} {k : Nat} (h : ∀ m, 1 ≤ m → m ≤ k → ¬ fitU x m) (hq : ¬ x / 128 ^ k < 128) : ∀ m, 1 ≤ m → m ≤ k + 1 → ¬ fitU x m := by
  intro m h1 h2
  rcases Nat.lt_or_ge m (k + 1) with g | g
  · exact h m h1 (by omega)
  · obtain rfl : m = k + 1 := by omega
    exact hq
theorem bytes_end {x q : Int} {n k : Nat} {w w2 : World} {v : Value} (hq : q = x / 128 ^ k) (hn : Least (fitU x) n) (hno : ∀ m, 1 ≤ m → m ≤ k → ¬ fitU x m) (hf : q < 128)
    (ho : w2.ownsRow w.heap.size 5 1 v (k + 1) (cells (grps x k) ++ [.int .u8 q])) (hb : Below w.heap.size w w2) (h0 : 0 ≤ q) : Bytes (grp x n) w (.returned v) w2 := by
  have hk : Least (fitU x) (k + 1) := ⟨by omega, by show x / 128 ^ k < 128; omega, fun m h1 h2 => hno m h1 (by omega)⟩
  obtain rfl := hk.unique hn
  have e : cells (grp x (k + 1)) = cells (grps x k) ++ [.int .u8 q] := by rw [grp_snoc, cells_snoc, ← hq, show q % 128 = q by omega]
  exact bytes_own (by rw [e]; exact ho) (grp_length _ _) hb

set_option maxHeartbeats 400000 in
theorem uint_any (x : Int) (w : World) (h0 : 0 ≤ x) (h1 : x ≤ 18446744073709551615) {n : Nat} (hn : Least (fitU x) n) :
    Calls Tryd.prog 70 #[.int .u64 x] w (Bytes (grp x n) w) := by
  have h10 : n ≤ 10 := hn.le (by omega) (fitU_ten x (by omega))
  obtain ⟨i0, hi0, hz0, hz1, hz2⟩ := info_parts infoB
  have HN := Lib.hid hn
  clear hn
  go_enter Tryd.func70, Tryd.ntmps70
  go_wp2_with (first
    | (go_at_call 87; go_must (refine (size_any _ _ h0 h1 HN.out).mono ?_; rintro e w' ⟨rfl, rfl⟩))
    | (at_make; refine wpList_make_own _ rfl _ _ _ rfl w.heap.size 5 i0 _ 1 Tryd.underlying41 hi0 hz0 hz1 .i64 .i64 _ n rfl rfl rfl (by rw [hz2]; omega) (by unfold maxLen; omega) (Nat.le_refl _) ?_; intro w1 hown1 hgrow1))
  have hbe1 : Below w.heap.size w w1 := below_of_gb hgrow1
  have HO := Lib.hid hown1
  have HB := Lib.hid hbe1
  clear hown1 hgrow1 hbe1
  go_loopw [3, 0] (fun b v wr => ∃ k : Nat, v = .int .u64 (x / 128 ^ k) ∧ wr.ownsRow w.heap.size 5 1 b k (cells (grps x k)) ∧ Below w.heap.size w wr ∧ ∀ m, 1 ≤ m → m ≤ k → ¬ fitU x m) (fun _ v _ => (intOf v).toNat)
  case atStart => exact ⟨0, by simp, HO.out, HB.out, fun m h1 h2 => by omega⟩
  case round =>
    obtain ⟨k, rfl, hown, hbe, hno⟩ := hrel
    obtain ⟨q, hq⟩ : ∃ q, q = x / 128 ^ k := ⟨_, rfl⟩
    have hq0 : 0 ≤ q := by rw [hq]; exact Int.ediv_nonneg h0 (Int.le_of_lt (p128 _))
    have hq1 : q ≤ 18446744073709551615 := by rw [hq]; exact Int.le_trans (Int.ediv_le_self _ h0) h1
    have hk : k ≤ 9 := by
      rcases Nat.lt_or_ge k 10 with g | g
      · omega
      · exact absurd (fitU_ten x (by omega)) (hno 10 (by omega) g)
    have hsz := hbe.size
    rw [← hq]
    have HQ := Lib.hid hq
    have HBE := Lib.hid hbe
    have HNO := Lib.hid hno
    have hor : bits .or .u8 (q % 256) 128 = q % 128 + 128 := byte_or q
    clear hq hbe hno
    by_cases hlt : 128 ≤ q
    · go_wp2_with (at_builtin; refine wpList_append_own _ rfl _ _ _ rfl w.heap.size 5 i0 _ 1 1 Tryd.underlying41 hi0 hz0 hz1 hz2 rfl (by omega) _ _ _ rfl (hown.alloc _) ⟨wr.heap.size, 0, none⟩ 1 1 [.int .u8 (q % 128 + 128)] rfl rfl (World.news_of_block (cs := #[.int .u8 (q % 128 + 128)]) (t := 5) (fr := (0, 0)) (heap_alloc_new wr _)) (by simp [Value.oneCell']) (by unfold maxLen; omega) (by omega) (by simp; omega) ?_; intro v' w2 hown2 hgrow2 _; have HO2 := Lib.hid hown2; have HG2 := Lib.hid hgrow2; clear hown2 hgrow2)
      go_roundw
      case rel => exact ⟨k + 1, by rw [pow_out, HQ.out], by rw [grps_snoc, cells_snoc, ← HQ.out]; exact HO2.out, below_append HBE.out hown HG2.out, no_more HNO.out (by rw [← HQ.out]; omega)⟩
      case measure => simp [intOf]; omega
    · go_wp2_with (at_builtin; refine wpList_append_own _ rfl _ _ _ rfl w.heap.size 5 i0 _ 1 1 Tryd.underlying41 hi0 hz0 hz1 hz2 rfl (by omega) _ _ _ rfl (hown.alloc _) ⟨wr.heap.size, 0, none⟩ 1 1 [.int .u8 q] rfl rfl (World.news_of_block (cs := #[.int .u8 q]) (t := 5) (fr := (0, 0)) (heap_alloc_new wr _)) (by simp [Value.oneCell']) (by unfold maxLen; omega) (by omega) (by simp; omega) ?_; intro v' w2 hown2 hgrow2 _; have HO2 := Lib.hid hown2; have HG2 := Lib.hid hgrow2; clear hown2 hgrow2)
      go_ret
      exact bytes_end HQ.out HN.out HNO.out (by omega) HO2.out (below_append HBE.out hown HG2.out) hq0
end Go.Proofs.YtebgmfjgapmpfabDoor

/- creelref02.Bits and creelref02.Group. -/
namespace Go.Proofs.YtebgmfjgapmpfabDoor
set_option linter.unusedVariables false
open Go.RowKit

/-- What a function that makes a slice hands back: the values vs, in a row of its own. -/
def Made (vs : List Value) (w : World) (e : Ending) (w' : World) : Prop :=
  ∃ A c, e = .returned (.slice A vs.length c) ∧ vs.length ≤ c ∧ c ≤ maxLen ∧ Lies w' w'.heap.size A vs ∧ (∀ a, A = some a → w.heap.size ≤ a.block ∧ a.block < w'.heap.size) ∧ Below w.heap.size w w'
theorem made_own {w w' : World} {n : Nat} {t : TypeId} {v : Value} {vs : List Value} (h : w'.ownsRow w.heap.size t 1 v n vs) (hn : vs.length = n) (hb : Below w.heap.size w w') : Made vs w (.returned v) w' := by
  obtain ⟨A, c, rfl, h1, h2, h3, h4⟩ := lies_own h
  subst hn
  exact ⟨A, c, rfl, h1, h2, h3, h4, hb⟩

/-- The first n bits of a number. -/
def bools (x : Int) (n : Nat) : List Value := (List.range n).map fun j => .bool (bit x j)
theorem bools_length (x : Int) (n : Nat) : (bools x n).length = n := by simp [bools]
theorem bools_snoc (x : Int) (n : Nat) : bools x (n + 1) = bools x n ++ [.bool (bit x n)] := by simp [bools, List.range_succ]
theorem bools_get (x : Int) {n j : Nat} (h : j < n) : (bools x n)[j]? = some (.bool (bit x j)) := by simp [bools, h]
theorem infoO : (Tryd.prog.info? 4).map (fun i => (i.zero, i.size, i.bytes)) = some (some (.bool false), 1, 1) := by kernel_rfl
theorem pow_half (x : Int) (k : Nat) : x / 2 ^ (k + 1) = x / 2 ^ k / 2 := by rw [← div_pow]; rfl

set_option maxRecDepth 100000 in
set_option maxHeartbeats 400000 in
theorem bits_any (x : Int) (w : World) (h0 : 0 ≤ x) (h1 : x ≤ 18446744073709551615) : Calls Tryd.prog 80 #[.int .u64 x] w (Made (bools x 64) w) := by
  obtain ⟨i0, hi0, hz0, hz1, hz2⟩ := info_parts infoO
  go_enter Tryd.func80, Tryd.ntmps80
  go_wp2
  go_loopw [0, 3, 4] (fun v b i wr => ∃ k : Nat, k ≤ 64 ∧ i = .int .i64 k ∧ v = .int .u64 (x / 2 ^ k) ∧ wr.ownsRow w.heap.size 4 1 b k (bools x k) ∧ Below w.heap.size w wr) (fun _ _ i _ => 64 - (intOf i).toNat)
  case atStart => exact ⟨0, by omega, rfl, by simp, World.ownsRow_nil _ _ _ _, Below.refl _ _⟩
  case round =>
    obtain ⟨k, hk, rfl, rfl, hown, hbe⟩ := hrel
    obtain ⟨q, hq⟩ : ∃ q, q = x / 2 ^ k := ⟨_, rfl⟩
    have hq0 : 0 ≤ q := by rw [hq]; exact Int.ediv_nonneg h0 (Int.le_of_lt (p2 _))
    have hq1 : q ≤ 18446744073709551615 := by rw [hq]; exact Int.le_trans (Int.ediv_le_self _ h0) h1
    have hsz := hbe.size
    rw [← hq]
    have HQ := Lib.hid hq
    have HBE := Lib.hid hbe
    clear hq hbe
    by_cases hlt : k < 64
    · go_wp2_with (at_builtin; refine wpList_append_own _ rfl _ _ _ rfl w.heap.size 4 i0 _ 1 1 Tryd.underlying119 hi0 hz0 hz1 hz2 rfl (by omega) _ _ _ rfl (hown.alloc _) ⟨wr.heap.size, 0, none⟩ 1 1 [.bool (q % 2 == 1)] rfl rfl (World.news_of_block (cs := #[.bool (q % 2 == 1)]) (t := 4) (fr := (0, 0)) (heap_alloc_new wr _)) (by simp [Value.oneCell']) (by unfold maxLen; omega) (by omega) (by simp; omega) ?_; intro v' w2 hown2 hgrow2 _; have HO2 := Lib.hid hown2; have HG2 := Lib.hid hgrow2; clear hown2 hgrow2)
      go_roundw
      case rel => exact ⟨k + 1, by omega, by go_num, by rw [pow_half, HQ.out], by rw [bools_snoc]; unfold bit; rw [← HQ.out]; exact HO2.out, below_append HBE.out hown HG2.out⟩
      case measure => simp [intOf]; omega
    · obtain rfl : k = 64 := by omega
      go_wp2
      go_ret
      exact made_own hown (bools_length _ _) HBE.out

/-- A byte, its bits from the highest on. -/
theorem group_step (x : Int) (a m : Nat) (hm : m < 7) : x / 2 ^ (a + m) % 2 ^ (7 - m) = x / 2 ^ (a + (m + 1)) % 2 ^ (7 - (m + 1)) * 2 + if bit x (a + m) then 1 else 0 := by
  have e : x / 2 ^ (a + (m + 1)) = x / 2 ^ (a + m) / 2 := by rw [← Nat.add_assoc, pow_half]
  rw [e]
  unfold bit
  generalize x / 2 ^ (a + m) = y
  have h : m = 0 ∨ m = 1 ∨ m = 2 ∨ m = 3 ∨ m = 4 ∨ m = 5 ∨ m = 6 := by omega
  by_cases hy : y % 2 = 1
  · rw [if_pos (by simpa using hy)]
    rcases h with rfl | rfl | rfl | rfl | rfl | rfl | rfl <;> simp <;> omega
  · rw [if_neg (by simpa using hy)]
    rcases h with rfl | rfl | rfl | rfl | rfl | rfl | rfl <;> simp <;> omega
theorem group_bd (x : Int) (a m : Nat) (hm : m ≤ 7) : 0 ≤ x / 2 ^ (a + m) % 2 ^ (7 - m) ∧ x / 2 ^ (a + m) % 2 ^ (7 - m) ≤ 127 := by
  have hp := p2 (7 - m)
  have h1 := Int.emod_nonneg (x / 2 ^ (a + m)) (Int.ne_of_gt hp)
  have h2 := Int.emod_lt_of_pos (x / 2 ^ (a + m)) hp
  have h3 : (2 : Int) ^ (7 - m) ≤ 2 ^ 7 := mono2 (by omega)
  have h4 : (2 : Int) ^ 7 = 128 := rfl
  omega
end Go.Proofs.YtebgmfjgapmpfabDoor

/- creelref02.Group: the groups of seven bits, off a list of 64 bits. -/
namespace Go.Proofs.YtebgmfjgapmpfabDoor
set_option linter.unusedVariables false
open Go.RowKit

theorem grp_get (x : Int) {n k : Nat} (h : k < n) : (grp x n)[k]? = some (x / 128 ^ k % 128 + if k + 1 < n then 128 else 0) := by simp [grp, h]
theorem grp_take (x : Int) {n k : Nat} (h : k < n) : (grp x n).take (k + 1) = (grp x n).take k ++ [x / 128 ^ k % 128 + if k + 1 < n then 128 else 0] := by
  have hk : k < (grp x n).length := by rw [grp_length]; exact h
  rw [List.take_succ_eq_append_getElem hk]
  congr 2
  have := grp_get x h
  rw [List.getElem?_eq_getElem hk] at this
  injection this

theorem group_next {x e : Int} {k m : Nat} (hm : m < 7) (he : x / 2 ^ (7 * k + m) % 2 ^ (7 - m) = e) :
    (∃ m' : Nat, m' < 7 ∧ Value.int .i64 ((m : Int) - 1) = .int .i64 m' ∧ Value.int .i64 e = .int .i64 (x / 2 ^ (7 * k + (m' + 1)) % 2 ^ (7 - (m' + 1)))) ∨
      (Value.int .i64 ((m : Int) - 1) = .int .i64 (-1) ∧ Value.int .i64 e = .int .i64 (x / 2 ^ (7 * k + 0) % 2 ^ (7 - 0))) := by
  rcases m with _ | m
  · exact .inr ⟨by simp, by rw [he]⟩
  · exact .inl ⟨m, by omega, by go_num, by rw [he]⟩

set_option maxHeartbeats 800000 in
theorem group_any (x : Int) (n : Nat) (t : Bool) (A : Option Addr) (cap B : Nat) (w : World) (hl : Lies w B A (bools x 64)) (hB : B ≤ w.heap.size) (h64 : ∀ j, 64 ≤ j → bit x j = t) (hn : n ≤ 10) :
    Calls Tryd.prog 81 #[.slice A 64 cap, .int .i64 n, .bool t] w (Bytes (grp x n) w) := by
  obtain ⟨i0, hi0, hz0, hz1, hz2⟩ := info_parts infoB
  have HL := Lib.hid hl
  have H64 := Lib.hid h64
  clear hl h64
  go_enter Tryd.func81, Tryd.ntmps81
  go_wp2
  go_loopw [7, 8] (fun b i wr => ∃ k : Nat, k ≤ n ∧ i = .int .i64 k ∧ wr.ownsRow w.heap.size 5 1 b k (cells ((grp x n).take k)) ∧ Below w.heap.size w wr) (fun _ i _ => n - (intOf i).toNat)
  case atStart => exact ⟨0, by omega, rfl, World.ownsRow_nil _ _ _ _, Below.refl _ _⟩
  case round =>
    obtain ⟨k, hk, rfl, hown, hbe⟩ := hrel
    have hsz := hbe.size
    obtain ⟨wo, rfl⟩ : ∃ wo : World, wo = wr := ⟨_, rfl⟩
    have HL2 := Lib.hid (HL.out.below hbe hB)
    have HO := Lib.hid hown
    have HBE := Lib.hid hbe
    clear hown hbe
    by_cases hlt : k < n
    · go_wp2
      go_loop [9, 10] (fun c d => (∃ m : Nat, m < 7 ∧ d = .int .i64 m ∧ c = .int .i64 (x / 2 ^ (7 * k + (m + 1)) % 2 ^ (7 - (m + 1)))) ∨ (d = .int .i64 (-1) ∧ c = .int .i64 (x / 2 ^ (7 * k + 0) % 2 ^ (7 - 0)))) (fun _ d => (intOf d + 1).toNat)
      case atStart => exact .inl ⟨6, by omega, rfl, by simp⟩
      case round =>
        rcases hrel with ⟨m, hm, rfl, rfl⟩ | ⟨rfl, rfl⟩
        · have hst := group_step x (7 * k) m hm
          have hbd := group_bd x (7 * k) (m + 1) (by omega)
          generalize x / 2 ^ (7 * k + (m + 1)) % 2 ^ (7 - (m + 1)) = c at *
          obtain ⟨c0, c1⟩ := hbd
          have HST := Lib.hid hst
          clear hst
          have htn : (7 * (k : Int) + (m : Int)).toNat = 7 * k + m := by omega
          by_cases hj : 7 * k + m < 64
          · obtain ⟨b, off, rfl, hb, hc⟩ := HL2.out _ _ (bools_get x hj)
            have hj' : 7 * (k : Int) + m < 64 := by omega
            generalize hbt : bit x (7 * k + m) = bt at *
            have HBT := Lib.hid hbt
            clear hbt
            cases bt
            all_goals go_wp2
            all_goals
              go_round
              case rel => exact group_next hm (by rw [HST.out]; simp)
              case measure => simp [intOf]
          · have hj' : ¬ 7 * (k : Int) + m < 64 := by omega
            have HBT := Lib.hid (H64.out (7 * k + m) (by omega))
            cases t
            all_goals go_wp2
            all_goals
              go_round
              case rel => exact group_next hm (by rw [HST.out, HBT.out]; simp)
              case measure => simp [intOf]
        · have e7 : x / 2 ^ (7 * k + 0) % 2 ^ (7 - 0) = x / 128 ^ k % 128 := by rw [Nat.add_zero, pow7]; rfl
          rw [e7]
          have hbd : 0 ≤ x / 128 ^ k % 128 ∧ x / 128 ^ k % 128 ≤ 127 := by omega
          have htk := grp_take x hlt
          clear e7
          generalize x / 128 ^ k % 128 = c at *
          obtain ⟨c0, c1⟩ := hbd
          have HT := Lib.hid htk
          clear htk
          by_cases hla : k + 1 < n
          · have hla' : (k : Int) < n - 1 := by omega
            go_wp2_with (at_builtin; refine wpList_append_own _ rfl _ _ _ rfl w.heap.size 5 i0 _ 1 1 Tryd.underlying41 hi0 hz0 hz1 hz2 rfl (by omega) _ _ _ rfl (HO.out.alloc _) ⟨wo.heap.size, 0, none⟩ 1 1 [.int .u8 (c + 128)] rfl rfl (World.news_of_block (cs := #[.int .u8 (c + 128)]) (t := 5) (fr := (0, 0)) (heap_alloc_new wo _)) (by simp [Value.oneCell']) (by unfold maxLen; omega) (by omega) (by simp; omega) ?_; intro v' w2 hown2 hgrow2 _; have HO2 := Lib.hid hown2; have HG2 := Lib.hid hgrow2; clear hown2 hgrow2)
            go_roundw
            case rel => exact ⟨k + 1, by omega, by go_num, by have h := HT.out; rw [if_pos hla] at h; rw [h, cells_snoc]; exact HO2.out, below_append HBE.out HO.out HG2.out⟩
            case measure => simp [intOf]; omega
          · have hla' : ¬ (k : Int) < n - 1 := by omega
            go_wp2_with (at_builtin; refine wpList_append_own _ rfl _ _ _ rfl w.heap.size 5 i0 _ 1 1 Tryd.underlying41 hi0 hz0 hz1 hz2 rfl (by omega) _ _ _ rfl (HO.out.alloc _) ⟨wo.heap.size, 0, none⟩ 1 1 [.int .u8 (c)] rfl rfl (World.news_of_block (cs := #[.int .u8 (c)]) (t := 5) (fr := (0, 0)) (heap_alloc_new wo _)) (by simp [Value.oneCell']) (by unfold maxLen; omega) (by omega) (by simp; omega) ?_; intro v' w2 hown2 hgrow2 _; have HO2 := Lib.hid hown2; have HG2 := Lib.hid hgrow2; clear hown2 hgrow2)
            go_roundw
            case rel => exact ⟨k + 1, by omega, by go_num, by have h := HT.out; rw [if_neg hla, Int.add_zero] at h; rw [h, cells_snoc]; exact HO2.out, below_append HBE.out HO.out HG2.out⟩
            case measure => simp [intOf]; omega
    · obtain rfl : k = n := by omega
      have hfull := HO.out
      rw [List.take_of_length_le (by rw [grp_length]; omega)] at hfull
      have HF := Lib.hid (bytes_own hfull (grp_length _ _) HBE.out)
      clear hfull
      go_wp2
      go_ret
      exact HF.out
end Go.Proofs.YtebgmfjgapmpfabDoor

/- creelref02.Uint; the least number of groups. -/
namespace Go.Proofs.YtebgmfjgapmpfabDoor
set_option linter.unusedVariables false
open Go.RowKit

theorem below_drewN {B : Nat} {w w1 : World} (h : Below B w w1) (d : Nat) : Below B w (w1.drewN d) := ⟨h.os, h.tape, h.output, h.size, h.block⟩

/-- Is a bit from a up to j other than t? -/
def anyB (x : Int) (t : Bool) (a : Nat) : Nat → Bool
  | 0 => false
  | j + 1 => anyB x t a j || (decide (a ≤ j) && (bit x j != t))
theorem any_start (x : Int) (t : Bool) (a : Nat) : ∀ j, j ≤ a → anyB x t a j = false
  | 0, _ => rfl
  | j + 1, h => by
    show (anyB x t a j || (decide (a ≤ j) && (bit x j != t))) = false
    rw [any_start x t a j (by omega)]
    simp; omega
theorem any_snoc (x : Int) (t : Bool) {a j : Nat} (h : a ≤ j) : anyB x t a (j + 1) = (anyB x t a j || (bit x j != t)) := by
  show (anyB x t a j || (decide (a ≤ j) && (bit x j != t))) = _
  simp [h]
theorem any_none (x : Int) (t : Bool) (a : Nat) : ∀ j, anyB x t a j = false ↔ ∀ i, a ≤ i → i < j → bit x i = t
  | 0 => by simp [anyB]
  | j + 1 => by
    show (anyB x t a j || (decide (a ≤ j) && (bit x j != t))) = false ↔ _
    rw [Bool.or_eq_false_iff, any_none x t a j]
    constructor
    · rintro ⟨h1, h2⟩ i hi hij
      rcases Nat.lt_or_ge i j with g | g
      · exact h1 i hi g
      · obtain rfl : i = j := by omega
        simpa [hi] using h2
    · intro h
      refine ⟨fun i hi hij => h i hi (by omega), ?_⟩
      by_cases g : a ≤ j
      · simp [g, h j g (by omega)]
      · simp [g]

theorem bytes_made {l : List Int} {w w1 w' : World} {e : Ending} (h : Bytes l w1 e w') (hb : Below w.heap.size w w1) : Bytes l w e w' := by
  obtain ⟨A, c, h1, h2, h3, h4, h5, h6⟩ := h
  have := hb.size
  exact ⟨A, c, h1, h2, h3, h4, fun a e => ⟨by have := (h5 a e).1; omega, (h5 a e).2⟩, hb.trans (h6.mono this)⟩

set_option maxHeartbeats 1000000 in
theorem refUint_any (x : Int) (w : World) (h0 : 0 ≤ x) (h1 : x ≤ 18446744073709551615) {n : Nat} (hn : Least (fitU x) n) :
    Calls Tryd.prog 59 #[.int .u64 x] w (Bytes (grp x n) w) := by
  have h10 : n ≤ 10 := hn.le (by omega) (fitU_ten x (by omega))
  have hn1 := hn.1
  have hall : ∀ k, 1 ≤ k → k ≤ 9 → (fitU x k ↔ anyB x false (7 * k) 64 = false) := fun k a b => by
    rw [any_none]; exact fitU_bits h0 (by show x < 18446744073709551616; omega) a b
  have h64 : ∀ j, 64 ≤ j → bit x j = false := fun j hj => bit_high h0 (b := 64) (by show x < 18446744073709551616; omega) j hj
  have HA := Lib.hid hall
  have HN := Lib.hid hn
  have H64 := Lib.hid h64
  clear hall hn h64
  go_enter Tryd.func59, Tryd.ntmps59
  go_wp2_with (go_at_call 80; go_must (refine (bits_any _ _ h0 h1).mono ?_; rintro e w1 ⟨A, c, rfl, hc1, hc2, hl, hlo, hbe⟩; rw [bools_length] at hc1; simp only [bools_length]; have HL := Lib.hid hl; have HBE := Lib.hid hbe; clear hl hlo hbe))
  go_loop [4] (fun i => ∃ k : Nat, 1 ≤ k ∧ k ≤ n ∧ i = .int .i64 k) (fun i => 10 - (intOf i).toNat)
  case atStart => exact ⟨1, by omega, by omega, rfl⟩
  case round =>
    obtain ⟨k, hk1, hkn, rfl⟩ := hrel
    by_cases hk9 : k < 10
    · have hk9' : (k : Int) < 10 := by omega
      go_wp2
      go_loop [5, 6] (fun m i => ∃ j : Nat, 7 * k ≤ j ∧ j ≤ 64 ∧ i = .int .i64 j ∧ m = .bool (anyB x false (7 * k) j)) (fun _ i => 64 - (intOf i).toNat)
      case atStart => exact ⟨7 * k, by omega, by omega, by go_num, by rw [any_start _ _ _ _ (by omega)]⟩
      case round =>
        obtain ⟨j, hj1, hj2, rfl, rfl⟩ := hrel
        by_cases hj : j < 64
        · obtain ⟨b, off, rfl, hb, hc⟩ := HL.out _ _ (bools_get x hj)
          have hs := any_snoc x false hj1
          generalize anyB x false (7 * k) j = s at *
          generalize bit x j = bt at *
          have HS := Lib.hid hs
          clear hs
          cases s
          all_goals go_wp2
          all_goals
            go_round
            case rel => exact ⟨j + 1, by omega, by omega, by go_num, by rw [HS.out]; simp⟩
            case measure => simp [intOf]; omega
        · obtain rfl : j = 64 := by omega
          by_cases hkn2 : k = n
          · subst hkn2
            have hf : anyB x false (7 * k) 64 = false := (HA.out k hk1 (by omega)).1 HN.out.2.1
            rw [hf]
            clear hf
            go_wp2_with (go_at_call 81; go_must (refine (group_any x k false A c _ _ HL.out (Nat.le_refl _) H64.out h10).mono ?_; intro e w2 hb2; have HB2 := Lib.hid (bytes_made hb2 HBE.out); obtain ⟨A2, c2, rfl, -⟩ := hb2))
            go_ret
            exact HB2.out
          · have hf : anyB x false (7 * k) 64 = true := by
              have := mt (HA.out k hk1 (by omega)).2 (HN.out.2.2 k hk1 (by omega))
              simpa using this
            rw [hf]
            clear hf
            go_wp2
            go_round
            case rel => exact ⟨k + 1, by omega, by omega, by go_num⟩
            case measure => simp [intOf]; omega
    · obtain rfl : k = 10 := by omega
      obtain rfl : n = 10 := by omega
      go_wp2_with (go_at_call 81; go_must (refine (group_any x 10 false A c _ _ HL.out (Nat.le_refl _) H64.out (Nat.le_refl _)).mono ?_; intro e w2 hb2; have HB2 := Lib.hid (bytes_made hb2 HBE.out); obtain ⟨A2, c2, rfl, -⟩ := hb2))
      go_ret
      exact HB2.out

theorem least_find (F : Nat → Prop) : ∀ k, 1 ≤ k → F k → ∃ n, Least F n := by
  intro k
  induction k using Nat.strongRecOn with
  | _ k ih =>
    intro h1 h2
    by_cases h : ∃ m, 1 ≤ m ∧ m < k ∧ F m
    · obtain ⟨m, a, b, c⟩ := h
      exact ih m b a c
    · exact ⟨k, h1, h2, fun m a b c => h ⟨m, a, b, c⟩⟩
theorem leastU (x : Int) (h : x ≤ 18446744073709551615) : ∃ n, Least (fitU x) n := least_find _ 10 (by omega) (fitU_ten x (by omega))
end Go.Proofs.YtebgmfjgapmpfabDoor

/- types.Limits, Fits, flag; creelref04.Limits. -/
namespace Go.Proofs.YtebgmfjgapmpfabDoor
set_option linter.unusedVariables false
set_option maxRecDepth 100000
open Go.RowKit

/-- Limits, by value. -/
abbrev lv (a b : Int) (c : Bool) : Value := .agg #[.int .u32 a, .int .u32 b, .bool c]
/-- May limits be, of at most m? -/
def limB (a b : Int) (c : Bool) (m : Int) : Bool := if c then decide (a ≤ b) && decide (b ≤ m) else decide (a ≤ m) && decide (b = 0)
/-- api.ErrLimits is 26. -/
def limZ (a b : Int) (c : Bool) (m : Int) : Int := if limB a b c m then 0 else 26
theorem limZ_no {a b : Int} {c : Bool} {m : Int} (h : limB a b c m = false) : limZ a b c m = 26 := by unfold limZ; rw [h]; rfl
theorem limZ_yes {a b : Int} {c : Bool} {m : Int} (h : limB a b c m = true) : limZ a b c m = 0 := by unfold limZ; rw [h]; rfl

/-- Do the first limits do for the second? -/
def fitB (a b : Int) (c : Bool) (a' b' : Int) (c' : Bool) : Bool := decide (a' ≤ a) && (!c' || (c && decide (b ≤ b')))
end Go.Proofs.YtebgmfjgapmpfabDoor

/- types.appendList, types.Text, creelref04.names, creelref04.Text. -/
namespace Go.Proofs.YtebgmfjgapmpfabDoor
set_option linter.unusedVariables false
open Go.RowKit

/-- The names of the first k types, commas between them. -/
def commaK (l : List UInt8) : Nat → List UInt8
  | 0 => []
  | k + 1 => match l[k]? with
    | none => commaK l k
    | some c => commaK l k ++ ((if k = 0 then [] else [44]) ++ nameZ c.toNat)
def listL (l : List UInt8) : List UInt8 := 40 :: (commaK l l.length ++ [41])
def textL (p r : List UInt8) : List UInt8 := listL p ++ ([45, 62] ++ listL r)
theorem commaK_len (l : List UInt8) : ∀ k, (commaK l k).length ≤ 8 * k
  | 0 => by simp [commaK]
  | k + 1 => by
    have ih := commaK_len l k
    unfold commaK
    split
    · omega
    · rename_i c _
      have := (nameZ_len c.toNat).2
      rw [List.length_append, List.length_append]
      split <;> simp <;> omega
theorem commaK_first {l : List UInt8} {c : UInt8} (h : l[0]? = some c) : commaK l 1 = nameZ c.toNat := by
  show (match l[0]? with | none => _ | some c => _) = _
  rw [h]
  simp [commaK]
theorem commaK_next {l : List UInt8} {c : UInt8} {k : Nat} (h : l[k]? = some c) (hk : k ≠ 0) : commaK l (k + 1) = commaK l k ++ ([44] ++ nameZ c.toNat) := by
  show (match l[k]? with | none => _ | some c => _) = _
  rw [h]
  simp [hk]
theorem listL_len (l : List UInt8) : (listL l).length ≤ 8 * l.length + 2 := by
  unfold listL
  have := commaK_len l l.length
  simp; omega

/-- What appendList hands back. -/
def Onto (B : Nat) (l : List UInt8) (w : World) (e : Ending) (w' : World) : Prop := ∃ v, e = .returned v ∧ Row w' B v l ∧ Below B w w'

theorem S_at {l : List UInt8} {k : Nat} (h : k < l.length) : ∃ c : UInt8, l[k]? = some c ∧ ∀ hh : k < (S l).size, (S l)[k]'hh = c :=
  ⟨l[k], List.getElem?_eq_getElem h, fun hh => S_get l k hh⟩

end Go.Proofs.YtebgmfjgapmpfabDoor

/- creelref04.names, creelref04.Text; awake. -/
namespace Go.Proofs.YtebgmfjgapmpfabDoor
set_option linter.unusedVariables false
open Go.RowKit

theorem cat_comma (a b : List UInt8) : Value.string (S a ++ { data := #[44] } ++ S b) = .string (S (a ++ ([44] ++ b))) := by
  rw [show ({ data := #[44] } : ByteArray) = S [44] from rfl, S_append, S_append, List.append_assoc]
theorem cat_two (a b : List UInt8) : Value.string (S a ++ S b) = .string (S (a ++ b)) := by rw [S_append]

theorem cat_text (x y : List UInt8) : Ending.returned (.string ({ data := #[40] } ++ S x ++ { data := #[41, 45, 62, 40] } ++ S y ++ { data := #[41] })) = .returned (.string (S ([40] ++ x ++ [41, 45, 62, 40] ++ y ++ [41]))) := by
  rw [show ({ data := #[40] } : ByteArray) = S [40] from rfl, show ({ data := #[41] } : ByteArray) = S [41] from rfl, show ({ data := #[41, 45, 62, 40] } : ByteArray) = S [41, 45, 62, 40] from rfl, S_append, S_append, S_append, S_append]

/-- What is held while a box of two values lies at the end of the world w: nothing below it turns, and both stay. -/
def Boxed (w : World) (o : Obj) (w' : World) : Prop := Below (w.heap.size + 1) (w.alloc o) w'
theorem Boxed.start (w : World) (o : Obj) : Boxed w o (w.alloc o).drew := (Below.refl _ _).drew
theorem Boxed.cell {w w' : World} {o : Obj} (h : Boxed w o w') (i : Nat) : w'.cell? ⟨w.heap.size, i, none⟩ = (w.alloc o).cell? ⟨w.heap.size, i, none⟩ := Below.cell (show Below _ _ _ from h) (p := ⟨w.heap.size, i, none⟩) (Nat.lt_succ_self _)
theorem Boxed.row {w w' : World} {cs : Array Value} {t : TypeId} (h : Boxed w (.cells cs t) w') (i : Nat) : w'.cell? ⟨w.heap.size, i, none⟩ = cs[i]? := (h.cell i).trans (cell_of_row _ _ _ _ _ _ (heap_alloc_new w _))
theorem Boxed.on {w w1 w2 : World} {o : Obj} (h : Boxed w o w1) (hb : Below w1.heap.size w1 w2) : Boxed w o w2 := Below.trans h (hb.mono (by have := Below.size h; simp at this; omega))
theorem Boxed.end {w w' : World} {o : Obj} (h : Boxed w o w') : Below w.heap.size w w' := (below_box w o).trans (Below.mono h (by omega))
theorem Boxed.room {w w' : World} {o : Obj} (h : Boxed w o w') : w.heap.size + 1 ≤ w'.heap.size := by
  have := Below.size h
  simp at this
  omega
/-- A call that leaves what there was, where two cells of a box are held. -/
theorem held_two {K : Nat} {args : Array Value} {w : World} {u v : Value} {t : TypeId} {R : Ending → Prop} (hN : ∀ w, Calls Tryd.prog K args w fun e w' => R e ∧ Below w.heap.size w w') {W : World}
    (h : Boxed w (.cells #[u, v] t) W ∧ W.cell? ⟨w.heap.size, 0, none⟩ = some u ∧ W.cell? ⟨w.heap.size, 1, none⟩ = some v) :
    Calls Tryd.prog K args W fun e w' => R e ∧ Boxed w (.cells #[u, v] t) w' ∧ w'.cell? ⟨w.heap.size, 0, none⟩ = some u ∧ w'.cell? ⟨w.heap.size, 1, none⟩ = some v :=
  (hN W).mono fun _ _ ⟨h1, h2⟩ => ⟨h1, h.1.on h2, (h.1.on h2).row 0, (h.1.on h2).row 1⟩

theorem eg_text : S (textL [127, 126] [127]) = { data := #[40, 105, 51, 50, 44, 105, 54, 52, 41, 45, 62, 40, 105, 51, 50, 41] } := by decide
end Go.Proofs.YtebgmfjgapmpfabDoor

/- leb.Uint and creelref02.Uint: the same bytes, as a list. -/
namespace Go.Proofs.YtebgmfjgapmpfabDoor
set_option linter.unusedVariables false
open Go.RowKit

/-- How many bytes a number takes. -/
noncomputable def lebN (x : Int) : Nat := if h : x ≤ 18446744073709551615 then (leastU x h).choose else 1
/-- A number's bytes. -/
noncomputable def lebL (x : Int) : List UInt8 := (grp x (lebN x)).map fun c => UInt8.ofNat c.toNat
theorem lebN_least (x : Int) (h : x ≤ 18446744073709551615) : Least (fitU x) (lebN x) := by
  unfold lebN
  rw [dif_pos h]
  exact (leastU x h).choose_spec
theorem grp_bytes (x : Int) (n : Nat) : ∀ c ∈ grp x n, 0 ≤ c ∧ c ≤ 255 := by
  intro c hc
  obtain ⟨i, _, rfl⟩ := List.mem_map.1 hc
  have : 0 ≤ x / 128 ^ i % 128 ∧ x / 128 ^ i % 128 ≤ 127 := by omega
  split <;> omega
theorem nums_lebL (x : Int) : nums (lebL x) = grp x (lebN x) := by
  unfold nums lebL
  rw [List.map_map]
  conv => rhs; rw [← List.map_id (grp x (lebN x))]
  apply List.map_congr_left
  intro c hc
  have := grp_bytes x _ c hc
  simp
  omega
theorem lebL_length (x : Int) : (lebL x).length = lebN x := by unfold lebL; rw [List.length_map, grp_length]
theorem lebL_len (x : Int) (h : x ≤ 18446744073709551615) : 1 ≤ (lebL x).length ∧ (lebL x).length ≤ 10 := by
  rw [lebL_length]
  have h1 := lebN_least x h
  exact ⟨h1.1, h1.le (by omega) (fitU_ten x (by omega))⟩
/-- What both hand back. -/
def Leb (l : List UInt8) (w : World) (e : Ending) (w' : World) : Prop := ∃ A c, e = .returned (.slice A l.length c) ∧ Lies w' w'.heap.size A (cells (nums l)) ∧ Below w.heap.size w w'
theorem leb_of {x : Int} {w w' : World} {e : Ending} (h : Bytes (grp x (lebN x)) w e w') : Leb (lebL x) w e w' := by
  obtain ⟨A, c, h1, _, _, h4, _, h6⟩ := h
  rw [← nums_lebL] at h1 h4
  rw [nums_length] at h1
  exact ⟨A, c, h1, h4, h6⟩
theorem uintL (x : Int) (w : World) (h0 : 0 ≤ x) (h1 : x ≤ 18446744073709551615) : Calls Tryd.prog 70 #[.int .u64 x] w (Leb (lebL x) w) :=
  (uint_any x w h0 h1 (lebN_least x h1)).mono fun _ _ h => leb_of h
theorem refUintL (x : Int) (w : World) (h0 : 0 ≤ x) (h1 : x ≤ 18446744073709551615) : Calls Tryd.prog 59 #[.int .u64 x] w (Leb (lebL x) w) :=
  (refUint_any x w h0 h1 (lebN_least x h1)).mono fun _ _ h => leb_of h
end Go.Proofs.YtebgmfjgapmpfabDoor

/- types.number, EncodeFunc, creelref04.Count, EncodeFunc. -/
namespace Go.Proofs.YtebgmfjgapmpfabDoor
set_option linter.unusedVariables false
set_option maxRecDepth 100000
open Go.RowKit

theorem count_any (n : Int) (w : World) (h0 : 0 ≤ n) (h1 : n ≤ 9223372036854775807) : Calls Tryd.prog 34 #[.int .i64 n] w fun e w' => e = .returned (.string (S (lebL n))) ∧ Below w.heap.size w w' := by
  have HU := Lib.hid (fun w => refUintL n w h0 (by omega))
  have hlen := lebL_len n (by omega)
  go_enter Tryd.func34, Tryd.ntmps34
  go_wp2_with (go_at_call 59; go_must ((with_reducible refine (HU.out _).mono ?_); intro e w1 h; obtain ⟨A, c, rfl, hl, hb⟩ := h; have hstr := str_lies' hl (by omega) c; have HB := Lib.hid hb; clear hl hb))
  go_ret
  exact ⟨rfl, HB.out⟩

/-- A function's type's bytes. -/
noncomputable def encL (p r : List UInt8) : List UInt8 := [96] ++ lebL p.length ++ p ++ lebL r.length ++ r

end Go.Proofs.YtebgmfjgapmpfabDoor

/- creelref04.EncodeFunc. -/
namespace Go.Proofs.YtebgmfjgapmpfabDoor
set_option linter.unusedVariables false
set_option maxRecDepth 100000
open Go.RowKit

theorem cat_enc (x p y r : List UInt8) : Ending.returned (.string ({ data := #[96] } ++ S x ++ S p ++ S y ++ S r)) = .returned (.string (S ([96] ++ x ++ p ++ y ++ r))) := by
  rw [show ({ data := #[96] } : ByteArray) = S [96] from rfl, S_append, S_append, S_append, S_append]

end Go.Proofs.YtebgmfjgapmpfabDoor

/- types.EncodeLimits, EncodeGlobal; creelref04.EncodeLimits, EncodeGlobal. -/
namespace Go.Proofs.YtebgmfjgapmpfabDoor
set_option linter.unusedVariables false
set_option maxRecDepth 100000
open Go.RowKit

noncomputable def encLim (a b : Int) (c : Bool) : List UInt8 := if c then [1] ++ lebL a ++ lebL b else [0] ++ lebL a
theorem encLim_pos (a b : Int) (c : Bool) : 0 < (encLim a b c).length := by unfold encLim; cases c <;> simp

/-- What is held beside a box of three values. -/
theorem held_three {K : Nat} {args : Array Value} {w : World} {u v x : Value} {t : TypeId} {R : Ending → Prop} (hN : ∀ w, Calls Tryd.prog K args w fun e w' => R e ∧ Below w.heap.size w w') {W : World}
    (h : Boxed w (.cells #[u, v, x] t) W ∧ W.cell? ⟨w.heap.size, 0, none⟩ = some u ∧ W.cell? ⟨w.heap.size, 1, none⟩ = some v ∧ W.cell? ⟨w.heap.size, 2, none⟩ = some x) :
    Calls Tryd.prog K args W fun e w' => R e ∧ Boxed w (.cells #[u, v, x] t) w' ∧ w'.cell? ⟨w.heap.size, 0, none⟩ = some u ∧ w'.cell? ⟨w.heap.size, 1, none⟩ = some v ∧ w'.cell? ⟨w.heap.size, 2, none⟩ = some x :=
  (hN W).mono fun _ _ ⟨h1, h2⟩ => ⟨h1, h.1.on h2, (h.1.on h2).row 0, (h.1.on h2).row 1, (h.1.on h2).row 2⟩
theorem three_of {w W W' : World} {u v x : Value} {t : TypeId} (h : Boxed w (.cells #[u, v, x] t) W ∧ W.cell? ⟨w.heap.size, 0, none⟩ = some u ∧ W.cell? ⟨w.heap.size, 1, none⟩ = some v ∧ W.cell? ⟨w.heap.size, 2, none⟩ = some x) (hb : Below W.heap.size W W') :
    Boxed w (.cells #[u, v, x] t) W' ∧ W'.cell? ⟨w.heap.size, 0, none⟩ = some u ∧ W'.cell? ⟨w.heap.size, 1, none⟩ = some v ∧ W'.cell? ⟨w.heap.size, 2, none⟩ = some x :=
  ⟨h.1.on hb, (h.1.on hb).row 0, (h.1.on hb).row 1, (h.1.on hb).row 2⟩

/-- At a step of a region that draws its order: append of what lies somewhere and is not empty. -/
theorem step_lies {w : World} {ops : Array Oper} {o : Oper} {a : Act} {K : Act → World → Prop} {Q : Exit → Act → World → Prop} {E : Prop} (hgd : o.guard = none) (s x : Operand)
    (ho : o.op = .call { callee := .builtin .append, args := #[s, x], argTypes := #[41, 41] })
    (B : Nat) (v : Value) (xs : List UInt8) (hs : a.eval s = v) (hr : Row w B v xs)
    (A : Option Addr) (m c B' : Nat) (news : List UInt8) (hx : a.eval x = .slice A m c) (hl : news.length = m) (hn : Lies w B' A (cells (nums news)))
    (hm : 0 < m) (hb : xs.length + news.length ≤ 1000000) (hB : B ≤ w.heap.size)
    (h : ∀ v' w', Row w' B v' (xs ++ news) → Below B w w' → K (a.put o.dst v') w') :
    if Region.wanted o (yielded ops a.tmps) = true then Oper.wp Tryd.prog o a w K Q else E := by
  have hw : Region.wanted o (yielded ops a.tmps) = true := by simp [Region.wanted, hgd]
  rw [if_pos hw]
  obtain ⟨i0, hi0, hz0, hz1, hz2⟩ := info_parts infoB
  have hcl : (cells (nums news)).length = m := by rw [cells_length, nums_length]; exact hl
  obtain ⟨b, off, rfl, _, _⟩ := hn.at_ (i := 0) (by omega)
  refine wp_append_own _ s x _ ho B 5 i0 _ 1 1 Tryd.underlying41 hi0 hz0 hz1 hz2 rfl (by omega) v _ _ hs hr ⟨b, off, none⟩ m c (cells (nums news)) hx (by omega) ?_ ?_ (by unfold maxLen; omega) (by omega) hB (fun v' w' h2 h3 _ => h v' w' ?_ (Row.below hr hB h3))
  · intro j u hu
    obtain ⟨b', off', e, _, h2⟩ := hn j u hu
    injection e with e
    injection e with e1 e2
    subst e1; subst e2
    rw [Go.WideShapes.add_plain]; exact h2
  · intro u hu
    unfold cells at hu
    obtain ⟨c, _, rfl⟩ := List.mem_map.1 hu
    rfl
  · unfold Row
    rw [nums_append, List.length_append, hl]
    unfold cells at *
    rw [List.map_append]
    exact h2

theorem three_more {w W W' : World} {u v x : Value} {t : TypeId} (h : Boxed w (.cells #[u, v, x] t) W) (hb : Below (w.heap.size + 1) W W') :
    Boxed w (.cells #[u, v, x] t) W' ∧ W'.cell? ⟨w.heap.size, 0, none⟩ = some u ∧ W'.cell? ⟨w.heap.size, 1, none⟩ = some v ∧ W'.cell? ⟨w.heap.size, 2, none⟩ = some x := by
  have k : Boxed w (.cells #[u, v, x] t) W' := Below.trans h hb
  exact ⟨k, k.row 0, k.row 1, k.row 2⟩

theorem cat_lim (x y : List UInt8) : Ending.returned (.string ({ data := #[1] } ++ S x ++ S y)) = .returned (.string (S ([1] ++ x ++ y))) := by
  rw [show ({ data := #[1] } : ByteArray) = S [1] from rfl, S_append, S_append]
theorem cat_lim0 (x : List UInt8) : Ending.returned (.string ({ data := #[0] } ++ S x)) = .returned (.string (S ([0] ++ x))) := by
  rw [show ({ data := #[0] } : ByteArray) = S [0] from rfl, S_append]
/-- A global's type's bytes. -/
def encG (t : Int) (m : Bool) : List UInt8 := [UInt8.ofNat t.toNat, if m then 1 else 0]
theorem nums_encG (t : Int) (m : Bool) (h0 : 0 ≤ t) (h1 : t ≤ 255) : nums (encG t m) = [t, if m then 1 else 0] := by
  unfold encG nums
  cases m
  · simp; omega
  · simp; omega
end Go.Proofs.YtebgmfjgapmpfabDoor

/- Plain mathematics: where a varint stops, the number of its lower bytes. -/
namespace Go.Proofs.YtebgmfjgapmpfabDoor
set_option linter.unusedVariables false
open Go.RowKit

/-- Of the first M of the bytes r, the first p go on; the next one, if there is one, does not. -/
structure Stop (M : Nat) (r : List Int) (p : Nat) : Prop where
  leM : p ≤ M
  leR : p ≤ r.length
  on : ∀ i c, i < p → r[i]? = some c → 128 ≤ c
  off : ∀ c, p < M → r[p]? = some c → c < 128

theorem stop_ex (r : List Int) : ∀ M, ∃ p, Stop M r p
  | 0 => ⟨0, Nat.le_refl _, Nat.zero_le _, fun i c h => by omega, fun c h => by omega⟩
  | M + 1 => by
    obtain ⟨p, h⟩ := stop_ex r M
    have hM := h.leM
    have hR := h.leR
    rcases Nat.lt_or_ge p M with g | g
    · exact ⟨p, by omega, hR, h.on, fun c _ hc => h.off c g hc⟩
    · obtain rfl : p = M := by omega
      by_cases hr : p < r.length
      · by_cases hb : 128 ≤ r[p]
        · refine ⟨p + 1, by omega, by omega, fun i c hi hc => ?_, fun c h1 => by omega⟩
          rcases Nat.lt_or_ge i p with k | k
          · exact h.on i c k hc
          · obtain rfl : i = p := by omega
            rw [List.getElem?_eq_getElem hr] at hc
            injection hc with hc
            omega
        · refine ⟨p, by omega, hR, h.on, fun c _ hc => ?_⟩
          rw [List.getElem?_eq_getElem hr] at hc
          injection hc with hc
          omega
      · exact ⟨p, by omega, hR, h.on, fun c _ hc => by rw [List.getElem?_eq_none (by omega)] at hc; cases hc⟩

/-- The number of the lower seven bits of bytes. -/
def low : List Int → Int
  | [] => 0
  | c :: r => c % 128 + 128 * low r
theorem low_snoc : ∀ (l : List Int) (c : Int), low (l ++ [c]) = low l + c % 128 * 2 ^ (7 * l.length)
  | [], c => by simp [low]
  | d :: r, c => by
    have ih := low_snoc r c
    show d % 128 + 128 * low (r ++ [c]) = d % 128 + 128 * low r + c % 128 * 2 ^ (7 * (r.length + 1))
    have e : (2 : Int) ^ (7 * (r.length + 1)) = 128 * 2 ^ (7 * r.length) := by rw [show 7 * (r.length + 1) = 7 * r.length + 7 by omega, Int.pow_add, Int.mul_comm]; rfl
    rw [ih, e]
    generalize (2 : Int) ^ (7 * r.length) = t
    grind
theorem low_bd : ∀ l : List Int, 0 ≤ low l ∧ low l < 2 ^ (7 * l.length)
  | [] => by simp [low]
  | d :: r => by
    obtain ⟨h1, h2⟩ := low_bd r
    have e : (2 : Int) ^ (7 * (r.length + 1)) = 128 * 2 ^ (7 * r.length) := by rw [show 7 * (r.length + 1) = 7 * r.length + 7 by omega, Int.pow_add, Int.mul_comm]; rfl
    show 0 ≤ d % 128 + 128 * low r ∧ d % 128 + 128 * low r < 2 ^ (7 * (r.length + 1))
    rw [e]
    omega
/-- A last byte, with its sign. -/
def sg (c : Int) : Int := if 64 ≤ c then c - 128 else c
theorem take_snoc {l : List Int} {k : Nat} {c : Int} (h : l[k]? = some c) : l.take (k + 1) = l.take k ++ [c] := by
  obtain ⟨hk, e⟩ := List.getElem?_eq_some_iff.1 h
  rw [List.take_succ_eq_append_getElem hk, e]
theorem scale {a b : Nat} {x : Int} (hx : 0 ≤ x) (h : x < 2 ^ a) : 0 ≤ x * 2 ^ b ∧ x * 2 ^ b < 2 ^ (a + b) := by
  refine ⟨Int.mul_nonneg hx (Int.le_of_lt (p2 b)), ?_⟩
  rw [Int.pow_add]
  exact Int.mul_lt_mul_of_pos_right h (p2 b)
end Go.Proofs.YtebgmfjgapmpfabDoor

/- signed, lower, length of package leb. -/
namespace Go.Proofs.YtebgmfjgapmpfabDoor
open Go.RowKit
set_option linter.unusedVariables false

theorem signed_any (c : Int) (w : World) (h0 : 0 ≤ c) (h1 : c < 128) : Calls Tryd.prog 121 #[.int .u8 c] w fun e w' => e = .returned (.int .i64 (sg c)) ∧ w = w' := by
  have e1 := not64 c h0 h1
  have e2 := and64 c h0 h1
  obtain ⟨a, ha⟩ : ∃ a, a = c % 64 := ⟨_, rfl⟩
  obtain ⟨b, hb⟩ : ∃ b, b = c - c % 64 := ⟨_, rfl⟩
  rw [← ha] at e1
  rw [← hb] at e2
  have a0 : 0 ≤ a := by omega
  have a1 : a < 64 := by omega
  have b0 : 0 ≤ b := by omega
  have b1 : b ≤ 64 := by omega
  have HA := Lib.hid ha
  have HB := Lib.hid hb
  clear ha hb
  go_enter Tryd.func121, Tryd.ntmps121
  go_wp2
  go_ret
  exact ⟨ret_int (by have h1 := HA.out; have h2 := HB.out; unfold sg; split <;> omega), rfl⟩

set_option maxHeartbeats 800000 in
theorem lower_any (l : List Int) (A : Option Addr) (cap B : Nat) (w : World) (hl : Lies w B A (cells l)) (h9 : l.length ≤ 9) (hb : ∀ c ∈ l, 0 ≤ c ∧ c ≤ 255) :
    Calls Tryd.prog 117 #[.slice A l.length cap] w fun e w' => e = .returned (.tuple #[.int .u64 (low l), .int .i64 ((7 * l.length : Nat) : Int)]) ∧ w = w' := by
  have HL := Lib.hid hl
  have HC := Lib.hid hb
  clear hl hb
  go_enter Tryd.func117, Tryd.ntmps117
  go_wp2
  go_loop [2, 3, 8] (fun v s i => ∃ k : Nat, k ≤ l.length ∧ i = .int .i64 k ∧ s = .int .i64 ((7 * k : Nat) : Int) ∧ v = .int .u64 (low (l.take k))) (fun _ _ i => l.length - (intOf i).toNat)
  case atStart => exact ⟨0, by omega, rfl, rfl, rfl⟩
  case round =>
    obtain ⟨k, hk, rfl, rfl, rfl⟩ := hrel
    by_cases hlt : k < l.length
    · obtain ⟨c, hc⟩ : ∃ c, l[k]? = some c := ⟨_, List.getElem?_eq_getElem hlt⟩
      obtain ⟨b, off, rfl, hbB, hcell⟩ := HL.out.byte hc
      obtain ⟨c0, c1⟩ := HC.out c (List.mem_of_getElem? hc)
      have hbd := low_bd (l.take k)
      have hsn : low (l.take (k + 1)) = low (l.take k) + c % 128 * 2 ^ (7 * k) := by rw [take_snoc hc, low_snoc, List.length_take_of_le hk]
      rw [List.length_take_of_le hk] at hbd
      obtain ⟨v0, v1⟩ := hbd
      generalize low (l.take k) = v at *
      have hn := not128 c c0 (by omega)
      obtain ⟨x, hx⟩ : ∃ x, x = c % 128 := ⟨_, rfl⟩
      rw [← hx] at hn hsn
      have x0 : 0 ≤ x := by omega
      have x1 : x ≤ 127 := by omega
      have hsc := scale (a := 7) (b := 7 * k) x0 (by show x < 128; omega)
      have hm := mono2 (a := 7 + 7 * k) (b := 63) (by omega)
      have hm2 := mono2 (a := 7 * k) (b := 56) (by omega)
      have hor := or_u64 v x (7 * k) (by omega) v0 v1 x0 (by
        have e1 : (2 : Int) ^ 63 = 9223372036854775808 := rfl
        have e2 : (2 : Int) ^ 56 = 72057594037927936 := rfl
        omega)
      have hwr : IntKind.u64.wrap (x * 2 ^ (7 * k)) = x * 2 ^ (7 * k) := by
        have e1 : (2 : Int) ^ 63 = 9223372036854775808 := rfl
        simp only [IntKind.wrap, IntKind.bits, IntKind.signed]
        generalize x * 2 ^ (7 * k) = z at *
        simp
        omega
      obtain ⟨s, hs⟩ : ∃ s, s = 7 * k := ⟨_, rfl⟩
      rw [← hs] at hsn hor hwr ⊢
      have HS := Lib.hid hs
      have HX := Lib.hid hx
      have HN := Lib.hid hsn
      have s1 : s ≤ 56 := by omega
      clear hs hx hsn hc hsc hm hm2 v1
      go_wp2
      go_round
      case rel => exact ⟨k + 1, by omega, by go_num, by rw [show ((7 * (k + 1) : Nat) : Int) = (s : Int) + 7 by have := HS.out; omega], by rw [HN.out]⟩
      case measure => simp [intOf]; omega
    · obtain rfl : k = l.length := by omega
      have ht : low (l.take l.length) = low l := by rw [List.take_length]
      rw [ht]
      clear ht
      go_wp2
      go_ret2
      exact ⟨rfl, rfl⟩

theorem Lies.add {w : World} {B : Nat} {A : Option Addr} {vs : List Value} (h : Lies w B A vs) (k : Nat) : Lies w B (Option.map (fun x => x.add k) A) (vs.drop k) := fun i v hv => by
  rw [List.getElem?_drop] at hv
  obtain ⟨b, off, rfl, h1, h2⟩ := h _ v hv
  exact ⟨b, off + k, by simp [Addr.add], h1, by rw [Nat.add_assoc]; exact h2⟩
theorem lies_if {w : World} {B cap k : Nat} {A : Option Addr} {r : List Int} (h : Lies w B A (cells r)) (hc : r.length ≤ cap) :
    Lies w B (if cap = k then A else Option.map (fun x => x.add k) A) (cells (r.drop k)) := by
  split
  · rw [List.drop_eq_nil_of_le (by omega)]; exact Lies.nil
  · have e : cells (r.drop k) = (cells r).drop k := by simp [cells, List.map_drop]
    rw [e]; exact h.add k

/-- What length answers: how many bytes, or why not. -/
def lenN (M L p : Nat) : Int := if p = M then 0 else if p = L then 0 else (p : Int) + 1
def lenE (M L p : Nat) : Int := if p = M then 3 else if p = L then 2 else 0

set_option maxHeartbeats 800000 in
theorem length_wrong (r : List Int) (A : Option Addr) (cap : Nat) (at_ n : Int) (w : World) (h : n < 1 ∨ 64 < n ∨ at_ < 0 ∨ (r.length : Int) < at_) :
    Calls Tryd.prog 116 #[.slice A r.length cap, .int .i64 at_, .int .i64 n] w fun e w' => e = .returned (.tuple #[.int .i64 0, .int .i64 1]) ∧ w = w' := by
  by_cases hn : n < 1 ∨ 64 < n
  · go_enter Tryd.func116, Tryd.ntmps116
    go_wp2_with (go_at_call 119; go_must (refine (right_out _ _ hn).mono ?_; rintro e w' ⟨rfl, rfl⟩))
    go_ret2
    exact ⟨rfl, rfl⟩
  · have n1 : 1 ≤ n := by omega
    have n2 : n ≤ 64 := by omega
    by_cases ha : at_ < 0
    · go_enter Tryd.func116, Tryd.ntmps116
      go_wp2_with (go_at_call 119; go_must (refine (right_in _ _ n1 n2).mono ?_; rintro e w' ⟨rfl, rfl⟩))
      go_ret2
      exact ⟨rfl, rfl⟩
    · have hd : decide (at_ < 0) = false := by simpa using ha
      have hl : (r.length : Int) < at_ := by omega
      go_enter Tryd.func116, Tryd.ntmps116
      go_wp2_with (go_at_call 119; go_must (refine (right_in _ _ n1 n2).mono ?_; rintro e w' ⟨rfl, rfl⟩))
      go_ret2
      exact ⟨rfl, rfl⟩

set_option maxHeartbeats 800000 in
theorem length_right (r : List Int) (A : Option Addr) (cap B : Nat) (k n p : Nat) (w : World) (hl : Lies w B A (cells r)) (hb : ∀ c ∈ r, 0 ≤ c ∧ c ≤ 255) (hc : r.length ≤ cap) (hm : cap ≤ maxLen)
    (hk : k ≤ r.length) (n1 : 1 ≤ n) (n2 : n ≤ 64) (hp : Stop ((n + 6) / 7) (r.drop k) p) :
    Calls Tryd.prog 116 #[.slice A r.length cap, .int .i64 k, .int .i64 n] w fun e w' => e = .returned (.tuple #[.int .i64 (lenN ((n + 6) / 7) (r.length - k) p), .int .i64 (lenE ((n + 6) / 7) (r.length - k) p)]) ∧ w = w' := by
  unfold maxLen at hm
  have hpM := hp.leM
  have hpR := hp.leR
  rw [List.length_drop] at hpR
  have HL8 := Lib.hid (lies_if (k := k) hl hc)
  have hlen : (r.drop k).length = r.length - k := List.length_drop
  have hbyte : ∀ c ∈ r.drop k, 0 ≤ c ∧ c ≤ 255 := fun c hcm => hb c (List.mem_of_mem_drop hcm)
  generalize r.drop k = q at *
  have HC := Lib.hid hbyte
  have HP := Lib.hid hp
  obtain ⟨L, hL⟩ : ∃ L, r.length - k = L := ⟨_, rfl⟩
  rw [hL] at hlen hpR
  rw [hL]
  have HQ := Lib.hid hlen
  clear hl hb hp hbyte hlen
  have hd : decide (r.length < k) = false := by simpa using hk
  have hd2 : ¬ r.length < k := by omega
  go_enter Tryd.func116, Tryd.ntmps116
  go_wp2_with (first
    | (go_at_call 119; go_must (refine (right_in _ _ (by omega) (by omega)).mono ?_; rintro e w' ⟨rfl, rfl⟩))
    | (go_at_call 108; go_must (refine (most_in _ _ (by omega) (by omega)).mono ?_; rintro e w' ⟨rfl, rfl⟩)))
  · rw [if_pos (by assumption)] at HL8
    clear hd hd2 hL
    go_loop [28] (fun i => ∃ j : Nat, j ≤ p ∧ i = .int .i64 j) (fun i => p - (intOf i).toNat)
    case atStart => exact ⟨0, by omega, rfl⟩
    case round =>
      obtain ⟨j, hj, rfl⟩ := hrel
      by_cases hjp : j < p
      · obtain ⟨c, hcj⟩ : ∃ c, q[j]? = some c := ⟨_, List.getElem?_eq_getElem (by have := HQ.out; omega)⟩
        obtain ⟨b, off, rfl, hbB, hcell⟩ := HL8.out.byte hcj
        obtain ⟨c0, c1⟩ := HC.out c (List.mem_of_getElem? hcj)
        have c2 := HP.out.on j c hjp hcj
        clear hcj
        have t1 : (j : Int) < ((n : Int) + 6) / 7 := by omega
        have t2 : ((j : Int) == (L : Int)) = false := by simp; omega
        go_wp2
        go_round
        case rel => exact ⟨j + 1, by omega, by go_num⟩
        case measure => simp [intOf]; omega
      · obtain rfl : j = p := by omega
        by_cases hpM2 : j = (n + 6) / 7
        · have t1 : ¬ (j : Int) < ((n : Int) + 6) / 7 := by omega
          have F : Hid (lenN ((n + 6) / 7) L j = 0 ∧ lenE ((n + 6) / 7) L j = 3) := by unfold lenN lenE; rw [if_pos hpM2, if_pos hpM2]; exact ⟨rfl, rfl⟩
          clear hpM2
          go_wp2
          go_ret2
          exact ⟨by rw [F.out.1, F.out.2]; rfl, rfl⟩
        · have t1 : (j : Int) < ((n : Int) + 6) / 7 := by omega
          by_cases hpL : j = L
          · have t2 : ((j : Int) == (L : Int)) = true := by simp; omega
            have F : Hid (lenN ((n + 6) / 7) L j = 0 ∧ lenE ((n + 6) / 7) L j = 2) := by unfold lenN lenE; rw [if_neg hpM2, if_neg hpM2, if_pos hpL, if_pos hpL]; exact ⟨rfl, rfl⟩
            clear hpM2 hpL
            go_wp2
            go_ret2
            exact ⟨by rw [F.out.1, F.out.2]; rfl, rfl⟩
          · have t2 : ((j : Int) == (L : Int)) = false := by simp; omega
            have F : Hid (lenN ((n + 6) / 7) L j = (j : Int) + 1 ∧ lenE ((n + 6) / 7) L j = 0) := by unfold lenN lenE; rw [if_neg hpM2, if_neg hpM2, if_neg hpL, if_neg hpL]; exact ⟨rfl, rfl⟩
            obtain ⟨c, hcj⟩ : ∃ c, q[j]? = some c := ⟨_, List.getElem?_eq_getElem (by have := HQ.out; omega)⟩
            obtain ⟨b, off, rfl, hbB, hcell⟩ := HL8.out.byte hcj
            obtain ⟨c0, c1⟩ := HC.out c (List.mem_of_getElem? hcj)
            have c2 := HP.out.off c (by omega) hcj
            have hjL : j < L := by omega
            clear hcj hpM2 hpL
            go_wp2
            go_ret2
            exact ⟨by rw [F.out.1, F.out.2]; rfl, rfl⟩
  · rw [if_neg (by assumption)] at HL8
    generalize Option.map (fun x => x.add k) A = A8 at *
    clear hd hd2 hL
    go_loop [28] (fun i => ∃ j : Nat, j ≤ p ∧ i = .int .i64 j) (fun i => p - (intOf i).toNat)
    case atStart => exact ⟨0, by omega, rfl⟩
    case round =>
      obtain ⟨j, hj, rfl⟩ := hrel
      by_cases hjp : j < p
      · obtain ⟨c, hcj⟩ : ∃ c, q[j]? = some c := ⟨_, List.getElem?_eq_getElem (by have := HQ.out; omega)⟩
        obtain ⟨b, off, rfl, hbB, hcell⟩ := HL8.out.byte hcj
        obtain ⟨c0, c1⟩ := HC.out c (List.mem_of_getElem? hcj)
        have c2 := HP.out.on j c hjp hcj
        clear hcj
        have t1 : (j : Int) < ((n : Int) + 6) / 7 := by omega
        have t2 : ((j : Int) == (L : Int)) = false := by simp; omega
        go_wp2
        go_round
        case rel => exact ⟨j + 1, by omega, by go_num⟩
        case measure => simp [intOf]; omega
      · obtain rfl : j = p := by omega
        by_cases hpM2 : j = (n + 6) / 7
        · have t1 : ¬ (j : Int) < ((n : Int) + 6) / 7 := by omega
          have F : Hid (lenN ((n + 6) / 7) L j = 0 ∧ lenE ((n + 6) / 7) L j = 3) := by unfold lenN lenE; rw [if_pos hpM2, if_pos hpM2]; exact ⟨rfl, rfl⟩
          clear hpM2
          go_wp2
          go_ret2
          exact ⟨by rw [F.out.1, F.out.2]; rfl, rfl⟩
        · have t1 : (j : Int) < ((n : Int) + 6) / 7 := by omega
          by_cases hpL : j = L
          · have t2 : ((j : Int) == (L : Int)) = true := by simp; omega
            have F : Hid (lenN ((n + 6) / 7) L j = 0 ∧ lenE ((n + 6) / 7) L j = 2) := by unfold lenN lenE; rw [if_neg hpM2, if_neg hpM2, if_pos hpL, if_pos hpL]; exact ⟨rfl, rfl⟩
            clear hpM2 hpL
            go_wp2
            go_ret2
            exact ⟨by rw [F.out.1, F.out.2]; rfl, rfl⟩
          · have t2 : ((j : Int) == (L : Int)) = false := by simp; omega
            have F : Hid (lenN ((n + 6) / 7) L j = (j : Int) + 1 ∧ lenE ((n + 6) / 7) L j = 0) := by unfold lenN lenE; rw [if_neg hpM2, if_neg hpM2, if_neg hpL, if_neg hpL]; exact ⟨rfl, rfl⟩
            obtain ⟨c, hcj⟩ : ∃ c, q[j]? = some c := ⟨_, List.getElem?_eq_getElem (by have := HQ.out; omega)⟩
            obtain ⟨b, off, rfl, hbB, hcell⟩ := HL8.out.byte hcj
            obtain ⟨c0, c1⟩ := HC.out c (List.mem_of_getElem? hcj)
            have c2 := HP.out.off c (by omega) hcj
            have hjL : j < L := by omega
            clear hcj hpM2 hpL
            go_wp2
            go_ret2
            exact ⟨by rw [F.out.1, F.out.2]; rfl, rfl⟩
end Go.Proofs.YtebgmfjgapmpfabDoor
