/- leb.Uint, leb.Int: what they hand back is a row of the call's own; a signed number's bytes. (By gen/genOwn.py from the leb layer.) -/
import Derived.Test.YtebgmfjgapmpfabDoorQi04
import Derived.WalkSpells
import Derived.Laws.MakeOwn
import Derived.Test.YtebgmfjgapmpfabDoorQi01
import Derived.Laws.Rows
import Derived.Lib.Hide
import Derived.Deep.DeepMust
import Derived.LoopTactic
import Derived.KernelRfl
import Derived.Great.Walk
import Derived.Deep.QuietTactic
import Derived.BigQuiet
import Derived.IntWalk
import Derived.Test.YtebgmfjgapmpfabDoorQi02
namespace Go.Proofs.YtebgmfjgapmpfabDoor
open Go.RowKit
set_option linter.unusedVariables false
set_option maxRecDepth 100000

def Owned (l : List Int) (w : World) (e : Ending) (w' : World) : Prop := ∃ v, e = .returned v ∧ w'.ownsRow w.heap.size 5 1 v l.length (cells l) ∧ Below w.heap.size w w'
theorem owned_own {w w' : World} {n : Nat} {v : Value} {l : List Int} (h : w'.ownsRow w.heap.size 5 1 v n (cells l)) (hn : l.length = n) (hb : Below w.heap.size w w') : Owned l w (.returned v) w' := by
  subst hn
  exact ⟨v, rfl, h, hb⟩
theorem own_end {x q : Int} {n k : Nat} {w w2 : World} {v : Value} (hq : q = x / 128 ^ k) (hn : Least (fitU x) n) (hno : ∀ m, 1 ≤ m → m ≤ k → ¬ fitU x m) (hf : q < 128)
    (ho : w2.ownsRow w.heap.size 5 1 v (k + 1) (cells (grps x k) ++ [.int .u8 q])) (hb : Below w.heap.size w w2) (h0 : 0 ≤ q) : Owned (grp x n) w (.returned v) w2 := by
  have hk : Least (fitU x) (k + 1) := ⟨by omega, by show x / 128 ^ k < 128; omega, fun m h1 h2 => hno m h1 (by omega)⟩
  obtain rfl := hk.unique hn
  have e : cells (grp x (k + 1)) = cells (grps x k) ++ [.int .u8 q] := by rw [grp_snoc, cells_snoc, ← hq, show q % 128 = q by omega]
  exact owned_own (by rw [e]; exact ho) (grp_length _ _) hb

set_option maxHeartbeats 400000 in
theorem uint_own (x : Int) (w : World) (h0 : 0 ≤ x) (h1 : x ≤ 18446744073709551615) {n : Nat} (hn : Least (fitU x) n) :
    Calls Tryd.prog 70 #[.int .u64 x] w (Owned (grp x n) w) := by
  have h10 : n ≤ 10 := hn.le (by omega) (fitU_ten x (by omega))
  obtain ⟨i0, hi0, hz0, hz1, hz2⟩ := info_parts infoB
  have HN := Lib.hid hn
  clear hn
  go_enter Tryd.func70, Tryd.ntmps70
  go_wp2_with (first
    | (go_at_call 87; go_must (refine (size_any _ _ h0 h1 HN.out).mono ?_; rintro e w' ⟨rfl, rfl⟩))
    | (at_make; refine wpList_make_own _ rfl _ _ _ rfl w.heap.size 5 i0 _ 1 Tryd.underlying41 hi0 hz0 hz1 .i64 .i64 _ n rfl rfl rfl (by rw [hz2]; omega) (by unfold maxLen; omega) (Nat.le_refl _) ?_; intro w1 hown1 hgrow1))
  have hbe1 : Below w.heap.size w w1 := below_of_gb hgrow1
  have HO := Lib.hid hown1
  have HB := Lib.hid hbe1
  clear hown1 hgrow1 hbe1
  go_loopw [3, 0] (fun b v wr => ∃ k : Nat, v = .int .u64 (x / 128 ^ k) ∧ wr.ownsRow w.heap.size 5 1 b k (cells (grps x k)) ∧ Below w.heap.size w wr ∧ ∀ m, 1 ≤ m → m ≤ k → ¬ fitU x m) (fun _ v _ => (intOf v).toNat)
  case atStart => exact ⟨0, by simp, HO.out, HB.out, fun m h1 h2 => by omega⟩
  case round =>
    obtain ⟨k, rfl, hown, hbe, hno⟩ := hrel
    obtain ⟨q, hq⟩ : ∃ q, q = x / 128 ^ k := ⟨_, rfl⟩
    have hq0 : 0 ≤ q := by rw [hq]; exact Int.ediv_nonneg h0 (Int.le_of_lt (p128 _))
    have hq1 : q ≤ 18446744073709551615 := by rw [hq]; exact Int.le_trans (Int.ediv_le_self _ h0) h1
    have hk : k ≤ 9 := by
      rcases Nat.lt_or_ge k 10 with g | g
      · omega
      · exact absurd (fitU_ten x (by omega)) (hno 10 (by omega) g)
    have hsz := hbe.size
    rw [← hq]
    have HQ := Lib.hid hq
    have HBE := Lib.hid hbe
    have HNO := Lib.hid hno
    have hor : bits .or .u8 (q % 256) 128 = q % 128 + 128 := byte_or q
    clear hq hbe hno
    by_cases hlt : 128 ≤ q
    · go_wp2_with (at_builtin; refine wpList_append_own _ rfl _ _ _ rfl w.heap.size 5 i0 _ 1 1 Tryd.underlying41 hi0 hz0 hz1 hz2 rfl (by omega) _ _ _ rfl (hown.alloc _) ⟨wr.heap.size, 0, none⟩ 1 1 [.int .u8 (q % 128 + 128)] rfl rfl (World.news_of_block (cs := #[.int .u8 (q % 128 + 128)]) (t := 5) (fr := (0, 0)) (heap_alloc_new wr _)) (by simp [Value.oneCell']) (by unfold maxLen; omega) (by omega) (by simp; omega) ?_; intro v' w2 hown2 hgrow2 _; have HO2 := Lib.hid hown2; have HG2 := Lib.hid hgrow2; clear hown2 hgrow2)
      go_roundw
      case rel => exact ⟨k + 1, by rw [pow_out, HQ.out], by rw [grps_snoc, cells_snoc, ← HQ.out]; exact HO2.out, below_append HBE.out hown HG2.out, no_more HNO.out (by rw [← HQ.out]; omega)⟩
      case measure => simp [intOf]; omega
    · go_wp2_with (at_builtin; refine wpList_append_own _ rfl _ _ _ rfl w.heap.size 5 i0 _ 1 1 Tryd.underlying41 hi0 hz0 hz1 hz2 rfl (by omega) _ _ _ rfl (hown.alloc _) ⟨wr.heap.size, 0, none⟩ 1 1 [.int .u8 q] rfl rfl (World.news_of_block (cs := #[.int .u8 q]) (t := 5) (fr := (0, 0)) (heap_alloc_new wr _)) (by simp [Value.oneCell']) (by unfold maxLen; omega) (by omega) (by simp; omega) ?_; intro v' w2 hown2 hgrow2 _; have HO2 := Lib.hid hown2; have HG2 := Lib.hid hgrow2; clear hown2 hgrow2)
      go_ret
      exact own_end HQ.out HN.out HNO.out (by omega) HO2.out (below_append HBE.out hown HG2.out) hq0

theorem own_endS {x q : Int} {n k : Nat} {w w2 : World} {v : Value} (hq : q = x / 128 ^ k) (hn : Least (fitS x) n) (hno : ∀ m, 1 ≤ m → m ≤ k → ¬ fitS x m) (hf : -64 ≤ q) (hf2 : q < 64)
    (ho : w2.ownsRow w.heap.size 5 1 v (k + 1) (cells (grps x k) ++ [.int .u8 (q % 128)])) (hb : Below w.heap.size w w2) : Owned (grp x n) w (.returned v) w2 := by
  have hk : Least (fitS x) (k + 1) := ⟨by omega, by show -64 ≤ x / 128 ^ k ∧ x / 128 ^ k < 64; omega, fun m h1 h2 => hno m h1 (by omega)⟩
  obtain rfl := hk.unique hn
  have e : cells (grp x (k + 1)) = cells (grps x k) ++ [.int .u8 (q % 128)] := by rw [grp_snoc, cells_snoc, ← hq]
  exact owned_own (by rw [e]; exact ho) (grp_length _ _) hb
set_option maxHeartbeats 800000 in
theorem int_own (x : Int) (w : World) (h0 : -9223372036854775808 ≤ x) (h1 : x ≤ 9223372036854775807) {n : Nat} (hn : Least (fitS x) n) :
    Calls Tryd.prog 107 #[.int .i64 x] w (Owned (grp x n) w) := by
  obtain ⟨i0, hi0, hz0, hz1, hz2⟩ := info_parts infoB
  have HN := Lib.hid hn
  clear hn
  go_enter Tryd.func107, Tryd.ntmps107
  go_wp2
  go_loopw [3, 0] (fun b v wr => ∃ k : Nat, v = .int .i64 (x / 128 ^ k) ∧ wr.ownsRow w.heap.size 5 1 b k (cells (grps x k)) ∧ Below w.heap.size w wr ∧ ∀ m, 1 ≤ m → m ≤ k → ¬ fitS x m) (fun _ v _ => (intOf v).natAbs)
  case atStart => exact ⟨0, by simp, World.ownsRow_nil _ _ _ _, Below.refl _ _, fun m h1 h2 => by omega⟩
  case round =>
    obtain ⟨k, rfl, hown, hbe, hno⟩ := hrel
    obtain ⟨q, hq⟩ : ∃ q, q = x / 128 ^ k := ⟨_, rfl⟩
    obtain ⟨hq0, hq1⟩ := div_small h0 h1 hq
    have hk : k ≤ 9 := by
      rcases Nat.lt_or_ge k 10 with g | g
      · omega
      · exact absurd (fitS_ten x h0 (by omega)) (hno 10 (by omega) g)
    have hsz := hbe.size
    rw [← hq]
    have HQ := Lib.hid hq
    have HBE := Lib.hid hbe
    have HNO := Lib.hid hno
    have hor : bits .or .u8 (q % 256) 128 = q % 128 + 128 := byte_or q
    have hnot : bits .andNot .u8 (q % 256) 128 = q % 128 := byte_not q
    clear hq hbe hno
    have hparts : q < -64 ∨ 64 ≤ q ∨ (-64 ≤ q ∧ q < 64) := by omega
    rcases hparts with hlt | hlt | ⟨hge, hlt⟩
    · go_wp2_with (at_builtin; refine wpList_append_own _ rfl _ _ _ rfl w.heap.size 5 i0 _ 1 1 Tryd.underlying41 hi0 hz0 hz1 hz2 rfl (by omega) _ _ _ rfl (hown.alloc _) ⟨wr.heap.size, 0, none⟩ 1 1 [.int .u8 (q % 128 + 128)] rfl rfl (World.news_of_block (cs := #[.int .u8 (q % 128 + 128)]) (t := 5) (fr := (0, 0)) (heap_alloc_new wr _)) (by simp [Value.oneCell']) (by unfold maxLen; omega) (by omega) (by simp; omega) ?_; intro v' w2 hown2 hgrow2 _; have HO2 := Lib.hid hown2; have HG2 := Lib.hid hgrow2; clear hown2 hgrow2)
      go_roundw
      case rel => exact ⟨k + 1, by rw [pow_out, HQ.out], by rw [grps_snoc, cells_snoc, ← HQ.out]; exact HO2.out, below_append HBE.out hown HG2.out, no_moreS HNO.out (by rw [← HQ.out]; omega)⟩
      case measure => simp [intOf]; omega
    · have hn0 : ¬ q < -64 := by omega
      go_wp2_with (at_builtin; refine wpList_append_own _ rfl _ _ _ rfl w.heap.size 5 i0 _ 1 1 Tryd.underlying41 hi0 hz0 hz1 hz2 rfl (by omega) _ _ _ rfl (hown.alloc _) ⟨wr.heap.size, 0, none⟩ 1 1 [.int .u8 (q % 128 + 128)] rfl rfl (World.news_of_block (cs := #[.int .u8 (q % 128 + 128)]) (t := 5) (fr := (0, 0)) (heap_alloc_new wr _)) (by simp [Value.oneCell']) (by unfold maxLen; omega) (by omega) (by simp; omega) ?_; intro v' w2 hown2 hgrow2 _; have HO2 := Lib.hid hown2; have HG2 := Lib.hid hgrow2; clear hown2 hgrow2)
      go_roundw
      case rel => exact ⟨k + 1, by rw [pow_out, HQ.out], by rw [grps_snoc, cells_snoc, ← HQ.out]; exact HO2.out, below_append HBE.out hown HG2.out, no_moreS HNO.out (by rw [← HQ.out]; omega)⟩
      case measure => simp [intOf]; omega
    · have hd : decide (64 ≤ q) = false := by simpa using hlt
      go_wp2_with (at_builtin; refine wpList_append_own _ rfl _ _ _ rfl w.heap.size 5 i0 _ 1 1 Tryd.underlying41 hi0 hz0 hz1 hz2 rfl (by omega) _ _ _ rfl (hown.alloc _) ⟨wr.heap.size, 0, none⟩ 1 1 [.int .u8 (q % 128)] rfl rfl (World.news_of_block (cs := #[.int .u8 (q % 128)]) (t := 5) (fr := (0, 0)) (heap_alloc_new wr _)) (by simp [Value.oneCell']) (by unfold maxLen; omega) (by omega) (by simp; omega) ?_; intro v' w2 hown2 hgrow2 _; have HO2 := Lib.hid hown2; have HG2 := Lib.hid hgrow2; clear hown2 hgrow2)
      go_ret
      exact own_endS HQ.out HN.out HNO.out (by omega) (by omega) HO2.out (below_append HBE.out hown HG2.out)
theorem leastS (x : Int) (h0 : -9223372036854775808 ≤ x) (h1 : x ≤ 9223372036854775807) : ∃ n, Least (fitS x) n := least_find _ 10 (by omega) (fitS_ten x h0 (by omega))
/-- How many bytes a number with a sign takes. -/
noncomputable def sebN (x : Int) : Nat := if h : -9223372036854775808 ≤ x ∧ x ≤ 9223372036854775807 then (leastS x h.1 h.2).choose else 1
/-- A number's bytes, with a sign. -/
noncomputable def sebL (x : Int) : List UInt8 := (grp x (sebN x)).map fun c => UInt8.ofNat c.toNat
theorem sebN_least (x : Int) (h0 : -9223372036854775808 ≤ x) (h1 : x ≤ 9223372036854775807) : Least (fitS x) (sebN x) := by
  unfold sebN
  rw [dif_pos ⟨h0, h1⟩]
  exact (leastS x h0 h1).choose_spec
theorem nums_grp (x : Int) (n : Nat) : nums ((grp x n).map fun c => UInt8.ofNat c.toNat) = grp x n := by
  unfold nums
  rw [List.map_map]
  conv => rhs; rw [← List.map_id (grp x n)]
  apply List.map_congr_left
  intro c hc
  have := grp_bytes x _ c hc
  simp
  omega
theorem nums_sebL (x : Int) : nums (sebL x) = grp x (sebN x) := nums_grp x _
theorem sebL_length (x : Int) : (sebL x).length = sebN x := by unfold sebL; rw [List.length_map, grp_length]
theorem sebL_len (x : Int) (h0 : -9223372036854775808 ≤ x) (h1 : x ≤ 9223372036854775807) : 1 ≤ (sebL x).length ∧ (sebL x).length ≤ 10 := by
  rw [sebL_length]
  have h2 := sebN_least x h0 h1
  exact ⟨h2.1, h2.le (by omega) (fitS_ten x h0 (by omega))⟩
theorem bytesL_of {xs : List Int} {l : List UInt8} {w w' : World} {e : Ending} (h : Owned xs w e w') (hl : nums l = xs) : BytesL l w e w' := by
  obtain ⟨v, rfl, h1, h2⟩ := h
  subst hl
  rw [nums_length] at h1
  exact ⟨v, rfl, h1, h2⟩
theorem uintB (x : Int) (w : World) (h0 : 0 ≤ x) (h1 : x ≤ 18446744073709551615) : Calls Tryd.prog 70 #[.int .u64 x] w (BytesL (lebL x) w) :=
  (uint_own x w h0 h1 (lebN_least x h1)).mono fun _ _ h => bytesL_of h (nums_lebL x)
theorem intB (x : Int) (w : World) (h0 : -9223372036854775808 ≤ x) (h1 : x ≤ 9223372036854775807) : Calls Tryd.prog 107 #[.int .i64 x] w (BytesL (sebL x) w) :=
  (int_own x w h0 h1 (sebN_least x h0 h1)).mono fun _ _ h => bytesL_of h (nums_sebL x)
theorem refIntL (x : Int) (w : World) (h0 : -9223372036854775808 ≤ x) (h1 : x ≤ 9223372036854775807) : Calls Tryd.prog 102 #[.int .i64 x] w (Leb (sebL x) w) :=
  (refInt_any x w h0 h1 (sebN_least x h0 h1)).mono fun _ _ h => by
    obtain ⟨A, c, h1, _, _, h4, _, h6⟩ := h
    rw [← nums_sebL] at h1 h4
    rw [nums_length] at h1
    exact ⟨A, c, h1, h4, h6⟩
end Go.Proofs.YtebgmfjgapmpfabDoor

/- The instructions as lists, and what the functions of package ops and of its reference make of them. No program here. -/
namespace Go.Proofs.YtebgmfjgapmpfabDoor
set_option linter.unusedVariables false

/-- An access: bytes, type, writes, signed. -/
structure AccR where
  n : Nat
  t : Nat
  wr : Bool
  sg : Bool
  deriving DecidableEq
/-- A row of the reference. -/
structure RowR where
  op : Nat
  name : List UInt8
  imm : Nat
  takes : List UInt8
  has : List UInt8
  free : Bool
  deriving DecidableEq
-- LISTS
/-- What controlNames holds. -/
def tab0 : List (List UInt8) := [[117, 110, 114, 101, 97, 99, 104, 97, 98, 108, 101], [110, 111, 112], [98, 108, 111, 99, 107], [108, 111, 111, 112], [105, 102], [101, 108, 115, 101], [], [], [], [], [], [101, 110, 100], [98, 114], [98, 114, 95, 105, 102], [98, 114, 95, 116, 97, 98, 108, 101], [114, 101, 116, 117, 114, 110], [99, 97, 108, 108], [99, 97, 108, 108, 95, 105, 110, 100, 105, 114, 101, 99, 116], [], [], [], [], [], [], [], [], [100, 114, 111, 112], [115, 101, 108, 101, 99, 116], [], [], [], [], [108, 111, 99, 97, 108, 46, 103, 101, 116], [108, 111, 99, 97, 108, 46, 115, 101, 116], [108, 111, 99, 97, 108, 46, 116, 101, 101], [103, 108, 111, 98, 97, 108, 46, 103, 101, 116], [103, 108, 111, 98, 97, 108, 46, 115, 101, 116]]
/-- What memoryNames holds. -/
def tab1 : List (List UInt8) := [[105, 51, 50, 46, 108, 111, 97, 100], [105, 54, 52, 46, 108, 111, 97, 100], [], [], [105, 51, 50, 46, 108, 111, 97, 100, 56, 95, 115], [105, 51, 50, 46, 108, 111, 97, 100, 56, 95, 117], [105, 51, 50, 46, 108, 111, 97, 100, 49, 54, 95, 115], [105, 51, 50, 46, 108, 111, 97, 100, 49, 54, 95, 117], [105, 54, 52, 46, 108, 111, 97, 100, 56, 95, 115], [105, 54, 52, 46, 108, 111, 97, 100, 56, 95, 117], [105, 54, 52, 46, 108, 111, 97, 100, 49, 54, 95, 115], [105, 54, 52, 46, 108, 111, 97, 100, 49, 54, 95, 117], [105, 54, 52, 46, 108, 111, 97, 100, 51, 50, 95, 115], [105, 54, 52, 46, 108, 111, 97, 100, 51, 50, 95, 117], [105, 51, 50, 46, 115, 116, 111, 114, 101], [105, 54, 52, 46, 115, 116, 111, 114, 101], [], [], [105, 51, 50, 46, 115, 116, 111, 114, 101, 56], [105, 51, 50, 46, 115, 116, 111, 114, 101, 49, 54], [105, 54, 52, 46, 115, 116, 111, 114, 101, 56], [105, 54, 52, 46, 115, 116, 111, 114, 101, 49, 54], [105, 54, 52, 46, 115, 116, 111, 114, 101, 51, 50], [109, 101, 109, 111, 114, 121, 46, 115, 105, 122, 101], [109, 101, 109, 111, 114, 121, 46, 103, 114, 111, 119], [105, 51, 50, 46, 99, 111, 110, 115, 116], [105, 54, 52, 46, 99, 111, 110, 115, 116]]
/-- What testNames holds. -/
def tab2 : List (List UInt8) := [[105, 51, 50, 46, 101, 113, 122], [105, 51, 50, 46, 101, 113], [105, 51, 50, 46, 110, 101], [105, 51, 50, 46, 108, 116, 95, 115], [105, 51, 50, 46, 108, 116, 95, 117], [105, 51, 50, 46, 103, 116, 95, 115], [105, 51, 50, 46, 103, 116, 95, 117], [105, 51, 50, 46, 108, 101, 95, 115], [105, 51, 50, 46, 108, 101, 95, 117], [105, 51, 50, 46, 103, 101, 95, 115], [105, 51, 50, 46, 103, 101, 95, 117], [105, 54, 52, 46, 101, 113, 122], [105, 54, 52, 46, 101, 113], [105, 54, 52, 46, 110, 101], [105, 54, 52, 46, 108, 116, 95, 115], [105, 54, 52, 46, 108, 116, 95, 117], [105, 54, 52, 46, 103, 116, 95, 115], [105, 54, 52, 46, 103, 116, 95, 117], [105, 54, 52, 46, 108, 101, 95, 115], [105, 54, 52, 46, 108, 101, 95, 117], [105, 54, 52, 46, 103, 101, 95, 115], [105, 54, 52, 46, 103, 101, 95, 117]]
/-- What numberNames holds. -/
def tab3 : List (List UInt8) := [[105, 51, 50, 46, 99, 108, 122], [105, 51, 50, 46, 99, 116, 122], [105, 51, 50, 46, 112, 111, 112, 99, 110, 116], [105, 51, 50, 46, 97, 100, 100], [105, 51, 50, 46, 115, 117, 98], [105, 51, 50, 46, 109, 117, 108], [105, 51, 50, 46, 100, 105, 118, 95, 115], [105, 51, 50, 46, 100, 105, 118, 95, 117], [105, 51, 50, 46, 114, 101, 109, 95, 115], [105, 51, 50, 46, 114, 101, 109, 95, 117], [105, 51, 50, 46, 97, 110, 100], [105, 51, 50, 46, 111, 114], [105, 51, 50, 46, 120, 111, 114], [105, 51, 50, 46, 115, 104, 108], [105, 51, 50, 46, 115, 104, 114, 95, 115], [105, 51, 50, 46, 115, 104, 114, 95, 117], [105, 51, 50, 46, 114, 111, 116, 108], [105, 51, 50, 46, 114, 111, 116, 114], [105, 54, 52, 46, 99, 108, 122], [105, 54, 52, 46, 99, 116, 122], [105, 54, 52, 46, 112, 111, 112, 99, 110, 116], [105, 54, 52, 46, 97, 100, 100], [105, 54, 52, 46, 115, 117, 98], [105, 54, 52, 46, 109, 117, 108], [105, 54, 52, 46, 100, 105, 118, 95, 115], [105, 54, 52, 46, 100, 105, 118, 95, 117], [105, 54, 52, 46, 114, 101, 109, 95, 115], [105, 54, 52, 46, 114, 101, 109, 95, 117], [105, 54, 52, 46, 97, 110, 100], [105, 54, 52, 46, 111, 114], [105, 54, 52, 46, 120, 111, 114], [105, 54, 52, 46, 115, 104, 108], [105, 54, 52, 46, 115, 104, 114, 95, 115], [105, 54, 52, 46, 115, 104, 114, 95, 117], [105, 54, 52, 46, 114, 111, 116, 108], [105, 54, 52, 46, 114, 111, 116, 114]]
/-- What convertNames holds. -/
def tab4 : List (List UInt8) := [[105, 51, 50, 46, 119, 114, 97, 112, 95, 105, 54, 52], [], [], [], [], [105, 54, 52, 46, 101, 120, 116, 101, 110, 100, 95, 105, 51, 50, 95, 115], [105, 54, 52, 46, 101, 120, 116, 101, 110, 100, 95, 105, 51, 50, 95, 117]]
/-- What accesses holds. -/
def tabA : List AccR := [⟨4, 127, false, false⟩, ⟨8, 126, false, false⟩, ⟨0, 0, false, false⟩, ⟨0, 0, false, false⟩, ⟨1, 127, false, true⟩, ⟨1, 127, false, false⟩, ⟨2, 127, false, true⟩, ⟨2, 127, false, false⟩, ⟨1, 126, false, true⟩, ⟨1, 126, false, false⟩, ⟨2, 126, false, true⟩, ⟨2, 126, false, false⟩, ⟨4, 126, false, true⟩, ⟨4, 126, false, false⟩, ⟨4, 127, true, false⟩, ⟨8, 126, true, false⟩, ⟨0, 0, false, false⟩, ⟨0, 0, false, false⟩, ⟨1, 127, true, false⟩, ⟨2, 127, true, false⟩, ⟨1, 126, true, false⟩, ⟨2, 126, true, false⟩, ⟨4, 126, true, false⟩]
/-- The reference's groups. -/
def groupsL : List RowR := [⟨0, [32, 117, 110, 114, 101, 97, 99, 104, 97, 98, 108, 101], 0, [], [], true⟩, ⟨1, [32, 110, 111, 112], 0, [], [], false⟩, ⟨2, [32, 98, 108, 111, 99, 107, 32, 108, 111, 111, 112, 32, 105, 102], 1, [], [], true⟩, ⟨5, [32, 101, 108, 115, 101], 0, [], [], true⟩, ⟨11, [32, 101, 110, 100], 0, [], [], true⟩, ⟨12, [32, 98, 114, 32, 98, 114, 95, 105, 102], 2, [], [], true⟩, ⟨14, [32, 98, 114, 95, 116, 97, 98, 108, 101], 3, [], [], true⟩, ⟨15, [32, 114, 101, 116, 117, 114, 110], 0, [], [], true⟩, ⟨16, [32, 99, 97, 108, 108], 4, [], [], true⟩, ⟨17, [32, 99, 97, 108, 108, 95, 105, 110, 100, 105, 114, 101, 99, 116], 5, [], [], true⟩, ⟨26, [32, 100, 114, 111, 112, 32, 115, 101, 108, 101, 99, 116], 0, [], [], true⟩, ⟨32, [108, 111, 99, 97, 108, 46, 32, 103, 101, 116, 32, 115, 101, 116, 32, 116, 101, 101], 6, [], [], true⟩, ⟨35, [103, 108, 111, 98, 97, 108, 46, 32, 103, 101, 116, 32, 115, 101, 116], 7, [], [], true⟩, ⟨40, [105, 51, 50, 46, 32, 108, 111, 97, 100], 8, [119], [119], false⟩, ⟨41, [105, 54, 52, 46, 32, 108, 111, 97, 100], 8, [119], [108], false⟩, ⟨44, [105, 51, 50, 46, 32, 108, 111, 97, 100, 56, 95, 115, 32, 108, 111, 97, 100, 56, 95, 117, 32, 108, 111, 97, 100, 49, 54, 95, 115, 32, 108, 111, 97, 100, 49, 54, 95, 117], 8, [119], [119], false⟩, ⟨48, [105, 54, 52, 46, 32, 108, 111, 97, 100, 56, 95, 115, 32, 108, 111, 97, 100, 56, 95, 117, 32, 108, 111, 97, 100, 49, 54, 95, 115, 32, 108, 111, 97, 100, 49, 54, 95, 117, 32, 108, 111, 97, 100, 51, 50, 95, 115, 32, 108, 111, 97, 100, 51, 50, 95, 117], 8, [119], [108], false⟩, ⟨54, [105, 51, 50, 46, 32, 115, 116, 111, 114, 101], 8, [119, 119], [], false⟩, ⟨55, [105, 54, 52, 46, 32, 115, 116, 111, 114, 101], 8, [119, 108], [], false⟩, ⟨58, [105, 51, 50, 46, 32, 115, 116, 111, 114, 101, 56, 32, 115, 116, 111, 114, 101, 49, 54], 8, [119, 119], [], false⟩, ⟨60, [105, 54, 52, 46, 32, 115, 116, 111, 114, 101, 56, 32, 115, 116, 111, 114, 101, 49, 54, 32, 115, 116, 111, 114, 101, 51, 50], 8, [119, 108], [], false⟩, ⟨63, [109, 101, 109, 111, 114, 121, 46, 32, 115, 105, 122, 101], 9, [], [119], false⟩, ⟨64, [109, 101, 109, 111, 114, 121, 46, 32, 103, 114, 111, 119], 9, [119], [119], false⟩, ⟨65, [105, 51, 50, 46, 32, 99, 111, 110, 115, 116], 10, [], [119], false⟩, ⟨66, [105, 54, 52, 46, 32, 99, 111, 110, 115, 116], 11, [], [108], false⟩, ⟨69, [105, 51, 50, 46, 32, 101, 113, 122], 0, [119], [119], false⟩, ⟨70, [105, 51, 50, 46, 32, 101, 113, 32, 110, 101, 32, 108, 116, 95, 115, 32, 108, 116, 95, 117, 32, 103, 116, 95, 115, 32, 103, 116, 95, 117, 32, 108, 101, 95, 115, 32, 108, 101, 95, 117, 32, 103, 101, 95, 115, 32, 103, 101, 95, 117], 0, [119, 119], [119], false⟩, ⟨80, [105, 54, 52, 46, 32, 101, 113, 122], 0, [108], [119], false⟩, ⟨81, [105, 54, 52, 46, 32, 101, 113, 32, 110, 101, 32, 108, 116, 95, 115, 32, 108, 116, 95, 117, 32, 103, 116, 95, 115, 32, 103, 116, 95, 117, 32, 108, 101, 95, 115, 32, 108, 101, 95, 117, 32, 103, 101, 95, 115, 32, 103, 101, 95, 117], 0, [108, 108], [119], false⟩, ⟨103, [105, 51, 50, 46, 32, 99, 108, 122, 32, 99, 116, 122, 32, 112, 111, 112, 99, 110, 116], 0, [119], [119], false⟩, ⟨106, [105, 51, 50, 46, 32, 97, 100, 100, 32, 115, 117, 98, 32, 109, 117, 108, 32, 100, 105, 118, 95, 115, 32, 100, 105, 118, 95, 117, 32, 114, 101, 109, 95, 115, 32, 114, 101, 109, 95, 117, 32, 97, 110, 100, 32, 111, 114, 32, 120, 111, 114, 32, 115, 104, 108, 32, 115, 104, 114, 95, 115, 32, 115, 104, 114, 95, 117, 32, 114, 111, 116, 108, 32, 114, 111, 116, 114], 0, [119, 119], [119], false⟩, ⟨121, [105, 54, 52, 46, 32, 99, 108, 122, 32, 99, 116, 122, 32, 112, 111, 112, 99, 110, 116], 0, [108], [108], false⟩, ⟨124, [105, 54, 52, 46, 32, 97, 100, 100, 32, 115, 117, 98, 32, 109, 117, 108, 32, 100, 105, 118, 95, 115, 32, 100, 105, 118, 95, 117, 32, 114, 101, 109, 95, 115, 32, 114, 101, 109, 95, 117, 32, 97, 110, 100, 32, 111, 114, 32, 120, 111, 114, 32, 115, 104, 108, 32, 115, 104, 114, 95, 115, 32, 115, 104, 114, 95, 117, 32, 114, 111, 116, 108, 32, 114, 111, 116, 114], 0, [108, 108], [108], false⟩, ⟨167, [105, 51, 50, 46, 32, 119, 114, 97, 112, 95, 105, 54, 52], 0, [108], [119], false⟩, ⟨172, [105, 54, 52, 46, 32, 101, 120, 116, 101, 110, 100, 95, 105, 51, 50, 95, 115, 32, 101, 120, 116, 101, 110, 100, 95, 105, 51, 50, 95, 117], 0, [119], [108], false⟩]
-- END LISTS

/-- The name of an instruction. -/
def nameR (n : Nat) : List UInt8 :=
  if n < 37 then tab0.getD n [] else if 40 ≤ n ∧ n < 67 then tab1.getD (n - 40) [] else if 69 ≤ n ∧ n < 91 then tab2.getD (n - 69) [] else if 103 ≤ n ∧ n < 139 then tab3.getD (n - 103) [] else if 167 ≤ n ∧ n < 174 then tab4.getD (n - 167) [] else []
def acc0 : AccR := ⟨0, 0, false, false⟩
def accR (n : Nat) : AccR := if n < 40 then acc0 else tabA.getD (n - 40) acc0
def isAcc (n : Nat) : Bool := decide (0 < (accR n).n)
def between (n a b : Nat) : Bool := decide (a ≤ n ∧ n ≤ b)
def accTypes (n : Nat) : List UInt8 × List UInt8 :=
  if isAcc n = false then ([], []) else if (accR n).wr = true then (if (accR n).t = 127 then ([127, 127], []) else ([127, 126], [])) else if (accR n).t = 127 then ([127], [127]) else ([127], [126])
def typesR (n : Nat) : List UInt8 × List UInt8 :=
  if n = 63 ∨ n = 65 then ([], [127]) else if n = 64 then ([127], [127]) else if n = 66 then ([], [126]) else if n = 69 then ([127], [127]) else if between n 70 79 = true then ([127, 127], [127])
  else if n = 80 then ([126], [127]) else if between n 81 90 = true then ([126, 126], [127]) else if between n 103 105 = true then ([127], [127]) else if between n 106 120 = true then ([127, 127], [127])
  else if between n 121 123 = true then ([126], [126]) else if between n 124 138 = true then ([126, 126], [126]) else if n = 167 then ([126], [127]) else if n = 172 ∨ n = 173 then ([127], [126]) else accTypes n
def immR (n : Nat) : Nat :=
  if n = 2 ∨ n = 3 ∨ n = 4 then 1 else if n = 12 ∨ n = 13 then 2 else if n = 14 then 3 else if n = 16 then 4 else if n = 17 then 5 else if n = 32 ∨ n = 33 ∨ n = 34 then 6 else if n = 35 ∨ n = 36 then 7
  else if n = 63 ∨ n = 64 then 9 else if n = 65 then 10 else if n = 66 then 11 else if isAcc n = true then 8 else 0
def freeR (n : Nat) : Bool := decide (n < 37 ∧ n ≠ 1)
def floatR (n : Nat) : Bool :=
  decide (n = 42 ∨ n = 43 ∨ n = 56 ∨ n = 57 ∨ n = 67 ∨ n = 68) || (between n 91 102 || between n 139 166 || between n 168 171 || between n 174 191)
def checkR (n : Nat) : Nat := if nameR n ≠ [] then 0 else if floatR n = true then 8 else 9
/-- A description. -/
structure Inf where
  name : List UInt8
  imm : Nat
  ps : List UInt8
  rs : List UInt8
  free : Bool
  deriving DecidableEq
def infR (n : Nat) : Inf := if nameR n = [] then ⟨[], 0, [], [], false⟩ else ⟨nameR n, immR n, (typesR n).1, (typesR n).2, freeR n⟩

/-- The reference's word: what is still to come; f rounds are left. -/
def wordGo (s : List UInt8) : Nat → Nat → Int → Nat → Int → Option (List UInt8)
  | 0, _, _, _, _ => none
  | f + 1, i, head, frm, n =>
    if i < s.length ∧ s.getD i 0 ≠ 32 then wordGo s f (i + 1) head frm n
    else if head < 0 then wordGo s f (i + 1) i (i + 1) n
    else if n = 0 then some (s.take head.toNat ++ (s.drop frm).take (i - frm))
    else wordGo s f (i + 1) head (i + 1) (n - 1)
def wordR (s : List UInt8) (n : Int) : Option (List UInt8) := wordGo s (s.length + 1) 0 (-1) 0 n
def row0 : RowR := ⟨0, [], 0, [], [], false⟩
/-- The reference's Of, k rows are left. -/
def ofGo (n : Nat) : Nat → Option RowR
  | 0 => none
  | k + 1 =>
    let r := groupsL.getD k row0
    if r.op ≤ n then (match wordR r.name ((n : Int) - r.op) with | some s => some ⟨n, s, r.imm, r.takes, r.has, r.free⟩ | none => none) else ofGo n k
def refR (n : Nat) : Option RowR := ofGo n 35
def lettersR (s : List UInt8) : List UInt8 := s.map fun c => if c = 119 then 127 else 126
def floatsL : List (Nat × Nat) := [(42, 43), (56, 57), (67, 68), (91, 102), (139, 166), (168, 171), (174, 191)]
def refFloat (n : Nat) : Bool := floatsL.any fun p => decide (p.1 ≤ n ∧ n ≤ p.2)
def refCheck (n : Nat) : Nat := if refFloat n = true then 8 else if (refR n).isSome = true then 0 else 9
def accStep (s : List UInt8) (n : Nat) (i : Nat) : Nat :=
  if i < 3 then n else if s.getD i 0 = 56 then 1 else if (s.drop i).take 2 = [49, 54] then 2 else if (s.drop i).take 2 = [51, 50] then 4 else n
def accLong (s : List UInt8) : Bool := s.take 3 == [105, 54, 52]
def accBytes (s : List UInt8) : Nat :=
  let n := (List.range (s.length - 1)).foldl (accStep s) (if accLong s = true then 8 else 4)
  if s.getD (s.length - 1) 0 = 56 then 1 else n
/-- The reference's Access: bytes, long, writes, signed. -/
def refAcc (n : Nat) : Option (Nat × Bool × Bool × Bool) :=
  match refR n with
  | some r => if r.imm = 8 then some (accBytes r.name, accLong r.name, decide (r.takes.length = 2), r.name.drop (r.name.length - 2) == [95, 115]) else none
  | none => none

/-- Both tell the same of every opcode. -/
def sameTell (n : Nat) : Bool :=
  checkR n == refCheck n && ((immR n == 1) == (decide (2 ≤ n) && decide (n ≤ 4))) && (infR n == match refR n with
    | some r => ⟨r.name, r.imm, lettersR r.takes, lettersR r.has, r.free⟩
    | none => ⟨[], 0, [], [], false⟩)
def sameAcc (n : Nat) : Bool :=
  match refAcc n with
  | some (b, long, w, g) => isAcc n && accR n == ⟨b, if long then 126 else 127, w, g⟩
  | none => !isAcc n && accR n == acc0
theorem tell_all : ∀ n, n < 256 → sameTell n = true := by decide +kernel
theorem acc_all : ∀ n, n < 256 → sameAcc n = true := by decide +kernel
end Go.Proofs.YtebgmfjgapmpfabDoor

/- The tables of package ops in a world; nameOf. -/
namespace Go.Proofs.YtebgmfjgapmpfabDoor
set_option linter.unusedVariables false
open Go.RowKit

def strs (l : List (List UInt8)) : Array Value := (l.map fun s => .string (S s)).toArray
def accCells (l : List AccR) : Array Value := (l.flatMap fun a => [.int .i64 a.n, .int .u8 a.t, .bool a.wr, .bool a.sg]).toArray
/-- The tables lie where they are laid. -/
structure Tabs (w : World) : Prop where
  h0 : ∃ t fr, w.heap[1]? = some (.cells (strs tab0) t fr)
  h1 : ∃ t fr, w.heap[2]? = some (.cells (strs tab1) t fr)
  h2 : ∃ t fr, w.heap[3]? = some (.cells (strs tab2) t fr)
  h3 : ∃ t fr, w.heap[4]? = some (.cells (strs tab3) t fr)
  h4 : ∃ t fr, w.heap[5]? = some (.cells (strs tab4) t fr)
  hA : ∃ t fr, w.heap[6]? = some (.cells (accCells tabA) t fr)
theorem tab_below {w wr : World} {g : Nat} {cs : Array Value} (h : ∃ t fr, w.heap[g]? = some (.cells cs t fr)) (hb : Below w.heap.size w wr) : ∃ t fr, wr.heap[g]? = some (.cells cs t fr) := by
  obtain ⟨t, fr, h⟩ := h
  exact ⟨t, fr, (hb.block _ (Array.getElem?_eq_some_iff.1 h).1).trans h⟩
theorem Tabs.below {w wr : World} (h : Tabs w) (hb : Below w.heap.size w wr) : Tabs wr :=
  ⟨tab_below h.h0 hb, tab_below h.h1 hb, tab_below h.h2 hb, tab_below h.h3 hb, tab_below h.h4 hb, tab_below h.hA hb⟩
theorem strs_get (l : List (List UInt8)) (i : Nat) (h : i < l.length) : (strs l)[i]? = some (.string (S (l.getD i []))) := by
  unfold strs
  simp [List.getD, List.getElem?_eq_getElem h]
theorem tab_cell {w : World} {g : Nat} {l : List (List UInt8)} (h : ∃ t fr, w.heap[g]? = some (.cells (strs l) t fr)) (i : Nat) (hi : i < l.length) : w.cell? ⟨g, i, none⟩ = some (.string (S (l.getD i []))) := by
  obtain ⟨t, fr, h⟩ := h
  rw [cell_of_row w g i _ t fr h, strs_get l i hi]

theorem ret_bool {a b : Bool} (h : a = b) : Ending.returned (.bool a) = .returned (.bool b) := by rw [h]
theorem between_any (n a b : Nat) (w : World) : Calls Tryd.prog 110 #[.int .u8 n, .int .u8 a, .int .u8 b] w fun e w' => e = .returned (.bool (between n a b)) ∧ w = w' := by
  by_cases h1 : a ≤ n
  · by_cases h2 : n ≤ b
    · have HE := Lib.hid (show between n a b = true by unfold between; simp; omega)
      go_enter Tryd.func110, Tryd.ntmps110
      go_wp2
      go_ret
      exact ⟨ret_bool (by rw [HE.out]), rfl⟩
    · have HE := Lib.hid (show between n a b = false by unfold between; simp; omega)
      have hd : decide (n ≤ b) = false := by simpa using h2
      go_enter Tryd.func110, Tryd.ntmps110
      go_wp2
      go_ret
      exact ⟨ret_bool (by rw [HE.out]), rfl⟩
  · have HE := Lib.hid (show between n a b = false by unfold between; simp; omega)
    have hd : decide (a ≤ n) = false := by simpa using h1
    go_enter Tryd.func110, Tryd.ntmps110
    go_wp2
    go_ret
    exact ⟨ret_bool (by rw [HE.out]), rfl⟩

theorem free_any (n : Nat) (w : World) (hn : n ≤ 255) : Calls Tryd.prog 92 #[.int .u8 n] w fun e w' => e = .returned (.bool (freeR n)) ∧ w = w' := by
  by_cases h1 : n < 37
  · by_cases h2 : n = 1
    · subst h2
      go_enter Tryd.func92, Tryd.ntmps92
      go_wp2
      go_ret
      exact ⟨rfl, rfl⟩
    · have HE := Lib.hid (show freeR n = true by unfold freeR; simp; omega)
      have hd : ((n : Int) != 1) = true := by simp; omega
      go_enter Tryd.func92, Tryd.ntmps92
      go_wp2
      go_ret
      exact ⟨ret_bool (by rw [HE.out]), rfl⟩
  · have HE := Lib.hid (show freeR n = false by unfold freeR; simp; omega)
    have hd : decide (n < 37) = false := by simpa using h1
    go_enter Tryd.func92, Tryd.ntmps92
    go_wp2
    go_ret
    exact ⟨ret_bool (by rw [HE.out]), rfl⟩

theorem name_lo (n : Nat) (w : World) (hT : Tabs w) (hn : n < 37) : Calls Tryd.prog 88 #[.int .u8 n] w fun e w' => e = .returned (.string (S (nameR n))) ∧ w = w' := by
  have hc := tab_cell hT.h0 n (by show _ < 37; omega)
  have HE := Lib.hid (show nameR n = tab0.getD n [] by unfold nameR; rw [if_pos hn])
  obtain ⟨s, hs⟩ : ∃ s, s = tab0.getD n [] := ⟨_, rfl⟩
  rw [← hs] at hc HE
  clear hs
  go_enter Tryd.func88, Tryd.ntmps88
  go_wp2
  go_ret
  exact ⟨ret_str HE.out.symm, rfl⟩
theorem name_mem (n : Nat) (w : World) (hT : Tabs w) (h1 : 40 ≤ n) (h2 : n < 67) : Calls Tryd.prog 88 #[.int .u8 n] w fun e w' => e = .returned (.string (S (nameR n))) ∧ w = w' := by
  have hc := tab_cell hT.h1 (n - 40) (by show _ < 27; omega)
  have HE := Lib.hid (show nameR n = tab1.getD (n - 40) [] by unfold nameR; rw [if_neg (by omega), if_pos ⟨h1, h2⟩])
  obtain ⟨s, hs⟩ : ∃ s, s = tab1.getD (n - 40) [] := ⟨_, rfl⟩
  rw [← hs] at hc HE
  clear hs
  have d0 : decide (n < 37) = false := by simp; omega
  go_enter Tryd.func88, Tryd.ntmps88
  go_wp2
  go_ret
  exact ⟨ret_str HE.out.symm, rfl⟩
theorem name_test (n : Nat) (w : World) (hT : Tabs w) (h1 : 69 ≤ n) (h2 : n < 91) : Calls Tryd.prog 88 #[.int .u8 n] w fun e w' => e = .returned (.string (S (nameR n))) ∧ w = w' := by
  have hc := tab_cell hT.h2 (n - 69) (by show _ < 22; omega)
  have HE := Lib.hid (show nameR n = tab2.getD (n - 69) [] by unfold nameR; rw [if_neg (by omega), if_neg (by omega), if_pos ⟨h1, h2⟩])
  obtain ⟨s, hs⟩ : ∃ s, s = tab2.getD (n - 69) [] := ⟨_, rfl⟩
  rw [← hs] at hc HE
  clear hs
  have d0 : decide (n < 37) = false := by simp; omega
  have d1 : decide (n < 67) = false := by simp; omega
  go_enter Tryd.func88, Tryd.ntmps88
  go_wp2
  go_ret
  exact ⟨ret_str HE.out.symm, rfl⟩
set_option maxRecDepth 100000 in
theorem name_num (n : Nat) (w : World) (hT : Tabs w) (h1 : 103 ≤ n) (h2 : n < 139) : Calls Tryd.prog 88 #[.int .u8 n] w fun e w' => e = .returned (.string (S (nameR n))) ∧ w = w' := by
  have hc := tab_cell hT.h3 (n - 103) (by show _ < 36; omega)
  have HE := Lib.hid (show nameR n = tab3.getD (n - 103) [] by unfold nameR; rw [if_neg (by omega), if_neg (by omega), if_neg (by omega), if_pos ⟨h1, h2⟩])
  obtain ⟨s, hs⟩ : ∃ s, s = tab3.getD (n - 103) [] := ⟨_, rfl⟩
  rw [← hs] at hc HE
  clear hs
  have d0 : decide (n < 37) = false := by simp; omega
  have d1 : decide (n < 67) = false := by simp; omega
  have d2 : decide (n < 91) = false := by simp; omega
  go_enter Tryd.func88, Tryd.ntmps88
  go_wp2
  go_ret
  exact ⟨ret_str HE.out.symm, rfl⟩
set_option maxRecDepth 100000 in
theorem name_conv (n : Nat) (w : World) (hT : Tabs w) (h1 : 167 ≤ n) (h2 : n < 174) : Calls Tryd.prog 88 #[.int .u8 n] w fun e w' => e = .returned (.string (S (nameR n))) ∧ w = w' := by
  have hc := tab_cell hT.h4 (n - 167) (by show _ < 7; omega)
  have HE := Lib.hid (show nameR n = tab4.getD (n - 167) [] by unfold nameR; rw [if_neg (by omega), if_neg (by omega), if_neg (by omega), if_neg (by omega), if_pos ⟨h1, h2⟩])
  obtain ⟨s, hs⟩ : ∃ s, s = tab4.getD (n - 167) [] := ⟨_, rfl⟩
  rw [← hs] at hc HE
  clear hs
  have d0 : decide (n < 37) = false := by simp; omega
  have d1 : decide (n < 67) = false := by simp; omega
  have d2 : decide (n < 91) = false := by simp; omega
  have d3 : decide (n < 139) = false := by simp; omega
  go_enter Tryd.func88, Tryd.ntmps88
  go_wp2
  go_ret
  exact ⟨ret_str HE.out.symm, rfl⟩
set_option maxRecDepth 100000 in
theorem name_none (n : Nat) (w : World) (hn : n ≤ 255) (h : (37 ≤ n ∧ n < 40) ∨ (67 ≤ n ∧ n < 69) ∨ (91 ≤ n ∧ n < 103) ∨ (139 ≤ n ∧ n < 167) ∨ 174 ≤ n) : Calls Tryd.prog 88 #[.int .u8 n] w fun e w' => e = .returned (.string (S (nameR n))) ∧ w = w' := by
  have HE := Lib.hid (show nameR n = [] by unfold nameR; rw [if_neg (by omega), if_neg (by omega), if_neg (by omega), if_neg (by omega), if_neg (by omega)])
  have d0 : decide (n < 37) = false := by simp; omega
  rcases h with ⟨h1, h2⟩ | ⟨h1, h2⟩ | ⟨h1, h2⟩ | ⟨h1, h2⟩ | h1
  all_goals
    go_enter Tryd.func88, Tryd.ntmps88
    go_wp2
    all_goals (first | (exfalso; omega) | (go_ret; exact ⟨ret_str HE.out.symm, rfl⟩))
theorem name_any (n : Nat) (w : World) (hT : Tabs w) (hn : n ≤ 255) : Calls Tryd.prog 88 #[.int .u8 n] w fun e w' => e = .returned (.string (S (nameR n))) ∧ w = w' := by
  by_cases a : n < 37
  · exact name_lo n w hT a
  by_cases b : 40 ≤ n ∧ n < 67
  · exact name_mem n w hT b.1 b.2
  by_cases c : 69 ≤ n ∧ n < 91
  · exact name_test n w hT c.1 c.2
  by_cases d : 103 ≤ n ∧ n < 139
  · exact name_num n w hT d.1 d.2
  by_cases f : 167 ≤ n ∧ n < 174
  · exact name_conv n w hT f.1 f.2
  exact name_none n w hn (by omega)
end Go.Proofs.YtebgmfjgapmpfabDoor

/- The reference's groups. -/
namespace Go.Proofs.YtebgmfjgapmpfabDoor
set_option linter.unusedVariables false
open Go.RowKit

/-- A row as cells. -/
def rowCells (r : RowR) : List Value := [.int .i64 r.op, .string (S r.name), .int .i64 r.imm, .string (S r.takes), .string (S r.has), .bool r.free]
def rowsArr (l : List RowR) : Array Value := (l.flatMap rowCells).toArray
set_option maxRecDepth 100000 in
set_option maxHeartbeats 4000000 in
theorem groups_any (w : World) : Calls Tryd.prog 85 #[] w fun e w' => e = .returned (.slice (some ⟨w.heap.size, 0, none⟩) 35 35) ∧ w' = w.alloc (.cells (rowsArr groupsL) 104) := by
  go_enter Tryd.func85, Tryd.ntmps85
  go_wp2_with (refine Go.Great.wpList_buildSliceTo rfl 127 104 35 _ rfl _ rfl _ rfl Tryd.underlying127 (rowsArr groupsL) (by kernel_rfl) ?_)
  go_ret
  exact ⟨rfl, rfl⟩
end Go.Proofs.YtebgmfjgapmpfabDoor

/- The reference's word. -/
namespace Go.Proofs.YtebgmfjgapmpfabDoor
set_option linter.unusedVariables false
open Go.RowKit

abbrev wordV (o : Option (List UInt8)) : Value := .tuple #[.string (S (o.getD [])), .bool o.isSome]
def WordPost (o : Option (List UInt8)) (w : World) (e : Ending) (w' : World) : Prop := e = .returned (wordV o) ∧ ∃ m, w' = w.drewN m
/-- What the loop still owes; h is 0 where no head is known yet, else the head and one. -/
def Owes (s : List UInt8) (o : Option (List UInt8)) (k : Nat) (h : Int) (f : Nat) (m : Int) : Prop := wordGo s (s.length + 1 - k) k h f m = o
theorem owes_skip {s : List UInt8} {o : Option (List UInt8)} {k : Nat} {h : Int} {f : Nat} {m : Int} (H : Owes s o k h f m) (hk : k < s.length) (hc : s[k] ≠ 32) : Owes s o (k + 1) h f m := by
  unfold Owes at *
  have e : s.length + 1 - k = (s.length + 1 - (k + 1)) + 1 := by omega
  rw [e, wordGo, if_pos ⟨hk, by rw [List.getD, List.getElem?_eq_getElem hk]; exact hc⟩] at H
  exact H
theorem owes_no {s : List UInt8} {k : Nat} (hk : k ≤ s.length) (hc : ∀ h : k < s.length, s[k] = 32) : ¬ (k < s.length ∧ s.getD k 0 ≠ 32) := by
  rintro ⟨h1, h2⟩
  apply h2
  rw [List.getD, List.getElem?_eq_getElem h1]
  exact hc h1
theorem owes_head {s : List UInt8} {o : Option (List UInt8)} {k f : Nat} {m : Int} (H : Owes s o k (-1) f m) (hk : k ≤ s.length) (hc : ∀ h : k < s.length, s[k] = 32) : Owes s o (k + 1) k (k + 1) m := by
  unfold Owes at *
  have e : s.length + 1 - k = (s.length + 1 - (k + 1)) + 1 := by omega
  rw [e, wordGo, if_neg (owes_no hk hc), if_pos (by omega)] at H
  exact H
theorem owes_next {s : List UInt8} {o : Option (List UInt8)} {k h f : Nat} {m : Int} (H : Owes s o k h f m) (hk : k ≤ s.length) (hc : ∀ h : k < s.length, s[k] = 32) (hm : m ≠ 0) : Owes s o (k + 1) h (k + 1) (m - 1) := by
  unfold Owes at *
  have e : s.length + 1 - k = (s.length + 1 - (k + 1)) + 1 := by omega
  rw [e, wordGo, if_neg (owes_no hk hc), if_neg (by omega), if_neg hm] at H
  exact H
theorem owes_end {s : List UInt8} {o : Option (List UInt8)} {k h f : Nat} (H : Owes s o k h f 0) (hk : k ≤ s.length) (hc : ∀ h : k < s.length, s[k] = 32) : o = some (s.take h ++ (s.drop f).take (k - f)) := by
  unfold Owes at *
  have e : s.length + 1 - k = (s.length + 1 - (k + 1)) + 1 := by omega
  rw [e, wordGo, if_neg (owes_no hk hc), if_neg (by omega), if_pos rfl] at H
  exact H.symm
theorem owes_none {s : List UInt8} {o : Option (List UInt8)} {k f : Nat} {h m : Int} (H : Owes s o k h f m) (hk : s.length < k) : o = none := by
  unfold Owes at *
  have e : s.length + 1 - k = 0 := by omega
  rw [e, wordGo] at H
  exact H.symm
/-- The head's slot. -/
def HeadIs (n : Nat) (v : Value) (h : Int) : Prop := (h = -1 ∧ v = .int .i64 (-1)) ∨ ∃ j : Nat, h = j ∧ j ≤ n ∧ v = .int .i64 (j : Int)
theorem word_ret {s : List UInt8} {o : Option (List UInt8)} {j f k : Nat} (h : o = some (s.take j ++ (s.drop f).take (k - f))) : Ending.returned (.tuple #[.string ((S s).extract 0 j ++ (S s).extract f k), .bool true]) = .returned (wordV o) := by
  subst h
  rw [S_extract, S_extract, S_append]
  rfl
set_option maxRecDepth 100000 in
theorem word_any (s : List UInt8) (n : Nat) (w : World) (hs : s.length ≤ 1000) (hn : n ≤ 255) : Calls Tryd.prog 86 #[.string (S s), .int .i64 n] w (WordPost (wordR s n) w) := by
  have H0 : Owes s (wordR s n) 0 (-1) 0 n := rfl
  obtain ⟨o, ho⟩ : ∃ o, o = wordR s n := ⟨_, rfl⟩
  rw [← ho] at H0 ⊢
  clear ho
  have HO := Lib.hid H0
  clear H0
  have hz : (S s).size ≤ 1000 := by rw [S_size]; exact hs
  have HS := Lib.hid (S_size s)
  go_enter Tryd.func86, Tryd.ntmps86
  go_wp2
  go_loop [1, 6, 7, 8] (fun n hd fr i => ∃ (k f : Nat) (h m : Int), k ≤ (S s).size + 1 ∧ i = .int .i64 k ∧ HeadIs (S s).size hd h ∧ f ≤ k ∧ fr = .int .i64 f ∧ 0 ≤ m ∧ m ≤ 255 ∧ n = .int .i64 m ∧ Hid (Owes s o k h f m)) (fun _ _ _ i => (S s).size + 1 - (intOf i).toNat)
  case atStart => exact ⟨0, 0, -1, n, by omega, rfl, .inl ⟨rfl, rfl⟩, by omega, rfl, by omega, by omega, rfl, HO⟩
  case round =>
    obtain ⟨k, f, h, m, hk, rfl, hh, hf, rfl, hm0, hm, rfl, HX⟩ := hrel
    clear HO
    by_cases hlt : k < (S s).size
    · have hl : k < s.length := by rw [← HS.out]; exact hlt
      by_cases hc : s[k] = 32
      · have hq : ((((S s)[k]'hlt).toNat : Int) != 32) = false := by rw [S_get s k hlt, hc]; rfl
        have HC := Lib.hid hc
        clear hc
        rcases hh with ⟨rfl, rfl⟩ | ⟨j, rfl, hj, rfl⟩
        · go_wp2
          go_round
          case rel => exact ⟨k + 1, k + 1, k, m, by omega, by go_num, .inr ⟨k, rfl, by omega, rfl⟩, by omega, by go_num, hm0, hm, rfl, Lib.hid (owes_head HX.out (by omega) (fun _ => HC.out))⟩
          case measure => simp [intOf]; omega
        · have hjn : decide ((j : Int) < 0) = false := by simp
          by_cases hmz : m = 0
          · subst hmz
            have x1 : ((S s).extract 0 j).size ≤ 1000 := by rw [S_extract, S_size]; simp; omega
            have x2 : ((S s).extract f k).size ≤ 1000 := by rw [S_extract, S_size]; simp; omega
            have x3 : ¬ 9223372036854775807 < ((S s).extract 0 j).size + ((S s).extract f k).size := by omega
            have i1 : (j : Int) ≤ ((S s).size : Int) := by omega
            have i2 : (f : Int) ≤ (k : Int) := by omega
            have i3 : (k : Int) ≤ ((S s).size : Int) := by omega
            clear x1 x2
            go_wp2
            go_quiet (fail)
            go_wp2
            go_ret2
            exact ⟨word_ret (owes_end HX.out (by omega) (fun _ => HC.out)), _, rfl⟩
          · have hmq : (m == 0) = false := by simpa using hmz
            have HM := Lib.hid hmz
            clear hmz
            go_wp2
            go_round
            case rel => exact ⟨k + 1, k + 1, j, m - 1, by omega, by go_num, .inr ⟨j, rfl, by omega, rfl⟩, by omega, by go_num, by have := HM.out; omega, by omega, rfl, Lib.hid (owes_next HX.out (by omega) (fun _ => HC.out) HM.out)⟩
            case measure => simp [intOf]; omega
      · have hq : ((((S s)[k]'hlt).toNat : Int) != 32) = true := by
          rw [S_get s k hlt]
          simp only [bne_iff_ne, ne_eq]
          exact fun e => hc (u8_ext (by have e2 : s[k].toNat = 32 := by exact_mod_cast e
                                        exact e2))
        have HC := Lib.hid hc
        clear hc
        go_wp2
        go_round
        case rel => exact ⟨k + 1, f, h, m, by omega, by go_num, hh, by omega, rfl, hm0, hm, rfl, Lib.hid (owes_skip HX.out hl HC.out)⟩
        case measure => simp [intOf]; omega
    · by_cases hle : k ≤ (S s).size
      · have HC := Lib.hid (show ∀ h : k < s.length, s[k] = 32 from fun h => absurd (by rw [← HS.out] at h; exact h) hlt)
        rcases hh with ⟨rfl, rfl⟩ | ⟨j, rfl, hj, rfl⟩
        · go_wp2
          go_round
          case rel => exact ⟨k + 1, k + 1, k, m, by omega, by go_num, .inr ⟨k, rfl, by omega, rfl⟩, by omega, by go_num, hm0, hm, rfl, Lib.hid (owes_head HX.out (by rw [← HS.out]; exact hle) HC.out)⟩
          case measure => simp [intOf]; omega
        · have hjn : decide ((j : Int) < 0) = false := by simp
          by_cases hmz : m = 0
          · subst hmz
            have x1 : ((S s).extract 0 j).size ≤ 1000 := by rw [S_extract, S_size]; simp; omega
            have x2 : ((S s).extract f k).size ≤ 1000 := by rw [S_extract, S_size]; simp; omega
            have x3 : ¬ 9223372036854775807 < ((S s).extract 0 j).size + ((S s).extract f k).size := by omega
            have i1 : (j : Int) ≤ ((S s).size : Int) := by omega
            have i2 : (f : Int) ≤ (k : Int) := by omega
            have i3 : (k : Int) ≤ ((S s).size : Int) := by omega
            clear x1 x2
            go_wp2
            go_quiet (fail)
            go_wp2
            go_ret2
            exact ⟨word_ret (owes_end HX.out (by rw [← HS.out]; exact hle) HC.out), _, rfl⟩
          · have hmq : (m == 0) = false := by simpa using hmz
            have HM := Lib.hid hmz
            clear hmz
            go_wp2
            go_round
            case rel => exact ⟨k + 1, k + 1, j, m - 1, by omega, by go_num, .inr ⟨j, rfl, by omega, rfl⟩, by omega, by go_num, by have := HM.out; omega, by omega, rfl, Lib.hid (owes_next HX.out (by rw [← HS.out]; exact hle) HC.out HM.out)⟩
            case measure => simp [intOf]; omega
      · clear hh
        have HE := Lib.hid (owes_none HX.out (by rw [← HS.out]; omega))
        go_wp2
        go_ret2
        exact ⟨by rw [HE.out]; rfl, 0, rfl⟩
end Go.Proofs.YtebgmfjgapmpfabDoor

/- The reference's Of. -/
namespace Go.Proofs.YtebgmfjgapmpfabDoor
set_option linter.unusedVariables false
open Go.RowKit

theorem rows_get (l : List RowR) (i : Nat) (h : i < l.length) : (rowsArr l)[i * 6]? = some (.int .i64 (l.getD i row0).op) ∧ (rowsArr l)[i * 6 + 1]? = some (.string (S (l.getD i row0).name)) ∧ (rowsArr l)[i * 6 + 2]? = some (.int .i64 (l.getD i row0).imm) ∧
    (rowsArr l)[i * 6 + 3]? = some (.string (S (l.getD i row0).takes)) ∧ (rowsArr l)[i * 6 + 4]? = some (.string (S (l.getD i row0).has)) ∧ (rowsArr l)[i * 6 + 5]? = some (.bool (l.getD i row0).free) := by
  unfold rowsArr
  simp only [List.getElem?_toArray]
  induction l generalizing i with
  | nil => simp at h
  | cons x r ih =>
    cases i with
    | zero => exact ⟨rfl, rfl, rfl, rfl, rfl, rfl⟩
    | succ i =>
      have := ih i (by simpa using h)
      have e : (i + 1) * 6 = i * 6 + 1 + 1 + 1 + 1 + 1 + 1 := by omega
      rw [e]
      exact this
theorem rows_bd : ∀ i, i < 35 → (groupsL.getD i row0).name.length ≤ 1000 ∧ (groupsL.getD i row0).op ≤ 255 := by decide +kernel
def RowCells (w : World) (b i : Nat) (r : RowR) : Prop :=
  w.cell? ⟨b, i * 6, none⟩ = some (.int .i64 r.op) ∧ w.cell? ⟨b, i * 6 + 1, none⟩ = some (.string (S r.name)) ∧ w.cell? ⟨b, i * 6 + 2, none⟩ = some (.int .i64 r.imm) ∧
  w.cell? ⟨b, i * 6 + 3, none⟩ = some (.string (S r.takes)) ∧ w.cell? ⟨b, i * 6 + 4, none⟩ = some (.string (S r.has)) ∧ w.cell? ⟨b, i * 6 + 5, none⟩ = some (.bool r.free)
theorem rows_cells {w : World} {b : Nat} {l : List RowR} (h : Whole w b 104 (rowsArr l)) (i : Nat) (hi : i < l.length) : RowCells w b i (l.getD i row0) := by
  obtain ⟨a0, a1, a2, a3, a4, a5⟩ := rows_get l i hi
  exact ⟨(h.cell _).trans a0, (h.cell _).trans a1, (h.cell _).trans a2, (h.cell _).trans a3, (h.cell _).trans a4, (h.cell _).trans a5⟩

/-- What Of hands back. -/
abbrev rowAgg (r : RowR) : Value := .agg #[.int .i64 r.op, .string (S r.name), .int .i64 r.imm, .string (S r.takes), .string (S r.has), .bool r.free]
abbrev refV (o : Option RowR) : Value := .tuple #[rowAgg (o.getD row0), .bool o.isSome]
def RefPost (o : Option RowR) (w : World) (e : Ending) (w' : World) : Prop := e = .returned (refV o) ∧ Below w.heap.size w w'
/-- The loop's counter: k rows are left. -/
def Left6 (k : Nat) (v : Value) : Prop := v = .int .i64 ((k : Int) - 1)
theorem word_at (s : List UInt8) (n p : Nat) (o : Option (List UInt8)) (ho : wordR s ((n : Int) - p) = o) (hs : s.length ≤ 1000) (hn : n ≤ 255) (hp : p ≤ n) (w : World) : Calls Tryd.prog 86 #[.string (S s), .int .i64 ((n : Int) - p)] w fun e w' => e = .returned (wordV o) ∧ ∃ m, w' = w.drewN m := by
  have e : ((n - p : Nat) : Int) = (n : Int) - p := by omega
  have := word_any s (n - p) w hs (by omega)
  rw [e, ho] at this
  exact this
structure Held6 (w w2 : World) (j : Nat) (r : RowR) : Prop where
  hz : w.heap.size + 2 ≤ w2.heap.size
  hb : Below w.heap.size w w2
  hR : Whole w2 w.heap.size 104 #[.int .i64 0, .string ⟨#[]⟩, .int .i64 0, .string ⟨#[]⟩, .string ⟨#[]⟩, .bool false]
  hc : RowCells w2 (w.heap.size + 1) j r
theorem six_put {w w1 : World} {B b : Nat} (h : Below B w w1) (hb : B ≤ b) (x0 x1 x2 x3 x4 x5 : Value) : Below B w ((((((w1.setCell ⟨b, 0, none⟩ x0).setCell ⟨b, 1, none⟩ x1).setCell ⟨b, 2, none⟩ x2).setCell ⟨b, 3, none⟩ x3).setCell ⟨b, 4, none⟩ x4).setCell ⟨b, 5, none⟩ x5) :=
  (((((h.setCell hb _).setCell hb _).setCell hb _).setCell hb _).setCell hb _).setCell hb _
set_option maxRecDepth 100000 in
theorem ref_any (n : Nat) (w : World) (hn : n ≤ 255) : Calls Tryd.prog 67 #[.int .i64 n] w (RefPost (refR n) w) := by
  obtain ⟨o, ho⟩ : ∃ o, o = refR n := ⟨_, rfl⟩
  have HO := Lib.hid (show ofGo n 35 = o from ho.symm)
  rw [← ho]
  clear ho
  go_enter Tryd.func67, Tryd.ntmps67
  go_wp2_with (go_at_call 85; go_must (refine (groups_any _).mono ?_; rintro e w1 ⟨rfl, hw1⟩; have HW := Lib.hid hw1; clear hw1))
  have hz : w.heap.size + 2 ≤ w1.heap.size := by rw [HW.out]; simp
  have HB := Lib.hid (show Below w.heap.size w w1 by rw [HW.out]; exact ((Below.refl _ _).alloc (Nat.le_refl _) _).alloc (by simp) _)
  have HG := Lib.hid (show Whole w1 (w.heap.size + 1) 104 (rowsArr groupsL) by
    rw [HW.out]
    have := Whole.made (w.alloc (.cells #[.int .i64 0, .string ⟨#[]⟩, .int .i64 0, .string ⟨#[]⟩, .string ⟨#[]⟩, .bool false] 104)) 104 (rowsArr groupsL)
    simpa using this)
  have HR := Lib.hid (show Whole w1 w.heap.size 104 #[.int .i64 0, .string ⟨#[]⟩, .int .i64 0, .string ⟨#[]⟩, .string ⟨#[]⟩, .bool false] by
    rw [HW.out]
    exact (Whole.made w 104 #[.int .i64 0, .string ⟨#[]⟩, .int .i64 0, .string ⟨#[]⟩, .string ⟨#[]⟩, .bool false]).alloc _)
  clear HW
  have z0 : w1.cell? ⟨w.heap.size, 0, none⟩ = some (.int .i64 0) := HR.out.cell 0
  have z1 : w1.cell? ⟨w.heap.size, 1, none⟩ = some (.string ⟨#[]⟩) := HR.out.cell 1
  have z2 : w1.cell? ⟨w.heap.size, 2, none⟩ = some (.int .i64 0) := HR.out.cell 2
  have z3 : w1.cell? ⟨w.heap.size, 3, none⟩ = some (.string ⟨#[]⟩) := HR.out.cell 3
  have z4 : w1.cell? ⟨w.heap.size, 4, none⟩ = some (.string ⟨#[]⟩) := HR.out.cell 4
  have z5 : w1.cell? ⟨w.heap.size, 5, none⟩ = some (.bool false) := HR.out.cell 5
  have f0 := HR.out.frozen 0
  have f1 := HR.out.frozen 1
  have f2 := HR.out.frozen 2
  have f3 := HR.out.frozen 3
  have f4 := HR.out.frozen 4
  have f5 := HR.out.frozen 5
  go_loop [5] (fun i => ∃ k : Nat, k ≤ 35 ∧ Left6 k i ∧ Hid (ofGo n k = o)) (fun i => (intOf i + 1).toNat)
  case atStart => exact ⟨35, by omega, rfl, HO⟩
  case round =>
    obtain ⟨k, hk, hi, HX⟩ := hrel
    clear HO
    cases k with
    | zero =>
      obtain rfl : u5 = .int .i64 (-1) := hi
      have HE := Lib.hid (show o = none from HX.out.symm)
      go_wp2
      exact bodyPost_ret (v := .tuple #[.agg #[.int .i64 0, .string ⟨#[]⟩, .int .i64 0, .string ⟨#[]⟩, .string ⟨#[]⟩, .bool false], .bool false]) (by simp [results, Tryd.results67, go_sem, z0, z1, z2, z3, z4, z5]) rfl ⟨by rw [HE.out]; rfl, six_put HB.out (Nat.le_refl _) _ _ _ _ _ _⟩
    | succ j =>
      obtain rfl : u5 = .int .i64 (j : Int) := hi.trans (by congr 1; omega)
      have hj : j < 35 := by omega
      obtain ⟨b1, b2⟩ := rows_bd j hj
      obtain ⟨c0, c1, c2, c3, c4, c5⟩ := rows_cells HG.out j (show j < groupsL.length from hj)
      have HX' : ofGo n (j + 1) = o := HX.out
      unfold ofGo at HX'
      dsimp only at HX'
      obtain ⟨r, hr⟩ : ∃ r, r = groupsL.getD j row0 := ⟨_, rfl⟩
      rw [← hr] at b1 b2 c0 c1 c2 c3 c4 c5 HX'
      clear hr HX
      by_cases hle : r.op ≤ n
      · rw [if_pos hle] at HX'
        have hd : decide (n < r.op) = false := by simpa using hle
        have hw1 : IntKind.i64.wrap ((n : Int) - r.op) = (n : Int) - r.op := IntWalk.i64_in _ (by omega)
        have k0 : 0 ≤ (j : Int) := by omega
        have k1 : (j : Int) < 35 := by omega
        cases hwd : wordR r.name ((n : Int) - r.op) with
        | none =>
          rw [hwd] at HX'
          have HE := Lib.hid (show o = none from HX'.symm)
          have HQ := Lib.hid (word_at r.name n r.op none hwd b1 hn hle)
          clear hwd HX' b1 b2 hle
          go_wp2
          go_quiet ((go_at_call 86; exact Calls.quiet_of (HQ.out _)))
          go_wp2
          exact bodyPost_ret (v := .tuple #[.agg #[.int .i64 0, .string ⟨#[]⟩, .int .i64 0, .string ⟨#[]⟩, .string ⟨#[]⟩, .bool false], .bool false]) (by simp [results, Tryd.results67, go_sem, z0, z1, z2, z3, z4, z5]) rfl ⟨by rw [HE.out]; rfl, six_put (below_drewN HB.out _) (Nat.le_refl _) _ _ _ _ _ _⟩
        | some s =>
          rw [hwd] at HX'
          have HE := Lib.hid (show o = some ⟨n, s, r.imm, r.takes, r.has, r.free⟩ from HX'.symm)
          have HQ := Lib.hid (word_at r.name n r.op (some s) hwd b1 hn hle)
          clear hwd HX' b1 b2 hle
          go_wp2
          go_quiet ((go_at_call 86; exact Calls.quiet_of (HQ.out _)))
          have HH := Lib.hid (show Held6 w (w1.drewN nq) j r from ⟨hz, below_drewN HB.out _, HR.out, ⟨c0, c1, c2, c3, c4, c5⟩⟩)
          clear hz HB HR z0 z1 z2 z3 z4 z5 f0 f1 f2 f3 f4 f5 c0 c1 c2 c3 c4 c5
          generalize w1.drewN nq = w2 at HH ⊢
          obtain ⟨hz, hb, hR, c0, c1, c2, c3, c4, c5⟩ := HH.out
          have HB := Lib.hid hb
          have HR := Lib.hid hR
          clear HH hb hR
          have z0 : w2.cell? ⟨w.heap.size, 0, none⟩ = some (.int .i64 0) := HR.out.cell 0
          have z1 : w2.cell? ⟨w.heap.size, 1, none⟩ = some (.string ⟨#[]⟩) := HR.out.cell 1
          have z2 : w2.cell? ⟨w.heap.size, 2, none⟩ = some (.int .i64 0) := HR.out.cell 2
          have z3 : w2.cell? ⟨w.heap.size, 3, none⟩ = some (.string ⟨#[]⟩) := HR.out.cell 3
          have z4 : w2.cell? ⟨w.heap.size, 4, none⟩ = some (.string ⟨#[]⟩) := HR.out.cell 4
          have z5 : w2.cell? ⟨w.heap.size, 5, none⟩ = some (.bool false) := HR.out.cell 5
          have f0 := HR.out.frozen 0
          have f1 := HR.out.frozen 1
          have f2 := HR.out.frozen 2
          have f3 := HR.out.frozen 3
          have f4 := HR.out.frozen 4
          have f5 := HR.out.frozen 5
          have hlt1 : w.heap.size < w2.heap.size := by omega
          have hlt2 : w.heap.size + 1 < w2.heap.size := by omega
          go_wp2
          exact bodyPost_ret (v := .tuple #[.agg #[.int .i64 n, .string (S s), .int .i64 r.imm, .string (S r.takes), .string (S r.has), .bool r.free], .bool true]) (by simp [results, Tryd.results67, go_sem, z0, z1, z2, z3, z4, z5, hlt1]) rfl ⟨by rw [HE.out]; rfl, (six_put HB.out (Nat.le_refl _) _ _ _ _ _ _).alloc (by simp; omega) _⟩
      · rw [if_neg hle] at HX'
        have hd : decide (n < r.op) = true := by simpa using hle
        have HX := Lib.hid HX'
        clear HX'
        go_wp2
        go_round
        case rel => exact ⟨j, by omega, rfl, HX⟩
        case measure => simp [intOf]
end Go.Proofs.YtebgmfjgapmpfabDoor
