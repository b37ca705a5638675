/- Compare of creelref19. (By gen/genBt.py.) -/
import Derived.Test.YtjgdfajooccalaaZc05
namespace Go.Proofs.Ytjgdfajooccalaa
open Go.RowKit
set_option linter.unusedVariables false
set_option maxRecDepth 100000

theorem compareNow {w : World} (op : Int) (v u : Nat) (hv : v < 18446744073709551616) (hu : u < 18446744073709551616) (h0 : 0 ≤ op) (h1 : op ≤ 255) (h : op < 81 ∨ 81 + 9 < op) :
    Calls Try.prog 17 #[.int .i64 op, .int .u64 v, .int .u64 u] w fun e w' => e = .returned (.tuple #[.int .u64 0, .bool false]) ∧ Below w.heap.size w w' := by
  have HBa := Lib.hid (fun W => bitsw v W hv)
  have HBb := Lib.hid (fun W => bitsw u W hu)
  have na := bitsL_len 64 v
  have nb := bitsL_len 64 u
  obtain ⟨a, ha⟩ : ∃ a, a = bitsL 64 v := ⟨_, rfl⟩
  obtain ⟨b, hb⟩ : ∃ b, b = bitsL 64 u := ⟨_, rfl⟩
  rw [← ha] at HBa na
  rw [← hb] at HBb nb
  unfold Ownw at HBa HBb
  obtain ⟨x, hx⟩ : ∃ x, a[63]? = some x := ⟨_, List.getElem?_eq_getElem (by omega)⟩
  obtain ⟨y, hy⟩ : ∃ y, b[63]? = some y := ⟨_, List.getElem?_eq_getElem (by omega)⟩
  clear ha hb
  by_cases h2 : op < 81
  · have d1 : decide (op - 80 - 1 < 0) = true := decide_eq_true (by omega)
    go_enter Try.func17, Try.ntmps17
    go_wp2_with (first
      | (go_at_call 18; (with_reducible refine (HBa.out _).mono ?_); rintro e w1 ⟨A1, c1, rfl, ho1, hb1⟩; obtain ⟨g1, rfl, _, hl1, q1, _⟩ := ho1.at hx; have HO1 := Lib.hid ho1; have HB1 := Lib.hid hb1; clear ho1 hb1)
      | (go_at_call 18; (with_reducible refine (HBb.out _).mono ?_); rintro e w2 ⟨A2, c2, rfl, ho2, hb2⟩; obtain ⟨g2, rfl, _, hl2, r2, _⟩ := ho2.at hy; have q2 := (hb2.cell (p := ⟨g1, 63, none⟩) hl1).trans q1; have HA2 := Lib.hid (HO1.out.later hb2).lb; have HC2 := Lib.hid ho2.lb; have HB2 := Lib.hid (HB1.out.trans (hb2.mono HB1.out.size)); have hl12 := Nat.lt_of_lt_of_le hl1 hb2.size; clear ho2 hb2))
    go_ret2
    exact ⟨rfl, HB2.out⟩
  · have d1 : decide (op - 80 - 1 < 0) = false := decide_eq_false (by omega)
    have d2 : decide (9 < op - 80 - 1) = true := decide_eq_true (by omega)
    go_enter Try.func17, Try.ntmps17
    go_wp2_with (first
      | (go_at_call 18; (with_reducible refine (HBa.out _).mono ?_); rintro e w1 ⟨A1, c1, rfl, ho1, hb1⟩; obtain ⟨g1, rfl, _, hl1, q1, _⟩ := ho1.at hx; have HO1 := Lib.hid ho1; have HB1 := Lib.hid hb1; clear ho1 hb1)
      | (go_at_call 18; (with_reducible refine (HBb.out _).mono ?_); rintro e w2 ⟨A2, c2, rfl, ho2, hb2⟩; obtain ⟨g2, rfl, _, hl2, r2, _⟩ := ho2.at hy; have q2 := (hb2.cell (p := ⟨g1, 63, none⟩) hl1).trans q1; have HA2 := Lib.hid (HO1.out.later hb2).lb; have HC2 := Lib.hid ho2.lb; have HB2 := Lib.hid (HB1.out.trans (hb2.mono HB1.out.size)); have hl12 := Nat.lt_of_lt_of_le hl1 hb2.size; clear ho2 hb2))
    go_ret2
    exact ⟨rfl, HB2.out⟩
set_option maxHeartbeats 8000000 in
theorem comparew0 {w : World} (v u : Nat) (hv : v < 18446744073709551616) (hu : u < 18446744073709551616) :
    Calls Try.prog 17 #[.int .i64 81, .int .u64 v, .int .u64 u] w fun e w' => e = .returned (.tuple #[.int .u64 (cmpL 64 0 (bitsL 64 v) (bitsL 64 u)).toNat, .bool true]) ∧ Below w.heap.size w w' := by
  have HBa := Lib.hid (fun W => bitsw v W hv)
  have HBb := Lib.hid (fun W => bitsw u W hu)
  have na := bitsL_len 64 v
  have nb := bitsL_len 64 u
  obtain ⟨a, ha⟩ : ∃ a, a = bitsL 64 v := ⟨_, rfl⟩
  obtain ⟨b, hb⟩ : ∃ b, b = bitsL 64 u := ⟨_, rfl⟩
  rw [← ha] at HBa na
  rw [← hb] at HBb nb
  unfold Ownw at HBa HBb
  obtain ⟨x, hx⟩ : ∃ x, a[63]? = some x := ⟨_, List.getElem?_eq_getElem (by omega)⟩
  obtain ⟨y, hy⟩ : ∃ y, b[63]? = some y := ⟨_, List.getElem?_eq_getElem (by omega)⟩
  rw [← ha, ← hb]
  have gx : a.getD (64 - 1) false = x := by rw [List.getD_eq_getElem?_getD, show 64 - 1 = 63 from rfl, hx]; rfl
  have gy : b.getD (64 - 1) false = y := by rw [List.getD_eq_getElem?_getD, show 64 - 1 = 63 from rfl, hy]; rfl
  obtain ⟨sm, hsm⟩ : ∃ sm, sm = (numL a == numL b) := ⟨_, rfl⟩
  obtain ⟨ls, hls⟩ : ∃ ls, ls = lessL a b := ⟨_, rfl⟩
  have hc : cmpL 64 0 a b = cmpF 0 sm ls x y := by unfold cmpL; rw [gx, gy, hsm, hls]
  rw [hc]
  have HNa := Lib.hid (fun W A1 c1 (h : LB W A1 a) => numberw (c := c1) h na)
  have HNb := Lib.hid (fun W A1 c1 (h : LB W A1 b) => numberw (c := c1) h nb)
  have HLe := Lib.hid (fun W A1 c1 A2 c2 (h : LB W A1 a) (h2 : LB W A2 b) => lessw (c := c1) (d := c2) h h2 na nb)
  rw [← hls] at HLe
  have ds : ((numL a : Int) == (numL b : Int)) = sm := by rw [hsm]; exact int_beq _ _
  clear ha hb gx gy hc hls hsm
  cases sm
  · as_aux_lemma =>
      go_enter Try.func17, Try.ntmps17
      go_wp2_with (first
        | (go_at_call 18; (with_reducible refine (HBa.out _).mono ?_); rintro e w1 ⟨A1, c1, rfl, ho1, hb1⟩; obtain ⟨g1, rfl, _, hl1, q1, _⟩ := ho1.at hx; have HO1 := Lib.hid ho1; have HB1 := Lib.hid hb1; clear ho1 hb1)
        | (go_at_call 18; (with_reducible refine (HBb.out _).mono ?_); rintro e w2 ⟨A2, c2, rfl, ho2, hb2⟩; obtain ⟨g2, rfl, _, hl2, r2, _⟩ := ho2.at hy; have q2 := (hb2.cell (p := ⟨g1, 63, none⟩) hl1).trans q1; have HA2 := Lib.hid (HO1.out.later hb2).lb; have HC2 := Lib.hid ho2.lb; have HB2 := Lib.hid (HB1.out.trans (hb2.mono HB1.out.size)); have hl12 := Nat.lt_of_lt_of_le hl1 hb2.size; clear ho2 hb2)
        | (go_at_call 19; (with_reducible refine (HNa.out _ _ _ HA2.out).mono ?_); rintro e w3 ⟨rfl, rfl⟩)
        | (go_at_call 19; (with_reducible refine (HNb.out _ _ _ HC2.out).mono ?_); rintro e w3 ⟨rfl, rfl⟩)
        | (go_at_call 42; (with_reducible refine (truthw _ _).mono ?_); rintro e w9 ⟨rfl, rfl⟩))
      go_ret2
      exact ⟨rfl, HB2.out⟩
  · as_aux_lemma =>
      go_enter Try.func17, Try.ntmps17
      go_wp2_with (first
        | (go_at_call 18; (with_reducible refine (HBa.out _).mono ?_); rintro e w1 ⟨A1, c1, rfl, ho1, hb1⟩; obtain ⟨g1, rfl, _, hl1, q1, _⟩ := ho1.at hx; have HO1 := Lib.hid ho1; have HB1 := Lib.hid hb1; clear ho1 hb1)
        | (go_at_call 18; (with_reducible refine (HBb.out _).mono ?_); rintro e w2 ⟨A2, c2, rfl, ho2, hb2⟩; obtain ⟨g2, rfl, _, hl2, r2, _⟩ := ho2.at hy; have q2 := (hb2.cell (p := ⟨g1, 63, none⟩) hl1).trans q1; have HA2 := Lib.hid (HO1.out.later hb2).lb; have HC2 := Lib.hid ho2.lb; have HB2 := Lib.hid (HB1.out.trans (hb2.mono HB1.out.size)); have hl12 := Nat.lt_of_lt_of_le hl1 hb2.size; clear ho2 hb2)
        | (go_at_call 19; (with_reducible refine (HNa.out _ _ _ HA2.out).mono ?_); rintro e w3 ⟨rfl, rfl⟩)
        | (go_at_call 19; (with_reducible refine (HNb.out _ _ _ HC2.out).mono ?_); rintro e w3 ⟨rfl, rfl⟩)
        | (go_at_call 42; (with_reducible refine (truthw _ _).mono ?_); rintro e w9 ⟨rfl, rfl⟩))
      go_ret2
      exact ⟨rfl, HB2.out⟩
set_option maxHeartbeats 8000000 in
theorem comparew1 {w : World} (v u : Nat) (hv : v < 18446744073709551616) (hu : u < 18446744073709551616) :
    Calls Try.prog 17 #[.int .i64 82, .int .u64 v, .int .u64 u] w fun e w' => e = .returned (.tuple #[.int .u64 (cmpL 64 1 (bitsL 64 v) (bitsL 64 u)).toNat, .bool true]) ∧ Below w.heap.size w w' := by
  have HBa := Lib.hid (fun W => bitsw v W hv)
  have HBb := Lib.hid (fun W => bitsw u W hu)
  have na := bitsL_len 64 v
  have nb := bitsL_len 64 u
  obtain ⟨a, ha⟩ : ∃ a, a = bitsL 64 v := ⟨_, rfl⟩
  obtain ⟨b, hb⟩ : ∃ b, b = bitsL 64 u := ⟨_, rfl⟩
  rw [← ha] at HBa na
  rw [← hb] at HBb nb
  unfold Ownw at HBa HBb
  obtain ⟨x, hx⟩ : ∃ x, a[63]? = some x := ⟨_, List.getElem?_eq_getElem (by omega)⟩
  obtain ⟨y, hy⟩ : ∃ y, b[63]? = some y := ⟨_, List.getElem?_eq_getElem (by omega)⟩
  rw [← ha, ← hb]
  have gx : a.getD (64 - 1) false = x := by rw [List.getD_eq_getElem?_getD, show 64 - 1 = 63 from rfl, hx]; rfl
  have gy : b.getD (64 - 1) false = y := by rw [List.getD_eq_getElem?_getD, show 64 - 1 = 63 from rfl, hy]; rfl
  obtain ⟨sm, hsm⟩ : ∃ sm, sm = (numL a == numL b) := ⟨_, rfl⟩
  obtain ⟨ls, hls⟩ : ∃ ls, ls = lessL a b := ⟨_, rfl⟩
  have hc : cmpL 64 1 a b = cmpF 1 sm ls x y := by unfold cmpL; rw [gx, gy, hsm, hls]
  rw [hc]
  have HNa := Lib.hid (fun W A1 c1 (h : LB W A1 a) => numberw (c := c1) h na)
  have HNb := Lib.hid (fun W A1 c1 (h : LB W A1 b) => numberw (c := c1) h nb)
  have HLe := Lib.hid (fun W A1 c1 A2 c2 (h : LB W A1 a) (h2 : LB W A2 b) => lessw (c := c1) (d := c2) h h2 na nb)
  rw [← hls] at HLe
  have ds : ((numL a : Int) == (numL b : Int)) = sm := by rw [hsm]; exact int_beq _ _
  clear ha hb gx gy hc hls hsm
  cases sm
  · as_aux_lemma =>
      go_enter Try.func17, Try.ntmps17
      go_wp2_with (first
        | (go_at_call 18; (with_reducible refine (HBa.out _).mono ?_); rintro e w1 ⟨A1, c1, rfl, ho1, hb1⟩; obtain ⟨g1, rfl, _, hl1, q1, _⟩ := ho1.at hx; have HO1 := Lib.hid ho1; have HB1 := Lib.hid hb1; clear ho1 hb1)
        | (go_at_call 18; (with_reducible refine (HBb.out _).mono ?_); rintro e w2 ⟨A2, c2, rfl, ho2, hb2⟩; obtain ⟨g2, rfl, _, hl2, r2, _⟩ := ho2.at hy; have q2 := (hb2.cell (p := ⟨g1, 63, none⟩) hl1).trans q1; have HA2 := Lib.hid (HO1.out.later hb2).lb; have HC2 := Lib.hid ho2.lb; have HB2 := Lib.hid (HB1.out.trans (hb2.mono HB1.out.size)); have hl12 := Nat.lt_of_lt_of_le hl1 hb2.size; clear ho2 hb2)
        | (go_at_call 19; (with_reducible refine (HNa.out _ _ _ HA2.out).mono ?_); rintro e w3 ⟨rfl, rfl⟩)
        | (go_at_call 19; (with_reducible refine (HNb.out _ _ _ HC2.out).mono ?_); rintro e w3 ⟨rfl, rfl⟩)
        | (go_at_call 42; (with_reducible refine (truthw _ _).mono ?_); rintro e w9 ⟨rfl, rfl⟩))
      go_ret2
      exact ⟨rfl, HB2.out⟩
  · as_aux_lemma =>
      go_enter Try.func17, Try.ntmps17
      go_wp2_with (first
        | (go_at_call 18; (with_reducible refine (HBa.out _).mono ?_); rintro e w1 ⟨A1, c1, rfl, ho1, hb1⟩; obtain ⟨g1, rfl, _, hl1, q1, _⟩ := ho1.at hx; have HO1 := Lib.hid ho1; have HB1 := Lib.hid hb1; clear ho1 hb1)
        | (go_at_call 18; (with_reducible refine (HBb.out _).mono ?_); rintro e w2 ⟨A2, c2, rfl, ho2, hb2⟩; obtain ⟨g2, rfl, _, hl2, r2, _⟩ := ho2.at hy; have q2 := (hb2.cell (p := ⟨g1, 63, none⟩) hl1).trans q1; have HA2 := Lib.hid (HO1.out.later hb2).lb; have HC2 := Lib.hid ho2.lb; have HB2 := Lib.hid (HB1.out.trans (hb2.mono HB1.out.size)); have hl12 := Nat.lt_of_lt_of_le hl1 hb2.size; clear ho2 hb2)
        | (go_at_call 19; (with_reducible refine (HNa.out _ _ _ HA2.out).mono ?_); rintro e w3 ⟨rfl, rfl⟩)
        | (go_at_call 19; (with_reducible refine (HNb.out _ _ _ HC2.out).mono ?_); rintro e w3 ⟨rfl, rfl⟩)
        | (go_at_call 42; (with_reducible refine (truthw _ _).mono ?_); rintro e w9 ⟨rfl, rfl⟩))
      go_ret2
      exact ⟨rfl, HB2.out⟩
set_option maxHeartbeats 8000000 in
theorem comparew2 {w : World} (v u : Nat) (hv : v < 18446744073709551616) (hu : u < 18446744073709551616) :
    Calls Try.prog 17 #[.int .i64 83, .int .u64 v, .int .u64 u] w fun e w' => e = .returned (.tuple #[.int .u64 (cmpL 64 2 (bitsL 64 v) (bitsL 64 u)).toNat, .bool true]) ∧ Below w.heap.size w w' := by
  have HBa := Lib.hid (fun W => bitsw v W hv)
  have HBb := Lib.hid (fun W => bitsw u W hu)
  have na := bitsL_len 64 v
  have nb := bitsL_len 64 u
  obtain ⟨a, ha⟩ : ∃ a, a = bitsL 64 v := ⟨_, rfl⟩
  obtain ⟨b, hb⟩ : ∃ b, b = bitsL 64 u := ⟨_, rfl⟩
  rw [← ha] at HBa na
  rw [← hb] at HBb nb
  unfold Ownw at HBa HBb
  obtain ⟨x, hx⟩ : ∃ x, a[63]? = some x := ⟨_, List.getElem?_eq_getElem (by omega)⟩
  obtain ⟨y, hy⟩ : ∃ y, b[63]? = some y := ⟨_, List.getElem?_eq_getElem (by omega)⟩
  rw [← ha, ← hb]
  have gx : a.getD (64 - 1) false = x := by rw [List.getD_eq_getElem?_getD, show 64 - 1 = 63 from rfl, hx]; rfl
  have gy : b.getD (64 - 1) false = y := by rw [List.getD_eq_getElem?_getD, show 64 - 1 = 63 from rfl, hy]; rfl
  obtain ⟨sm, hsm⟩ : ∃ sm, sm = (numL a == numL b) := ⟨_, rfl⟩
  obtain ⟨ls, hls⟩ : ∃ ls, ls = lessL a b := ⟨_, rfl⟩
  have hc : cmpL 64 2 a b = cmpF 2 sm ls x y := by unfold cmpL; rw [gx, gy, hsm, hls]
  rw [hc]
  have HNa := Lib.hid (fun W A1 c1 (h : LB W A1 a) => numberw (c := c1) h na)
  have HNb := Lib.hid (fun W A1 c1 (h : LB W A1 b) => numberw (c := c1) h nb)
  have HLe := Lib.hid (fun W A1 c1 A2 c2 (h : LB W A1 a) (h2 : LB W A2 b) => lessw (c := c1) (d := c2) h h2 na nb)
  rw [← hls] at HLe
  have ds : ((numL a : Int) == (numL b : Int)) = sm := by rw [hsm]; exact int_beq _ _
  clear ha hb gx gy hc hls hsm
  cases x <;> cases y
  · as_aux_lemma =>
      go_enter Try.func17, Try.ntmps17
      go_upto_region 9 with (first
        | (go_at_call 18; (with_reducible refine (HBa.out _).mono ?_); rintro e w1 ⟨A1, c1, rfl, ho1, hb1⟩; obtain ⟨g1, rfl, _, hl1, q1, _⟩ := ho1.at hx; have HO1 := Lib.hid ho1; have HB1 := Lib.hid hb1; clear ho1 hb1)
        | (go_at_call 18; (with_reducible refine (HBb.out _).mono ?_); rintro e w2 ⟨A2, c2, rfl, ho2, hb2⟩; obtain ⟨g2, rfl, _, hl2, r2, _⟩ := ho2.at hy; have q2 := (hb2.cell (p := ⟨g1, 63, none⟩) hl1).trans q1; have HA2 := Lib.hid (HO1.out.later hb2).lb; have HC2 := Lib.hid ho2.lb; have HB2 := Lib.hid (HB1.out.trans (hb2.mono HB1.out.size)); have hl12 := Nat.lt_of_lt_of_le hl1 hb2.size; clear ho2 hb2)
        | (go_at_call 19; (with_reducible refine (HNa.out _ _ _ HA2.out).mono ?_); rintro e w3 ⟨rfl, rfl⟩)
        | (go_at_call 19; (with_reducible refine (HNb.out _ _ _ HC2.out).mono ?_); rintro e w3 ⟨rfl, rfl⟩)
        | (go_at_call 43; (with_reducible refine (HLe.out _ _ _ _ _ HA2.out HC2.out).mono ?_); rintro e w4 ⟨rfl, hb4⟩; have q4 := (hb4.cell (p := ⟨g1, 63, none⟩) hl12).trans q2; have r4 := (hb4.cell (p := ⟨g2, 63, none⟩) hl2).trans r2; have HB4 := Lib.hid (HB2.out.trans (hb4.mono HB2.out.size)); clear hb4))
      go_quiet (fail)
      have q5 : (w4.drewN nq).cell? ⟨g1, 63, none⟩ = some (.bool false) := q4
      go_wp2_with (go_at_call 42; (with_reducible refine (truthw _ _).mono ?_); rintro e w9 ⟨rfl, rfl⟩)
      go_ret2
      exact ⟨by (try cases sm) <;> (try cases ls) <;> rfl, below_drewN HB4.out _⟩
  · as_aux_lemma =>
      go_enter Try.func17, Try.ntmps17
      go_upto_region 9 with (first
        | (go_at_call 18; (with_reducible refine (HBa.out _).mono ?_); rintro e w1 ⟨A1, c1, rfl, ho1, hb1⟩; obtain ⟨g1, rfl, _, hl1, q1, _⟩ := ho1.at hx; have HO1 := Lib.hid ho1; have HB1 := Lib.hid hb1; clear ho1 hb1)
        | (go_at_call 18; (with_reducible refine (HBb.out _).mono ?_); rintro e w2 ⟨A2, c2, rfl, ho2, hb2⟩; obtain ⟨g2, rfl, _, hl2, r2, _⟩ := ho2.at hy; have q2 := (hb2.cell (p := ⟨g1, 63, none⟩) hl1).trans q1; have HA2 := Lib.hid (HO1.out.later hb2).lb; have HC2 := Lib.hid ho2.lb; have HB2 := Lib.hid (HB1.out.trans (hb2.mono HB1.out.size)); have hl12 := Nat.lt_of_lt_of_le hl1 hb2.size; clear ho2 hb2)
        | (go_at_call 19; (with_reducible refine (HNa.out _ _ _ HA2.out).mono ?_); rintro e w3 ⟨rfl, rfl⟩)
        | (go_at_call 19; (with_reducible refine (HNb.out _ _ _ HC2.out).mono ?_); rintro e w3 ⟨rfl, rfl⟩)
        | (go_at_call 43; (with_reducible refine (HLe.out _ _ _ _ _ HA2.out HC2.out).mono ?_); rintro e w4 ⟨rfl, hb4⟩; have q4 := (hb4.cell (p := ⟨g1, 63, none⟩) hl12).trans q2; have r4 := (hb4.cell (p := ⟨g2, 63, none⟩) hl2).trans r2; have HB4 := Lib.hid (HB2.out.trans (hb4.mono HB2.out.size)); clear hb4))
      go_quiet (fail)
      have q5 : (w4.drewN nq).cell? ⟨g1, 63, none⟩ = some (.bool false) := q4
      go_wp2_with (go_at_call 42; (with_reducible refine (truthw _ _).mono ?_); rintro e w9 ⟨rfl, rfl⟩)
      go_ret2
      exact ⟨by (try cases sm) <;> (try cases ls) <;> rfl, below_drewN HB4.out _⟩
  · as_aux_lemma =>
      go_enter Try.func17, Try.ntmps17
      go_upto_region 9 with (first
        | (go_at_call 18; (with_reducible refine (HBa.out _).mono ?_); rintro e w1 ⟨A1, c1, rfl, ho1, hb1⟩; obtain ⟨g1, rfl, _, hl1, q1, _⟩ := ho1.at hx; have HO1 := Lib.hid ho1; have HB1 := Lib.hid hb1; clear ho1 hb1)
        | (go_at_call 18; (with_reducible refine (HBb.out _).mono ?_); rintro e w2 ⟨A2, c2, rfl, ho2, hb2⟩; obtain ⟨g2, rfl, _, hl2, r2, _⟩ := ho2.at hy; have q2 := (hb2.cell (p := ⟨g1, 63, none⟩) hl1).trans q1; have HA2 := Lib.hid (HO1.out.later hb2).lb; have HC2 := Lib.hid ho2.lb; have HB2 := Lib.hid (HB1.out.trans (hb2.mono HB1.out.size)); have hl12 := Nat.lt_of_lt_of_le hl1 hb2.size; clear ho2 hb2)
        | (go_at_call 19; (with_reducible refine (HNa.out _ _ _ HA2.out).mono ?_); rintro e w3 ⟨rfl, rfl⟩)
        | (go_at_call 19; (with_reducible refine (HNb.out _ _ _ HC2.out).mono ?_); rintro e w3 ⟨rfl, rfl⟩)
        | (go_at_call 43; (with_reducible refine (HLe.out _ _ _ _ _ HA2.out HC2.out).mono ?_); rintro e w4 ⟨rfl, hb4⟩; have q4 := (hb4.cell (p := ⟨g1, 63, none⟩) hl12).trans q2; have r4 := (hb4.cell (p := ⟨g2, 63, none⟩) hl2).trans r2; have HB4 := Lib.hid (HB2.out.trans (hb4.mono HB2.out.size)); clear hb4))
      go_quiet (fail)
      have q5 : (w4.drewN nq).cell? ⟨g1, 63, none⟩ = some (.bool true) := q4
      go_wp2_with (go_at_call 42; (with_reducible refine (truthw _ _).mono ?_); rintro e w9 ⟨rfl, rfl⟩)
      go_ret2
      exact ⟨by (try cases sm) <;> (try cases ls) <;> rfl, below_drewN HB4.out _⟩
  · as_aux_lemma =>
      go_enter Try.func17, Try.ntmps17
      go_upto_region 9 with (first
        | (go_at_call 18; (with_reducible refine (HBa.out _).mono ?_); rintro e w1 ⟨A1, c1, rfl, ho1, hb1⟩; obtain ⟨g1, rfl, _, hl1, q1, _⟩ := ho1.at hx; have HO1 := Lib.hid ho1; have HB1 := Lib.hid hb1; clear ho1 hb1)
        | (go_at_call 18; (with_reducible refine (HBb.out _).mono ?_); rintro e w2 ⟨A2, c2, rfl, ho2, hb2⟩; obtain ⟨g2, rfl, _, hl2, r2, _⟩ := ho2.at hy; have q2 := (hb2.cell (p := ⟨g1, 63, none⟩) hl1).trans q1; have HA2 := Lib.hid (HO1.out.later hb2).lb; have HC2 := Lib.hid ho2.lb; have HB2 := Lib.hid (HB1.out.trans (hb2.mono HB1.out.size)); have hl12 := Nat.lt_of_lt_of_le hl1 hb2.size; clear ho2 hb2)
        | (go_at_call 19; (with_reducible refine (HNa.out _ _ _ HA2.out).mono ?_); rintro e w3 ⟨rfl, rfl⟩)
        | (go_at_call 19; (with_reducible refine (HNb.out _ _ _ HC2.out).mono ?_); rintro e w3 ⟨rfl, rfl⟩)
        | (go_at_call 43; (with_reducible refine (HLe.out _ _ _ _ _ HA2.out HC2.out).mono ?_); rintro e w4 ⟨rfl, hb4⟩; have q4 := (hb4.cell (p := ⟨g1, 63, none⟩) hl12).trans q2; have r4 := (hb4.cell (p := ⟨g2, 63, none⟩) hl2).trans r2; have HB4 := Lib.hid (HB2.out.trans (hb4.mono HB2.out.size)); clear hb4))
      go_quiet (fail)
      have q5 : (w4.drewN nq).cell? ⟨g1, 63, none⟩ = some (.bool true) := q4
      go_wp2_with (go_at_call 42; (with_reducible refine (truthw _ _).mono ?_); rintro e w9 ⟨rfl, rfl⟩)
      go_ret2
      exact ⟨by (try cases sm) <;> (try cases ls) <;> rfl, below_drewN HB4.out _⟩
set_option maxHeartbeats 8000000 in
theorem comparew3 {w : World} (v u : Nat) (hv : v < 18446744073709551616) (hu : u < 18446744073709551616) :
    Calls Try.prog 17 #[.int .i64 84, .int .u64 v, .int .u64 u] w fun e w' => e = .returned (.tuple #[.int .u64 (cmpL 64 3 (bitsL 64 v) (bitsL 64 u)).toNat, .bool true]) ∧ Below w.heap.size w w' := by
  have HBa := Lib.hid (fun W => bitsw v W hv)
  have HBb := Lib.hid (fun W => bitsw u W hu)
  have na := bitsL_len 64 v
  have nb := bitsL_len 64 u
  obtain ⟨a, ha⟩ : ∃ a, a = bitsL 64 v := ⟨_, rfl⟩
  obtain ⟨b, hb⟩ : ∃ b, b = bitsL 64 u := ⟨_, rfl⟩
  rw [← ha] at HBa na
  rw [← hb] at HBb nb
  unfold Ownw at HBa HBb
  obtain ⟨x, hx⟩ : ∃ x, a[63]? = some x := ⟨_, List.getElem?_eq_getElem (by omega)⟩
  obtain ⟨y, hy⟩ : ∃ y, b[63]? = some y := ⟨_, List.getElem?_eq_getElem (by omega)⟩
  rw [← ha, ← hb]
  have gx : a.getD (64 - 1) false = x := by rw [List.getD_eq_getElem?_getD, show 64 - 1 = 63 from rfl, hx]; rfl
  have gy : b.getD (64 - 1) false = y := by rw [List.getD_eq_getElem?_getD, show 64 - 1 = 63 from rfl, hy]; rfl
  obtain ⟨sm, hsm⟩ : ∃ sm, sm = (numL a == numL b) := ⟨_, rfl⟩
  obtain ⟨ls, hls⟩ : ∃ ls, ls = lessL a b := ⟨_, rfl⟩
  have hc : cmpL 64 3 a b = cmpF 3 sm ls x y := by unfold cmpL; rw [gx, gy, hsm, hls]
  rw [hc]
  have HNa := Lib.hid (fun W A1 c1 (h : LB W A1 a) => numberw (c := c1) h na)
  have HNb := Lib.hid (fun W A1 c1 (h : LB W A1 b) => numberw (c := c1) h nb)
  have HLe := Lib.hid (fun W A1 c1 A2 c2 (h : LB W A1 a) (h2 : LB W A2 b) => lessw (c := c1) (d := c2) h h2 na nb)
  rw [← hls] at HLe
  have ds : ((numL a : Int) == (numL b : Int)) = sm := by rw [hsm]; exact int_beq _ _
  clear ha hb gx gy hc hls hsm
  · as_aux_lemma =>
      go_enter Try.func17, Try.ntmps17
      go_upto_region 9 with (first
        | (go_at_call 18; (with_reducible refine (HBa.out _).mono ?_); rintro e w1 ⟨A1, c1, rfl, ho1, hb1⟩; obtain ⟨g1, rfl, _, hl1, q1, _⟩ := ho1.at hx; have HO1 := Lib.hid ho1; have HB1 := Lib.hid hb1; clear ho1 hb1)
        | (go_at_call 18; (with_reducible refine (HBb.out _).mono ?_); rintro e w2 ⟨A2, c2, rfl, ho2, hb2⟩; obtain ⟨g2, rfl, _, hl2, r2, _⟩ := ho2.at hy; have q2 := (hb2.cell (p := ⟨g1, 63, none⟩) hl1).trans q1; have HA2 := Lib.hid (HO1.out.later hb2).lb; have HC2 := Lib.hid ho2.lb; have HB2 := Lib.hid (HB1.out.trans (hb2.mono HB1.out.size)); have hl12 := Nat.lt_of_lt_of_le hl1 hb2.size; clear ho2 hb2)
        | (go_at_call 19; (with_reducible refine (HNa.out _ _ _ HA2.out).mono ?_); rintro e w3 ⟨rfl, rfl⟩)
        | (go_at_call 19; (with_reducible refine (HNb.out _ _ _ HC2.out).mono ?_); rintro e w3 ⟨rfl, rfl⟩)
        | (go_at_call 43; (with_reducible refine (HLe.out _ _ _ _ _ HA2.out HC2.out).mono ?_); rintro e w4 ⟨rfl, hb4⟩; have q4 := (hb4.cell (p := ⟨g1, 63, none⟩) hl12).trans q2; have r4 := (hb4.cell (p := ⟨g2, 63, none⟩) hl2).trans r2; have HB4 := Lib.hid (HB2.out.trans (hb4.mono HB2.out.size)); clear hb4))
      go_quiet (fail)
      have q5 : (w4.drewN nq).cell? ⟨g1, 63, none⟩ = some (.bool x) := q4
      go_wp2_with (go_at_call 42; (with_reducible refine (truthw _ _).mono ?_); rintro e w9 ⟨rfl, rfl⟩)
      go_ret2
      exact ⟨by (try cases sm) <;> (try cases ls) <;> rfl, below_drewN HB4.out _⟩
set_option maxHeartbeats 8000000 in
theorem comparew4 {w : World} (v u : Nat) (hv : v < 18446744073709551616) (hu : u < 18446744073709551616) :
    Calls Try.prog 17 #[.int .i64 85, .int .u64 v, .int .u64 u] w fun e w' => e = .returned (.tuple #[.int .u64 (cmpL 64 4 (bitsL 64 v) (bitsL 64 u)).toNat, .bool true]) ∧ Below w.heap.size w w' := by
  have HBa := Lib.hid (fun W => bitsw v W hv)
  have HBb := Lib.hid (fun W => bitsw u W hu)
  have na := bitsL_len 64 v
  have nb := bitsL_len 64 u
  obtain ⟨a, ha⟩ : ∃ a, a = bitsL 64 v := ⟨_, rfl⟩
  obtain ⟨b, hb⟩ : ∃ b, b = bitsL 64 u := ⟨_, rfl⟩
  rw [← ha] at HBa na
  rw [← hb] at HBb nb
  unfold Ownw at HBa HBb
  obtain ⟨x, hx⟩ : ∃ x, a[63]? = some x := ⟨_, List.getElem?_eq_getElem (by omega)⟩
  obtain ⟨y, hy⟩ : ∃ y, b[63]? = some y := ⟨_, List.getElem?_eq_getElem (by omega)⟩
  rw [← ha, ← hb]
  have gx : a.getD (64 - 1) false = x := by rw [List.getD_eq_getElem?_getD, show 64 - 1 = 63 from rfl, hx]; rfl
  have gy : b.getD (64 - 1) false = y := by rw [List.getD_eq_getElem?_getD, show 64 - 1 = 63 from rfl, hy]; rfl
  obtain ⟨sm, hsm⟩ : ∃ sm, sm = (numL a == numL b) := ⟨_, rfl⟩
  obtain ⟨ls, hls⟩ : ∃ ls, ls = lessL a b := ⟨_, rfl⟩
  have hc : cmpL 64 4 a b = cmpF 4 sm ls x y := by unfold cmpL; rw [gx, gy, hsm, hls]
  rw [hc]
  have HNa := Lib.hid (fun W A1 c1 (h : LB W A1 a) => numberw (c := c1) h na)
  have HNb := Lib.hid (fun W A1 c1 (h : LB W A1 b) => numberw (c := c1) h nb)
  have HLe := Lib.hid (fun W A1 c1 A2 c2 (h : LB W A1 a) (h2 : LB W A2 b) => lessw (c := c1) (d := c2) h h2 na nb)
  rw [← hls] at HLe
  have ds : ((numL a : Int) == (numL b : Int)) = sm := by rw [hsm]; exact int_beq _ _
  clear ha hb gx gy hc hls hsm
  cases x <;> cases y
  · cases ls
    · as_aux_lemma =>
        go_enter Try.func17, Try.ntmps17
        go_upto_region 9 with (first
          | (go_at_call 18; (with_reducible refine (HBa.out _).mono ?_); rintro e w1 ⟨A1, c1, rfl, ho1, hb1⟩; obtain ⟨g1, rfl, _, hl1, q1, _⟩ := ho1.at hx; have HO1 := Lib.hid ho1; have HB1 := Lib.hid hb1; clear ho1 hb1)
          | (go_at_call 18; (with_reducible refine (HBb.out _).mono ?_); rintro e w2 ⟨A2, c2, rfl, ho2, hb2⟩; obtain ⟨g2, rfl, _, hl2, r2, _⟩ := ho2.at hy; have q2 := (hb2.cell (p := ⟨g1, 63, none⟩) hl1).trans q1; have HA2 := Lib.hid (HO1.out.later hb2).lb; have HC2 := Lib.hid ho2.lb; have HB2 := Lib.hid (HB1.out.trans (hb2.mono HB1.out.size)); have hl12 := Nat.lt_of_lt_of_le hl1 hb2.size; clear ho2 hb2)
          | (go_at_call 19; (with_reducible refine (HNa.out _ _ _ HA2.out).mono ?_); rintro e w3 ⟨rfl, rfl⟩)
          | (go_at_call 19; (with_reducible refine (HNb.out _ _ _ HC2.out).mono ?_); rintro e w3 ⟨rfl, rfl⟩)
          | (go_at_call 43; (with_reducible refine (HLe.out _ _ _ _ _ HA2.out HC2.out).mono ?_); rintro e w4 ⟨rfl, hb4⟩; have q4 := (hb4.cell (p := ⟨g1, 63, none⟩) hl12).trans q2; have r4 := (hb4.cell (p := ⟨g2, 63, none⟩) hl2).trans r2; have HB4 := Lib.hid (HB2.out.trans (hb4.mono HB2.out.size)); clear hb4))
        go_quiet (fail)
        have q5 : (w4.drewN nq).cell? ⟨g1, 63, none⟩ = some (.bool false) := q4
        go_wp2_with (go_at_call 42; (with_reducible refine (truthw _ _).mono ?_); rintro e w9 ⟨rfl, rfl⟩)
        go_ret2
        exact ⟨by (try cases sm) <;> (try cases ls) <;> rfl, below_drewN HB4.out _⟩
    · as_aux_lemma =>
        go_enter Try.func17, Try.ntmps17
        go_upto_region 9 with (first
          | (go_at_call 18; (with_reducible refine (HBa.out _).mono ?_); rintro e w1 ⟨A1, c1, rfl, ho1, hb1⟩; obtain ⟨g1, rfl, _, hl1, q1, _⟩ := ho1.at hx; have HO1 := Lib.hid ho1; have HB1 := Lib.hid hb1; clear ho1 hb1)
          | (go_at_call 18; (with_reducible refine (HBb.out _).mono ?_); rintro e w2 ⟨A2, c2, rfl, ho2, hb2⟩; obtain ⟨g2, rfl, _, hl2, r2, _⟩ := ho2.at hy; have q2 := (hb2.cell (p := ⟨g1, 63, none⟩) hl1).trans q1; have HA2 := Lib.hid (HO1.out.later hb2).lb; have HC2 := Lib.hid ho2.lb; have HB2 := Lib.hid (HB1.out.trans (hb2.mono HB1.out.size)); have hl12 := Nat.lt_of_lt_of_le hl1 hb2.size; clear ho2 hb2)
          | (go_at_call 19; (with_reducible refine (HNa.out _ _ _ HA2.out).mono ?_); rintro e w3 ⟨rfl, rfl⟩)
          | (go_at_call 19; (with_reducible refine (HNb.out _ _ _ HC2.out).mono ?_); rintro e w3 ⟨rfl, rfl⟩)
          | (go_at_call 43; (with_reducible refine (HLe.out _ _ _ _ _ HA2.out HC2.out).mono ?_); rintro e w4 ⟨rfl, hb4⟩; have q4 := (hb4.cell (p := ⟨g1, 63, none⟩) hl12).trans q2; have r4 := (hb4.cell (p := ⟨g2, 63, none⟩) hl2).trans r2; have HB4 := Lib.hid (HB2.out.trans (hb4.mono HB2.out.size)); clear hb4))
        go_quiet (fail)
        have q5 : (w4.drewN nq).cell? ⟨g1, 63, none⟩ = some (.bool false) := q4
        go_wp2_with (go_at_call 42; (with_reducible refine (truthw _ _).mono ?_); rintro e w9 ⟨rfl, rfl⟩)
        go_ret2
        exact ⟨by (try cases sm) <;> (try cases ls) <;> rfl, below_drewN HB4.out _⟩
  · as_aux_lemma =>
      go_enter Try.func17, Try.ntmps17
      go_upto_region 9 with (first
        | (go_at_call 18; (with_reducible refine (HBa.out _).mono ?_); rintro e w1 ⟨A1, c1, rfl, ho1, hb1⟩; obtain ⟨g1, rfl, _, hl1, q1, _⟩ := ho1.at hx; have HO1 := Lib.hid ho1; have HB1 := Lib.hid hb1; clear ho1 hb1)
        | (go_at_call 18; (with_reducible refine (HBb.out _).mono ?_); rintro e w2 ⟨A2, c2, rfl, ho2, hb2⟩; obtain ⟨g2, rfl, _, hl2, r2, _⟩ := ho2.at hy; have q2 := (hb2.cell (p := ⟨g1, 63, none⟩) hl1).trans q1; have HA2 := Lib.hid (HO1.out.later hb2).lb; have HC2 := Lib.hid ho2.lb; have HB2 := Lib.hid (HB1.out.trans (hb2.mono HB1.out.size)); have hl12 := Nat.lt_of_lt_of_le hl1 hb2.size; clear ho2 hb2)
        | (go_at_call 19; (with_reducible refine (HNa.out _ _ _ HA2.out).mono ?_); rintro e w3 ⟨rfl, rfl⟩)
        | (go_at_call 19; (with_reducible refine (HNb.out _ _ _ HC2.out).mono ?_); rintro e w3 ⟨rfl, rfl⟩)
        | (go_at_call 43; (with_reducible refine (HLe.out _ _ _ _ _ HA2.out HC2.out).mono ?_); rintro e w4 ⟨rfl, hb4⟩; have q4 := (hb4.cell (p := ⟨g1, 63, none⟩) hl12).trans q2; have r4 := (hb4.cell (p := ⟨g2, 63, none⟩) hl2).trans r2; have HB4 := Lib.hid (HB2.out.trans (hb4.mono HB2.out.size)); clear hb4))
      go_quiet (fail)
      have q5 : (w4.drewN nq).cell? ⟨g1, 63, none⟩ = some (.bool false) := q4
      go_wp2_with (go_at_call 42; (with_reducible refine (truthw _ _).mono ?_); rintro e w9 ⟨rfl, rfl⟩)
      go_ret2
      exact ⟨by (try cases sm) <;> (try cases ls) <;> rfl, below_drewN HB4.out _⟩
  · as_aux_lemma =>
      go_enter Try.func17, Try.ntmps17
      go_upto_region 9 with (first
        | (go_at_call 18; (with_reducible refine (HBa.out _).mono ?_); rintro e w1 ⟨A1, c1, rfl, ho1, hb1⟩; obtain ⟨g1, rfl, _, hl1, q1, _⟩ := ho1.at hx; have HO1 := Lib.hid ho1; have HB1 := Lib.hid hb1; clear ho1 hb1)
        | (go_at_call 18; (with_reducible refine (HBb.out _).mono ?_); rintro e w2 ⟨A2, c2, rfl, ho2, hb2⟩; obtain ⟨g2, rfl, _, hl2, r2, _⟩ := ho2.at hy; have q2 := (hb2.cell (p := ⟨g1, 63, none⟩) hl1).trans q1; have HA2 := Lib.hid (HO1.out.later hb2).lb; have HC2 := Lib.hid ho2.lb; have HB2 := Lib.hid (HB1.out.trans (hb2.mono HB1.out.size)); have hl12 := Nat.lt_of_lt_of_le hl1 hb2.size; clear ho2 hb2)
        | (go_at_call 19; (with_reducible refine (HNa.out _ _ _ HA2.out).mono ?_); rintro e w3 ⟨rfl, rfl⟩)
        | (go_at_call 19; (with_reducible refine (HNb.out _ _ _ HC2.out).mono ?_); rintro e w3 ⟨rfl, rfl⟩)
        | (go_at_call 43; (with_reducible refine (HLe.out _ _ _ _ _ HA2.out HC2.out).mono ?_); rintro e w4 ⟨rfl, hb4⟩; have q4 := (hb4.cell (p := ⟨g1, 63, none⟩) hl12).trans q2; have r4 := (hb4.cell (p := ⟨g2, 63, none⟩) hl2).trans r2; have HB4 := Lib.hid (HB2.out.trans (hb4.mono HB2.out.size)); clear hb4))
      go_quiet (fail)
      have q5 : (w4.drewN nq).cell? ⟨g1, 63, none⟩ = some (.bool true) := q4
      go_wp2_with (go_at_call 42; (with_reducible refine (truthw _ _).mono ?_); rintro e w9 ⟨rfl, rfl⟩)
      go_ret2
      exact ⟨by (try cases sm) <;> (try cases ls) <;> rfl, below_drewN HB4.out _⟩
  · cases ls
    · as_aux_lemma =>
        go_enter Try.func17, Try.ntmps17
        go_upto_region 9 with (first
          | (go_at_call 18; (with_reducible refine (HBa.out _).mono ?_); rintro e w1 ⟨A1, c1, rfl, ho1, hb1⟩; obtain ⟨g1, rfl, _, hl1, q1, _⟩ := ho1.at hx; have HO1 := Lib.hid ho1; have HB1 := Lib.hid hb1; clear ho1 hb1)
          | (go_at_call 18; (with_reducible refine (HBb.out _).mono ?_); rintro e w2 ⟨A2, c2, rfl, ho2, hb2⟩; obtain ⟨g2, rfl, _, hl2, r2, _⟩ := ho2.at hy; have q2 := (hb2.cell (p := ⟨g1, 63, none⟩) hl1).trans q1; have HA2 := Lib.hid (HO1.out.later hb2).lb; have HC2 := Lib.hid ho2.lb; have HB2 := Lib.hid (HB1.out.trans (hb2.mono HB1.out.size)); have hl12 := Nat.lt_of_lt_of_le hl1 hb2.size; clear ho2 hb2)
          | (go_at_call 19; (with_reducible refine (HNa.out _ _ _ HA2.out).mono ?_); rintro e w3 ⟨rfl, rfl⟩)
          | (go_at_call 19; (with_reducible refine (HNb.out _ _ _ HC2.out).mono ?_); rintro e w3 ⟨rfl, rfl⟩)
          | (go_at_call 43; (with_reducible refine (HLe.out _ _ _ _ _ HA2.out HC2.out).mono ?_); rintro e w4 ⟨rfl, hb4⟩; have q4 := (hb4.cell (p := ⟨g1, 63, none⟩) hl12).trans q2; have r4 := (hb4.cell (p := ⟨g2, 63, none⟩) hl2).trans r2; have HB4 := Lib.hid (HB2.out.trans (hb4.mono HB2.out.size)); clear hb4))
        go_quiet (fail)
        have q5 : (w4.drewN nq).cell? ⟨g1, 63, none⟩ = some (.bool true) := q4
        go_wp2_with (go_at_call 42; (with_reducible refine (truthw _ _).mono ?_); rintro e w9 ⟨rfl, rfl⟩)
        go_ret2
        exact ⟨by (try cases sm) <;> (try cases ls) <;> rfl, below_drewN HB4.out _⟩
    · as_aux_lemma =>
        go_enter Try.func17, Try.ntmps17
        go_upto_region 9 with (first
          | (go_at_call 18; (with_reducible refine (HBa.out _).mono ?_); rintro e w1 ⟨A1, c1, rfl, ho1, hb1⟩; obtain ⟨g1, rfl, _, hl1, q1, _⟩ := ho1.at hx; have HO1 := Lib.hid ho1; have HB1 := Lib.hid hb1; clear ho1 hb1)
          | (go_at_call 18; (with_reducible refine (HBb.out _).mono ?_); rintro e w2 ⟨A2, c2, rfl, ho2, hb2⟩; obtain ⟨g2, rfl, _, hl2, r2, _⟩ := ho2.at hy; have q2 := (hb2.cell (p := ⟨g1, 63, none⟩) hl1).trans q1; have HA2 := Lib.hid (HO1.out.later hb2).lb; have HC2 := Lib.hid ho2.lb; have HB2 := Lib.hid (HB1.out.trans (hb2.mono HB1.out.size)); have hl12 := Nat.lt_of_lt_of_le hl1 hb2.size; clear ho2 hb2)
          | (go_at_call 19; (with_reducible refine (HNa.out _ _ _ HA2.out).mono ?_); rintro e w3 ⟨rfl, rfl⟩)
          | (go_at_call 19; (with_reducible refine (HNb.out _ _ _ HC2.out).mono ?_); rintro e w3 ⟨rfl, rfl⟩)
          | (go_at_call 43; (with_reducible refine (HLe.out _ _ _ _ _ HA2.out HC2.out).mono ?_); rintro e w4 ⟨rfl, hb4⟩; have q4 := (hb4.cell (p := ⟨g1, 63, none⟩) hl12).trans q2; have r4 := (hb4.cell (p := ⟨g2, 63, none⟩) hl2).trans r2; have HB4 := Lib.hid (HB2.out.trans (hb4.mono HB2.out.size)); clear hb4))
        go_quiet (fail)
        have q5 : (w4.drewN nq).cell? ⟨g1, 63, none⟩ = some (.bool true) := q4
        go_wp2_with (go_at_call 42; (with_reducible refine (truthw _ _).mono ?_); rintro e w9 ⟨rfl, rfl⟩)
        go_ret2
        exact ⟨by (try cases sm) <;> (try cases ls) <;> rfl, below_drewN HB4.out _⟩
set_option maxHeartbeats 8000000 in
theorem comparew5 {w : World} (v u : Nat) (hv : v < 18446744073709551616) (hu : u < 18446744073709551616) :
    Calls Try.prog 17 #[.int .i64 86, .int .u64 v, .int .u64 u] w fun e w' => e = .returned (.tuple #[.int .u64 (cmpL 64 5 (bitsL 64 v) (bitsL 64 u)).toNat, .bool true]) ∧ Below w.heap.size w w' := by
  have HBa := Lib.hid (fun W => bitsw v W hv)
  have HBb := Lib.hid (fun W => bitsw u W hu)
  have na := bitsL_len 64 v
  have nb := bitsL_len 64 u
  obtain ⟨a, ha⟩ : ∃ a, a = bitsL 64 v := ⟨_, rfl⟩
  obtain ⟨b, hb⟩ : ∃ b, b = bitsL 64 u := ⟨_, rfl⟩
  rw [← ha] at HBa na
  rw [← hb] at HBb nb
  unfold Ownw at HBa HBb
  obtain ⟨x, hx⟩ : ∃ x, a[63]? = some x := ⟨_, List.getElem?_eq_getElem (by omega)⟩
  obtain ⟨y, hy⟩ : ∃ y, b[63]? = some y := ⟨_, List.getElem?_eq_getElem (by omega)⟩
  rw [← ha, ← hb]
  have gx : a.getD (64 - 1) false = x := by rw [List.getD_eq_getElem?_getD, show 64 - 1 = 63 from rfl, hx]; rfl
  have gy : b.getD (64 - 1) false = y := by rw [List.getD_eq_getElem?_getD, show 64 - 1 = 63 from rfl, hy]; rfl
  obtain ⟨sm, hsm⟩ : ∃ sm, sm = (numL a == numL b) := ⟨_, rfl⟩
  obtain ⟨ls, hls⟩ : ∃ ls, ls = lessL a b := ⟨_, rfl⟩
  have hc : cmpL 64 5 a b = cmpF 5 sm ls x y := by unfold cmpL; rw [gx, gy, hsm, hls]
  rw [hc]
  have HNa := Lib.hid (fun W A1 c1 (h : LB W A1 a) => numberw (c := c1) h na)
  have HNb := Lib.hid (fun W A1 c1 (h : LB W A1 b) => numberw (c := c1) h nb)
  have HLe := Lib.hid (fun W A1 c1 A2 c2 (h : LB W A1 a) (h2 : LB W A2 b) => lessw (c := c1) (d := c2) h h2 na nb)
  rw [← hls] at HLe
  have ds : ((numL a : Int) == (numL b : Int)) = sm := by rw [hsm]; exact int_beq _ _
  clear ha hb gx gy hc hls hsm
  cases ls
  · as_aux_lemma =>
      go_enter Try.func17, Try.ntmps17
      go_upto_region 9 with (first
        | (go_at_call 18; (with_reducible refine (HBa.out _).mono ?_); rintro e w1 ⟨A1, c1, rfl, ho1, hb1⟩; obtain ⟨g1, rfl, _, hl1, q1, _⟩ := ho1.at hx; have HO1 := Lib.hid ho1; have HB1 := Lib.hid hb1; clear ho1 hb1)
        | (go_at_call 18; (with_reducible refine (HBb.out _).mono ?_); rintro e w2 ⟨A2, c2, rfl, ho2, hb2⟩; obtain ⟨g2, rfl, _, hl2, r2, _⟩ := ho2.at hy; have q2 := (hb2.cell (p := ⟨g1, 63, none⟩) hl1).trans q1; have HA2 := Lib.hid (HO1.out.later hb2).lb; have HC2 := Lib.hid ho2.lb; have HB2 := Lib.hid (HB1.out.trans (hb2.mono HB1.out.size)); have hl12 := Nat.lt_of_lt_of_le hl1 hb2.size; clear ho2 hb2)
        | (go_at_call 19; (with_reducible refine (HNa.out _ _ _ HA2.out).mono ?_); rintro e w3 ⟨rfl, rfl⟩)
        | (go_at_call 19; (with_reducible refine (HNb.out _ _ _ HC2.out).mono ?_); rintro e w3 ⟨rfl, rfl⟩)
        | (go_at_call 43; (with_reducible refine (HLe.out _ _ _ _ _ HA2.out HC2.out).mono ?_); rintro e w4 ⟨rfl, hb4⟩; have q4 := (hb4.cell (p := ⟨g1, 63, none⟩) hl12).trans q2; have r4 := (hb4.cell (p := ⟨g2, 63, none⟩) hl2).trans r2; have HB4 := Lib.hid (HB2.out.trans (hb4.mono HB2.out.size)); clear hb4))
      go_quiet (fail)
      have q5 : (w4.drewN nq).cell? ⟨g1, 63, none⟩ = some (.bool x) := q4
      go_wp2_with (go_at_call 42; (with_reducible refine (truthw _ _).mono ?_); rintro e w9 ⟨rfl, rfl⟩)
      go_ret2
      exact ⟨by (try cases sm) <;> (try cases ls) <;> rfl, below_drewN HB4.out _⟩
  · as_aux_lemma =>
      go_enter Try.func17, Try.ntmps17
      go_upto_region 9 with (first
        | (go_at_call 18; (with_reducible refine (HBa.out _).mono ?_); rintro e w1 ⟨A1, c1, rfl, ho1, hb1⟩; obtain ⟨g1, rfl, _, hl1, q1, _⟩ := ho1.at hx; have HO1 := Lib.hid ho1; have HB1 := Lib.hid hb1; clear ho1 hb1)
        | (go_at_call 18; (with_reducible refine (HBb.out _).mono ?_); rintro e w2 ⟨A2, c2, rfl, ho2, hb2⟩; obtain ⟨g2, rfl, _, hl2, r2, _⟩ := ho2.at hy; have q2 := (hb2.cell (p := ⟨g1, 63, none⟩) hl1).trans q1; have HA2 := Lib.hid (HO1.out.later hb2).lb; have HC2 := Lib.hid ho2.lb; have HB2 := Lib.hid (HB1.out.trans (hb2.mono HB1.out.size)); have hl12 := Nat.lt_of_lt_of_le hl1 hb2.size; clear ho2 hb2)
        | (go_at_call 19; (with_reducible refine (HNa.out _ _ _ HA2.out).mono ?_); rintro e w3 ⟨rfl, rfl⟩)
        | (go_at_call 19; (with_reducible refine (HNb.out _ _ _ HC2.out).mono ?_); rintro e w3 ⟨rfl, rfl⟩)
        | (go_at_call 43; (with_reducible refine (HLe.out _ _ _ _ _ HA2.out HC2.out).mono ?_); rintro e w4 ⟨rfl, hb4⟩; have q4 := (hb4.cell (p := ⟨g1, 63, none⟩) hl12).trans q2; have r4 := (hb4.cell (p := ⟨g2, 63, none⟩) hl2).trans r2; have HB4 := Lib.hid (HB2.out.trans (hb4.mono HB2.out.size)); clear hb4))
      go_quiet (fail)
      have q5 : (w4.drewN nq).cell? ⟨g1, 63, none⟩ = some (.bool x) := q4
      go_wp2_with (go_at_call 42; (with_reducible refine (truthw _ _).mono ?_); rintro e w9 ⟨rfl, rfl⟩)
      go_ret2
      exact ⟨by (try cases sm) <;> (try cases ls) <;> rfl, below_drewN HB4.out _⟩
set_option maxHeartbeats 8000000 in
theorem comparew6 {w : World} (v u : Nat) (hv : v < 18446744073709551616) (hu : u < 18446744073709551616) :
    Calls Try.prog 17 #[.int .i64 87, .int .u64 v, .int .u64 u] w fun e w' => e = .returned (.tuple #[.int .u64 (cmpL 64 6 (bitsL 64 v) (bitsL 64 u)).toNat, .bool true]) ∧ Below w.heap.size w w' := by
  have HBa := Lib.hid (fun W => bitsw v W hv)
  have HBb := Lib.hid (fun W => bitsw u W hu)
  have na := bitsL_len 64 v
  have nb := bitsL_len 64 u
  obtain ⟨a, ha⟩ : ∃ a, a = bitsL 64 v := ⟨_, rfl⟩
  obtain ⟨b, hb⟩ : ∃ b, b = bitsL 64 u := ⟨_, rfl⟩
  rw [← ha] at HBa na
  rw [← hb] at HBb nb
  unfold Ownw at HBa HBb
  obtain ⟨x, hx⟩ : ∃ x, a[63]? = some x := ⟨_, List.getElem?_eq_getElem (by omega)⟩
  obtain ⟨y, hy⟩ : ∃ y, b[63]? = some y := ⟨_, List.getElem?_eq_getElem (by omega)⟩
  rw [← ha, ← hb]
  have gx : a.getD (64 - 1) false = x := by rw [List.getD_eq_getElem?_getD, show 64 - 1 = 63 from rfl, hx]; rfl
  have gy : b.getD (64 - 1) false = y := by rw [List.getD_eq_getElem?_getD, show 64 - 1 = 63 from rfl, hy]; rfl
  obtain ⟨sm, hsm⟩ : ∃ sm, sm = (numL a == numL b) := ⟨_, rfl⟩
  obtain ⟨ls, hls⟩ : ∃ ls, ls = lessL a b := ⟨_, rfl⟩
  have hc : cmpL 64 6 a b = cmpF 6 sm ls x y := by unfold cmpL; rw [gx, gy, hsm, hls]
  rw [hc]
  have HNa := Lib.hid (fun W A1 c1 (h : LB W A1 a) => numberw (c := c1) h na)
  have HNb := Lib.hid (fun W A1 c1 (h : LB W A1 b) => numberw (c := c1) h nb)
  have HLe := Lib.hid (fun W A1 c1 A2 c2 (h : LB W A1 a) (h2 : LB W A2 b) => lessw (c := c1) (d := c2) h h2 na nb)
  rw [← hls] at HLe
  have ds : ((numL a : Int) == (numL b : Int)) = sm := by rw [hsm]; exact int_beq _ _
  clear ha hb gx gy hc hls hsm
  cases x <;> cases y
  · cases ls
    · as_aux_lemma =>
        go_enter Try.func17, Try.ntmps17
        go_upto_region 9 with (first
          | (go_at_call 18; (with_reducible refine (HBa.out _).mono ?_); rintro e w1 ⟨A1, c1, rfl, ho1, hb1⟩; obtain ⟨g1, rfl, _, hl1, q1, _⟩ := ho1.at hx; have HO1 := Lib.hid ho1; have HB1 := Lib.hid hb1; clear ho1 hb1)
          | (go_at_call 18; (with_reducible refine (HBb.out _).mono ?_); rintro e w2 ⟨A2, c2, rfl, ho2, hb2⟩; obtain ⟨g2, rfl, _, hl2, r2, _⟩ := ho2.at hy; have q2 := (hb2.cell (p := ⟨g1, 63, none⟩) hl1).trans q1; have HA2 := Lib.hid (HO1.out.later hb2).lb; have HC2 := Lib.hid ho2.lb; have HB2 := Lib.hid (HB1.out.trans (hb2.mono HB1.out.size)); have hl12 := Nat.lt_of_lt_of_le hl1 hb2.size; clear ho2 hb2)
          | (go_at_call 19; (with_reducible refine (HNa.out _ _ _ HA2.out).mono ?_); rintro e w3 ⟨rfl, rfl⟩)
          | (go_at_call 19; (with_reducible refine (HNb.out _ _ _ HC2.out).mono ?_); rintro e w3 ⟨rfl, rfl⟩)
          | (go_at_call 43; (with_reducible refine (HLe.out _ _ _ _ _ HA2.out HC2.out).mono ?_); rintro e w4 ⟨rfl, hb4⟩; have q4 := (hb4.cell (p := ⟨g1, 63, none⟩) hl12).trans q2; have r4 := (hb4.cell (p := ⟨g2, 63, none⟩) hl2).trans r2; have HB4 := Lib.hid (HB2.out.trans (hb4.mono HB2.out.size)); clear hb4))
        go_quiet (fail)
        have q5 : (w4.drewN nq).cell? ⟨g1, 63, none⟩ = some (.bool false) := q4
        go_wp2_with (go_at_call 42; (with_reducible refine (truthw _ _).mono ?_); rintro e w9 ⟨rfl, rfl⟩)
        go_ret2
        exact ⟨by (try cases sm) <;> (try cases ls) <;> rfl, below_drewN HB4.out _⟩
    · as_aux_lemma =>
        go_enter Try.func17, Try.ntmps17
        go_upto_region 9 with (first
          | (go_at_call 18; (with_reducible refine (HBa.out _).mono ?_); rintro e w1 ⟨A1, c1, rfl, ho1, hb1⟩; obtain ⟨g1, rfl, _, hl1, q1, _⟩ := ho1.at hx; have HO1 := Lib.hid ho1; have HB1 := Lib.hid hb1; clear ho1 hb1)
          | (go_at_call 18; (with_reducible refine (HBb.out _).mono ?_); rintro e w2 ⟨A2, c2, rfl, ho2, hb2⟩; obtain ⟨g2, rfl, _, hl2, r2, _⟩ := ho2.at hy; have q2 := (hb2.cell (p := ⟨g1, 63, none⟩) hl1).trans q1; have HA2 := Lib.hid (HO1.out.later hb2).lb; have HC2 := Lib.hid ho2.lb; have HB2 := Lib.hid (HB1.out.trans (hb2.mono HB1.out.size)); have hl12 := Nat.lt_of_lt_of_le hl1 hb2.size; clear ho2 hb2)
          | (go_at_call 19; (with_reducible refine (HNa.out _ _ _ HA2.out).mono ?_); rintro e w3 ⟨rfl, rfl⟩)
          | (go_at_call 19; (with_reducible refine (HNb.out _ _ _ HC2.out).mono ?_); rintro e w3 ⟨rfl, rfl⟩)
          | (go_at_call 43; (with_reducible refine (HLe.out _ _ _ _ _ HA2.out HC2.out).mono ?_); rintro e w4 ⟨rfl, hb4⟩; have q4 := (hb4.cell (p := ⟨g1, 63, none⟩) hl12).trans q2; have r4 := (hb4.cell (p := ⟨g2, 63, none⟩) hl2).trans r2; have HB4 := Lib.hid (HB2.out.trans (hb4.mono HB2.out.size)); clear hb4))
        go_quiet (fail)
        have q5 : (w4.drewN nq).cell? ⟨g1, 63, none⟩ = some (.bool false) := q4
        go_wp2_with (go_at_call 42; (with_reducible refine (truthw _ _).mono ?_); rintro e w9 ⟨rfl, rfl⟩)
        go_ret2
        exact ⟨by (try cases sm) <;> (try cases ls) <;> rfl, below_drewN HB4.out _⟩
  · as_aux_lemma =>
      go_enter Try.func17, Try.ntmps17
      go_upto_region 9 with (first
        | (go_at_call 18; (with_reducible refine (HBa.out _).mono ?_); rintro e w1 ⟨A1, c1, rfl, ho1, hb1⟩; obtain ⟨g1, rfl, _, hl1, q1, _⟩ := ho1.at hx; have HO1 := Lib.hid ho1; have HB1 := Lib.hid hb1; clear ho1 hb1)
        | (go_at_call 18; (with_reducible refine (HBb.out _).mono ?_); rintro e w2 ⟨A2, c2, rfl, ho2, hb2⟩; obtain ⟨g2, rfl, _, hl2, r2, _⟩ := ho2.at hy; have q2 := (hb2.cell (p := ⟨g1, 63, none⟩) hl1).trans q1; have HA2 := Lib.hid (HO1.out.later hb2).lb; have HC2 := Lib.hid ho2.lb; have HB2 := Lib.hid (HB1.out.trans (hb2.mono HB1.out.size)); have hl12 := Nat.lt_of_lt_of_le hl1 hb2.size; clear ho2 hb2)
        | (go_at_call 19; (with_reducible refine (HNa.out _ _ _ HA2.out).mono ?_); rintro e w3 ⟨rfl, rfl⟩)
        | (go_at_call 19; (with_reducible refine (HNb.out _ _ _ HC2.out).mono ?_); rintro e w3 ⟨rfl, rfl⟩)
        | (go_at_call 43; (with_reducible refine (HLe.out _ _ _ _ _ HA2.out HC2.out).mono ?_); rintro e w4 ⟨rfl, hb4⟩; have q4 := (hb4.cell (p := ⟨g1, 63, none⟩) hl12).trans q2; have r4 := (hb4.cell (p := ⟨g2, 63, none⟩) hl2).trans r2; have HB4 := Lib.hid (HB2.out.trans (hb4.mono HB2.out.size)); clear hb4))
      go_quiet (fail)
      have q5 : (w4.drewN nq).cell? ⟨g1, 63, none⟩ = some (.bool false) := q4
      go_wp2_with (go_at_call 42; (with_reducible refine (truthw _ _).mono ?_); rintro e w9 ⟨rfl, rfl⟩)
      go_ret2
      exact ⟨by (try cases sm) <;> (try cases ls) <;> rfl, below_drewN HB4.out _⟩
  · as_aux_lemma =>
      go_enter Try.func17, Try.ntmps17
      go_upto_region 9 with (first
        | (go_at_call 18; (with_reducible refine (HBa.out _).mono ?_); rintro e w1 ⟨A1, c1, rfl, ho1, hb1⟩; obtain ⟨g1, rfl, _, hl1, q1, _⟩ := ho1.at hx; have HO1 := Lib.hid ho1; have HB1 := Lib.hid hb1; clear ho1 hb1)
        | (go_at_call 18; (with_reducible refine (HBb.out _).mono ?_); rintro e w2 ⟨A2, c2, rfl, ho2, hb2⟩; obtain ⟨g2, rfl, _, hl2, r2, _⟩ := ho2.at hy; have q2 := (hb2.cell (p := ⟨g1, 63, none⟩) hl1).trans q1; have HA2 := Lib.hid (HO1.out.later hb2).lb; have HC2 := Lib.hid ho2.lb; have HB2 := Lib.hid (HB1.out.trans (hb2.mono HB1.out.size)); have hl12 := Nat.lt_of_lt_of_le hl1 hb2.size; clear ho2 hb2)
        | (go_at_call 19; (with_reducible refine (HNa.out _ _ _ HA2.out).mono ?_); rintro e w3 ⟨rfl, rfl⟩)
        | (go_at_call 19; (with_reducible refine (HNb.out _ _ _ HC2.out).mono ?_); rintro e w3 ⟨rfl, rfl⟩)
        | (go_at_call 43; (with_reducible refine (HLe.out _ _ _ _ _ HA2.out HC2.out).mono ?_); rintro e w4 ⟨rfl, hb4⟩; have q4 := (hb4.cell (p := ⟨g1, 63, none⟩) hl12).trans q2; have r4 := (hb4.cell (p := ⟨g2, 63, none⟩) hl2).trans r2; have HB4 := Lib.hid (HB2.out.trans (hb4.mono HB2.out.size)); clear hb4))
      go_quiet (fail)
      have q5 : (w4.drewN nq).cell? ⟨g1, 63, none⟩ = some (.bool true) := q4
      go_wp2_with (go_at_call 42; (with_reducible refine (truthw _ _).mono ?_); rintro e w9 ⟨rfl, rfl⟩)
      go_ret2
      exact ⟨by (try cases sm) <;> (try cases ls) <;> rfl, below_drewN HB4.out _⟩
  · cases ls
    · as_aux_lemma =>
        go_enter Try.func17, Try.ntmps17
        go_upto_region 9 with (first
          | (go_at_call 18; (with_reducible refine (HBa.out _).mono ?_); rintro e w1 ⟨A1, c1, rfl, ho1, hb1⟩; obtain ⟨g1, rfl, _, hl1, q1, _⟩ := ho1.at hx; have HO1 := Lib.hid ho1; have HB1 := Lib.hid hb1; clear ho1 hb1)
          | (go_at_call 18; (with_reducible refine (HBb.out _).mono ?_); rintro e w2 ⟨A2, c2, rfl, ho2, hb2⟩; obtain ⟨g2, rfl, _, hl2, r2, _⟩ := ho2.at hy; have q2 := (hb2.cell (p := ⟨g1, 63, none⟩) hl1).trans q1; have HA2 := Lib.hid (HO1.out.later hb2).lb; have HC2 := Lib.hid ho2.lb; have HB2 := Lib.hid (HB1.out.trans (hb2.mono HB1.out.size)); have hl12 := Nat.lt_of_lt_of_le hl1 hb2.size; clear ho2 hb2)
          | (go_at_call 19; (with_reducible refine (HNa.out _ _ _ HA2.out).mono ?_); rintro e w3 ⟨rfl, rfl⟩)
          | (go_at_call 19; (with_reducible refine (HNb.out _ _ _ HC2.out).mono ?_); rintro e w3 ⟨rfl, rfl⟩)
          | (go_at_call 43; (with_reducible refine (HLe.out _ _ _ _ _ HA2.out HC2.out).mono ?_); rintro e w4 ⟨rfl, hb4⟩; have q4 := (hb4.cell (p := ⟨g1, 63, none⟩) hl12).trans q2; have r4 := (hb4.cell (p := ⟨g2, 63, none⟩) hl2).trans r2; have HB4 := Lib.hid (HB2.out.trans (hb4.mono HB2.out.size)); clear hb4))
        go_quiet (fail)
        have q5 : (w4.drewN nq).cell? ⟨g1, 63, none⟩ = some (.bool true) := q4
        go_wp2_with (go_at_call 42; (with_reducible refine (truthw _ _).mono ?_); rintro e w9 ⟨rfl, rfl⟩)
        go_ret2
        exact ⟨by (try cases sm) <;> (try cases ls) <;> rfl, below_drewN HB4.out _⟩
    · as_aux_lemma =>
        go_enter Try.func17, Try.ntmps17
        go_upto_region 9 with (first
          | (go_at_call 18; (with_reducible refine (HBa.out _).mono ?_); rintro e w1 ⟨A1, c1, rfl, ho1, hb1⟩; obtain ⟨g1, rfl, _, hl1, q1, _⟩ := ho1.at hx; have HO1 := Lib.hid ho1; have HB1 := Lib.hid hb1; clear ho1 hb1)
          | (go_at_call 18; (with_reducible refine (HBb.out _).mono ?_); rintro e w2 ⟨A2, c2, rfl, ho2, hb2⟩; obtain ⟨g2, rfl, _, hl2, r2, _⟩ := ho2.at hy; have q2 := (hb2.cell (p := ⟨g1, 63, none⟩) hl1).trans q1; have HA2 := Lib.hid (HO1.out.later hb2).lb; have HC2 := Lib.hid ho2.lb; have HB2 := Lib.hid (HB1.out.trans (hb2.mono HB1.out.size)); have hl12 := Nat.lt_of_lt_of_le hl1 hb2.size; clear ho2 hb2)
          | (go_at_call 19; (with_reducible refine (HNa.out _ _ _ HA2.out).mono ?_); rintro e w3 ⟨rfl, rfl⟩)
          | (go_at_call 19; (with_reducible refine (HNb.out _ _ _ HC2.out).mono ?_); rintro e w3 ⟨rfl, rfl⟩)
          | (go_at_call 43; (with_reducible refine (HLe.out _ _ _ _ _ HA2.out HC2.out).mono ?_); rintro e w4 ⟨rfl, hb4⟩; have q4 := (hb4.cell (p := ⟨g1, 63, none⟩) hl12).trans q2; have r4 := (hb4.cell (p := ⟨g2, 63, none⟩) hl2).trans r2; have HB4 := Lib.hid (HB2.out.trans (hb4.mono HB2.out.size)); clear hb4))
        go_quiet (fail)
        have q5 : (w4.drewN nq).cell? ⟨g1, 63, none⟩ = some (.bool true) := q4
        go_wp2_with (go_at_call 42; (with_reducible refine (truthw _ _).mono ?_); rintro e w9 ⟨rfl, rfl⟩)
        go_ret2
        exact ⟨by (try cases sm) <;> (try cases ls) <;> rfl, below_drewN HB4.out _⟩
set_option maxHeartbeats 8000000 in
theorem comparew7 {w : World} (v u : Nat) (hv : v < 18446744073709551616) (hu : u < 18446744073709551616) :
    Calls Try.prog 17 #[.int .i64 88, .int .u64 v, .int .u64 u] w fun e w' => e = .returned (.tuple #[.int .u64 (cmpL 64 7 (bitsL 64 v) (bitsL 64 u)).toNat, .bool true]) ∧ Below w.heap.size w w' := by
  have HBa := Lib.hid (fun W => bitsw v W hv)
  have HBb := Lib.hid (fun W => bitsw u W hu)
  have na := bitsL_len 64 v
  have nb := bitsL_len 64 u
  obtain ⟨a, ha⟩ : ∃ a, a = bitsL 64 v := ⟨_, rfl⟩
  obtain ⟨b, hb⟩ : ∃ b, b = bitsL 64 u := ⟨_, rfl⟩
  rw [← ha] at HBa na
  rw [← hb] at HBb nb
  unfold Ownw at HBa HBb
  obtain ⟨x, hx⟩ : ∃ x, a[63]? = some x := ⟨_, List.getElem?_eq_getElem (by omega)⟩
  obtain ⟨y, hy⟩ : ∃ y, b[63]? = some y := ⟨_, List.getElem?_eq_getElem (by omega)⟩
  rw [← ha, ← hb]
  have gx : a.getD (64 - 1) false = x := by rw [List.getD_eq_getElem?_getD, show 64 - 1 = 63 from rfl, hx]; rfl
  have gy : b.getD (64 - 1) false = y := by rw [List.getD_eq_getElem?_getD, show 64 - 1 = 63 from rfl, hy]; rfl
  obtain ⟨sm, hsm⟩ : ∃ sm, sm = (numL a == numL b) := ⟨_, rfl⟩
  obtain ⟨ls, hls⟩ : ∃ ls, ls = lessL a b := ⟨_, rfl⟩
  have hc : cmpL 64 7 a b = cmpF 7 sm ls x y := by unfold cmpL; rw [gx, gy, hsm, hls]
  rw [hc]
  have HNa := Lib.hid (fun W A1 c1 (h : LB W A1 a) => numberw (c := c1) h na)
  have HNb := Lib.hid (fun W A1 c1 (h : LB W A1 b) => numberw (c := c1) h nb)
  have HLe := Lib.hid (fun W A1 c1 A2 c2 (h : LB W A1 a) (h2 : LB W A2 b) => lessw (c := c1) (d := c2) h h2 na nb)
  rw [← hls] at HLe
  have ds : ((numL a : Int) == (numL b : Int)) = sm := by rw [hsm]; exact int_beq _ _
  clear ha hb gx gy hc hls hsm
  cases ls
  · as_aux_lemma =>
      go_enter Try.func17, Try.ntmps17
      go_upto_region 9 with (first
        | (go_at_call 18; (with_reducible refine (HBa.out _).mono ?_); rintro e w1 ⟨A1, c1, rfl, ho1, hb1⟩; obtain ⟨g1, rfl, _, hl1, q1, _⟩ := ho1.at hx; have HO1 := Lib.hid ho1; have HB1 := Lib.hid hb1; clear ho1 hb1)
        | (go_at_call 18; (with_reducible refine (HBb.out _).mono ?_); rintro e w2 ⟨A2, c2, rfl, ho2, hb2⟩; obtain ⟨g2, rfl, _, hl2, r2, _⟩ := ho2.at hy; have q2 := (hb2.cell (p := ⟨g1, 63, none⟩) hl1).trans q1; have HA2 := Lib.hid (HO1.out.later hb2).lb; have HC2 := Lib.hid ho2.lb; have HB2 := Lib.hid (HB1.out.trans (hb2.mono HB1.out.size)); have hl12 := Nat.lt_of_lt_of_le hl1 hb2.size; clear ho2 hb2)
        | (go_at_call 19; (with_reducible refine (HNa.out _ _ _ HA2.out).mono ?_); rintro e w3 ⟨rfl, rfl⟩)
        | (go_at_call 19; (with_reducible refine (HNb.out _ _ _ HC2.out).mono ?_); rintro e w3 ⟨rfl, rfl⟩)
        | (go_at_call 43; (with_reducible refine (HLe.out _ _ _ _ _ HA2.out HC2.out).mono ?_); rintro e w4 ⟨rfl, hb4⟩; have q4 := (hb4.cell (p := ⟨g1, 63, none⟩) hl12).trans q2; have r4 := (hb4.cell (p := ⟨g2, 63, none⟩) hl2).trans r2; have HB4 := Lib.hid (HB2.out.trans (hb4.mono HB2.out.size)); clear hb4))
      go_quiet (fail)
      have q5 : (w4.drewN nq).cell? ⟨g1, 63, none⟩ = some (.bool x) := q4
      go_wp2_with (go_at_call 42; (with_reducible refine (truthw _ _).mono ?_); rintro e w9 ⟨rfl, rfl⟩)
      go_ret2
      exact ⟨by (try cases sm) <;> (try cases ls) <;> rfl, below_drewN HB4.out _⟩
  · as_aux_lemma =>
      go_enter Try.func17, Try.ntmps17
      go_upto_region 9 with (first
        | (go_at_call 18; (with_reducible refine (HBa.out _).mono ?_); rintro e w1 ⟨A1, c1, rfl, ho1, hb1⟩; obtain ⟨g1, rfl, _, hl1, q1, _⟩ := ho1.at hx; have HO1 := Lib.hid ho1; have HB1 := Lib.hid hb1; clear ho1 hb1)
        | (go_at_call 18; (with_reducible refine (HBb.out _).mono ?_); rintro e w2 ⟨A2, c2, rfl, ho2, hb2⟩; obtain ⟨g2, rfl, _, hl2, r2, _⟩ := ho2.at hy; have q2 := (hb2.cell (p := ⟨g1, 63, none⟩) hl1).trans q1; have HA2 := Lib.hid (HO1.out.later hb2).lb; have HC2 := Lib.hid ho2.lb; have HB2 := Lib.hid (HB1.out.trans (hb2.mono HB1.out.size)); have hl12 := Nat.lt_of_lt_of_le hl1 hb2.size; clear ho2 hb2)
        | (go_at_call 19; (with_reducible refine (HNa.out _ _ _ HA2.out).mono ?_); rintro e w3 ⟨rfl, rfl⟩)
        | (go_at_call 19; (with_reducible refine (HNb.out _ _ _ HC2.out).mono ?_); rintro e w3 ⟨rfl, rfl⟩)
        | (go_at_call 43; (with_reducible refine (HLe.out _ _ _ _ _ HA2.out HC2.out).mono ?_); rintro e w4 ⟨rfl, hb4⟩; have q4 := (hb4.cell (p := ⟨g1, 63, none⟩) hl12).trans q2; have r4 := (hb4.cell (p := ⟨g2, 63, none⟩) hl2).trans r2; have HB4 := Lib.hid (HB2.out.trans (hb4.mono HB2.out.size)); clear hb4))
      go_quiet (fail)
      have q5 : (w4.drewN nq).cell? ⟨g1, 63, none⟩ = some (.bool x) := q4
      go_wp2_with (go_at_call 42; (with_reducible refine (truthw _ _).mono ?_); rintro e w9 ⟨rfl, rfl⟩)
      go_ret2
      exact ⟨by (try cases sm) <;> (try cases ls) <;> rfl, below_drewN HB4.out _⟩
set_option maxHeartbeats 8000000 in
theorem comparew8 {w : World} (v u : Nat) (hv : v < 18446744073709551616) (hu : u < 18446744073709551616) :
    Calls Try.prog 17 #[.int .i64 89, .int .u64 v, .int .u64 u] w fun e w' => e = .returned (.tuple #[.int .u64 (cmpL 64 8 (bitsL 64 v) (bitsL 64 u)).toNat, .bool true]) ∧ Below w.heap.size w w' := by
  have HBa := Lib.hid (fun W => bitsw v W hv)
  have HBb := Lib.hid (fun W => bitsw u W hu)
  have na := bitsL_len 64 v
  have nb := bitsL_len 64 u
  obtain ⟨a, ha⟩ : ∃ a, a = bitsL 64 v := ⟨_, rfl⟩
  obtain ⟨b, hb⟩ : ∃ b, b = bitsL 64 u := ⟨_, rfl⟩
  rw [← ha] at HBa na
  rw [← hb] at HBb nb
  unfold Ownw at HBa HBb
  obtain ⟨x, hx⟩ : ∃ x, a[63]? = some x := ⟨_, List.getElem?_eq_getElem (by omega)⟩
  obtain ⟨y, hy⟩ : ∃ y, b[63]? = some y := ⟨_, List.getElem?_eq_getElem (by omega)⟩
  rw [← ha, ← hb]
  have gx : a.getD (64 - 1) false = x := by rw [List.getD_eq_getElem?_getD, show 64 - 1 = 63 from rfl, hx]; rfl
  have gy : b.getD (64 - 1) false = y := by rw [List.getD_eq_getElem?_getD, show 64 - 1 = 63 from rfl, hy]; rfl
  obtain ⟨sm, hsm⟩ : ∃ sm, sm = (numL a == numL b) := ⟨_, rfl⟩
  obtain ⟨ls, hls⟩ : ∃ ls, ls = lessL a b := ⟨_, rfl⟩
  have hc : cmpL 64 8 a b = cmpF 8 sm ls x y := by unfold cmpL; rw [gx, gy, hsm, hls]
  rw [hc]
  have HNa := Lib.hid (fun W A1 c1 (h : LB W A1 a) => numberw (c := c1) h na)
  have HNb := Lib.hid (fun W A1 c1 (h : LB W A1 b) => numberw (c := c1) h nb)
  have HLe := Lib.hid (fun W A1 c1 A2 c2 (h : LB W A1 a) (h2 : LB W A2 b) => lessw (c := c1) (d := c2) h h2 na nb)
  rw [← hls] at HLe
  have ds : ((numL a : Int) == (numL b : Int)) = sm := by rw [hsm]; exact int_beq _ _
  clear ha hb gx gy hc hls hsm
  cases x <;> cases y
  · as_aux_lemma =>
      go_enter Try.func17, Try.ntmps17
      go_upto_region 9 with (first
        | (go_at_call 18; (with_reducible refine (HBa.out _).mono ?_); rintro e w1 ⟨A1, c1, rfl, ho1, hb1⟩; obtain ⟨g1, rfl, _, hl1, q1, _⟩ := ho1.at hx; have HO1 := Lib.hid ho1; have HB1 := Lib.hid hb1; clear ho1 hb1)
        | (go_at_call 18; (with_reducible refine (HBb.out _).mono ?_); rintro e w2 ⟨A2, c2, rfl, ho2, hb2⟩; obtain ⟨g2, rfl, _, hl2, r2, _⟩ := ho2.at hy; have q2 := (hb2.cell (p := ⟨g1, 63, none⟩) hl1).trans q1; have HA2 := Lib.hid (HO1.out.later hb2).lb; have HC2 := Lib.hid ho2.lb; have HB2 := Lib.hid (HB1.out.trans (hb2.mono HB1.out.size)); have hl12 := Nat.lt_of_lt_of_le hl1 hb2.size; clear ho2 hb2)
        | (go_at_call 19; (with_reducible refine (HNa.out _ _ _ HA2.out).mono ?_); rintro e w3 ⟨rfl, rfl⟩)
        | (go_at_call 19; (with_reducible refine (HNb.out _ _ _ HC2.out).mono ?_); rintro e w3 ⟨rfl, rfl⟩)
        | (go_at_call 43; (with_reducible refine (HLe.out _ _ _ _ _ HA2.out HC2.out).mono ?_); rintro e w4 ⟨rfl, hb4⟩; have q4 := (hb4.cell (p := ⟨g1, 63, none⟩) hl12).trans q2; have r4 := (hb4.cell (p := ⟨g2, 63, none⟩) hl2).trans r2; have HB4 := Lib.hid (HB2.out.trans (hb4.mono HB2.out.size)); clear hb4))
      go_quiet (fail)
      have q5 : (w4.drewN nq).cell? ⟨g1, 63, none⟩ = some (.bool false) := q4
      go_wp2_with (go_at_call 42; (with_reducible refine (truthw _ _).mono ?_); rintro e w9 ⟨rfl, rfl⟩)
      go_ret2
      exact ⟨by (try cases sm) <;> (try cases ls) <;> rfl, below_drewN HB4.out _⟩
  · as_aux_lemma =>
      go_enter Try.func17, Try.ntmps17
      go_upto_region 9 with (first
        | (go_at_call 18; (with_reducible refine (HBa.out _).mono ?_); rintro e w1 ⟨A1, c1, rfl, ho1, hb1⟩; obtain ⟨g1, rfl, _, hl1, q1, _⟩ := ho1.at hx; have HO1 := Lib.hid ho1; have HB1 := Lib.hid hb1; clear ho1 hb1)
        | (go_at_call 18; (with_reducible refine (HBb.out _).mono ?_); rintro e w2 ⟨A2, c2, rfl, ho2, hb2⟩; obtain ⟨g2, rfl, _, hl2, r2, _⟩ := ho2.at hy; have q2 := (hb2.cell (p := ⟨g1, 63, none⟩) hl1).trans q1; have HA2 := Lib.hid (HO1.out.later hb2).lb; have HC2 := Lib.hid ho2.lb; have HB2 := Lib.hid (HB1.out.trans (hb2.mono HB1.out.size)); have hl12 := Nat.lt_of_lt_of_le hl1 hb2.size; clear ho2 hb2)
        | (go_at_call 19; (with_reducible refine (HNa.out _ _ _ HA2.out).mono ?_); rintro e w3 ⟨rfl, rfl⟩)
        | (go_at_call 19; (with_reducible refine (HNb.out _ _ _ HC2.out).mono ?_); rintro e w3 ⟨rfl, rfl⟩)
        | (go_at_call 43; (with_reducible refine (HLe.out _ _ _ _ _ HA2.out HC2.out).mono ?_); rintro e w4 ⟨rfl, hb4⟩; have q4 := (hb4.cell (p := ⟨g1, 63, none⟩) hl12).trans q2; have r4 := (hb4.cell (p := ⟨g2, 63, none⟩) hl2).trans r2; have HB4 := Lib.hid (HB2.out.trans (hb4.mono HB2.out.size)); clear hb4))
      go_quiet (fail)
      have q5 : (w4.drewN nq).cell? ⟨g1, 63, none⟩ = some (.bool false) := q4
      go_wp2_with (go_at_call 42; (with_reducible refine (truthw _ _).mono ?_); rintro e w9 ⟨rfl, rfl⟩)
      go_ret2
      exact ⟨by (try cases sm) <;> (try cases ls) <;> rfl, below_drewN HB4.out _⟩
  · as_aux_lemma =>
      go_enter Try.func17, Try.ntmps17
      go_upto_region 9 with (first
        | (go_at_call 18; (with_reducible refine (HBa.out _).mono ?_); rintro e w1 ⟨A1, c1, rfl, ho1, hb1⟩; obtain ⟨g1, rfl, _, hl1, q1, _⟩ := ho1.at hx; have HO1 := Lib.hid ho1; have HB1 := Lib.hid hb1; clear ho1 hb1)
        | (go_at_call 18; (with_reducible refine (HBb.out _).mono ?_); rintro e w2 ⟨A2, c2, rfl, ho2, hb2⟩; obtain ⟨g2, rfl, _, hl2, r2, _⟩ := ho2.at hy; have q2 := (hb2.cell (p := ⟨g1, 63, none⟩) hl1).trans q1; have HA2 := Lib.hid (HO1.out.later hb2).lb; have HC2 := Lib.hid ho2.lb; have HB2 := Lib.hid (HB1.out.trans (hb2.mono HB1.out.size)); have hl12 := Nat.lt_of_lt_of_le hl1 hb2.size; clear ho2 hb2)
        | (go_at_call 19; (with_reducible refine (HNa.out _ _ _ HA2.out).mono ?_); rintro e w3 ⟨rfl, rfl⟩)
        | (go_at_call 19; (with_reducible refine (HNb.out _ _ _ HC2.out).mono ?_); rintro e w3 ⟨rfl, rfl⟩)
        | (go_at_call 43; (with_reducible refine (HLe.out _ _ _ _ _ HA2.out HC2.out).mono ?_); rintro e w4 ⟨rfl, hb4⟩; have q4 := (hb4.cell (p := ⟨g1, 63, none⟩) hl12).trans q2; have r4 := (hb4.cell (p := ⟨g2, 63, none⟩) hl2).trans r2; have HB4 := Lib.hid (HB2.out.trans (hb4.mono HB2.out.size)); clear hb4))
      go_quiet (fail)
      have q5 : (w4.drewN nq).cell? ⟨g1, 63, none⟩ = some (.bool true) := q4
      go_wp2_with (go_at_call 42; (with_reducible refine (truthw _ _).mono ?_); rintro e w9 ⟨rfl, rfl⟩)
      go_ret2
      exact ⟨by (try cases sm) <;> (try cases ls) <;> rfl, below_drewN HB4.out _⟩
  · as_aux_lemma =>
      go_enter Try.func17, Try.ntmps17
      go_upto_region 9 with (first
        | (go_at_call 18; (with_reducible refine (HBa.out _).mono ?_); rintro e w1 ⟨A1, c1, rfl, ho1, hb1⟩; obtain ⟨g1, rfl, _, hl1, q1, _⟩ := ho1.at hx; have HO1 := Lib.hid ho1; have HB1 := Lib.hid hb1; clear ho1 hb1)
        | (go_at_call 18; (with_reducible refine (HBb.out _).mono ?_); rintro e w2 ⟨A2, c2, rfl, ho2, hb2⟩; obtain ⟨g2, rfl, _, hl2, r2, _⟩ := ho2.at hy; have q2 := (hb2.cell (p := ⟨g1, 63, none⟩) hl1).trans q1; have HA2 := Lib.hid (HO1.out.later hb2).lb; have HC2 := Lib.hid ho2.lb; have HB2 := Lib.hid (HB1.out.trans (hb2.mono HB1.out.size)); have hl12 := Nat.lt_of_lt_of_le hl1 hb2.size; clear ho2 hb2)
        | (go_at_call 19; (with_reducible refine (HNa.out _ _ _ HA2.out).mono ?_); rintro e w3 ⟨rfl, rfl⟩)
        | (go_at_call 19; (with_reducible refine (HNb.out _ _ _ HC2.out).mono ?_); rintro e w3 ⟨rfl, rfl⟩)
        | (go_at_call 43; (with_reducible refine (HLe.out _ _ _ _ _ HA2.out HC2.out).mono ?_); rintro e w4 ⟨rfl, hb4⟩; have q4 := (hb4.cell (p := ⟨g1, 63, none⟩) hl12).trans q2; have r4 := (hb4.cell (p := ⟨g2, 63, none⟩) hl2).trans r2; have HB4 := Lib.hid (HB2.out.trans (hb4.mono HB2.out.size)); clear hb4))
      go_quiet (fail)
      have q5 : (w4.drewN nq).cell? ⟨g1, 63, none⟩ = some (.bool true) := q4
      go_wp2_with (go_at_call 42; (with_reducible refine (truthw _ _).mono ?_); rintro e w9 ⟨rfl, rfl⟩)
      go_ret2
      exact ⟨by (try cases sm) <;> (try cases ls) <;> rfl, below_drewN HB4.out _⟩
set_option maxHeartbeats 8000000 in
theorem comparew9 {w : World} (v u : Nat) (hv : v < 18446744073709551616) (hu : u < 18446744073709551616) :
    Calls Try.prog 17 #[.int .i64 90, .int .u64 v, .int .u64 u] w fun e w' => e = .returned (.tuple #[.int .u64 (cmpL 64 9 (bitsL 64 v) (bitsL 64 u)).toNat, .bool true]) ∧ Below w.heap.size w w' := by
  have HBa := Lib.hid (fun W => bitsw v W hv)
  have HBb := Lib.hid (fun W => bitsw u W hu)
  have na := bitsL_len 64 v
  have nb := bitsL_len 64 u
  obtain ⟨a, ha⟩ : ∃ a, a = bitsL 64 v := ⟨_, rfl⟩
  obtain ⟨b, hb⟩ : ∃ b, b = bitsL 64 u := ⟨_, rfl⟩
  rw [← ha] at HBa na
  rw [← hb] at HBb nb
  unfold Ownw at HBa HBb
  obtain ⟨x, hx⟩ : ∃ x, a[63]? = some x := ⟨_, List.getElem?_eq_getElem (by omega)⟩
  obtain ⟨y, hy⟩ : ∃ y, b[63]? = some y := ⟨_, List.getElem?_eq_getElem (by omega)⟩
  rw [← ha, ← hb]
  have gx : a.getD (64 - 1) false = x := by rw [List.getD_eq_getElem?_getD, show 64 - 1 = 63 from rfl, hx]; rfl
  have gy : b.getD (64 - 1) false = y := by rw [List.getD_eq_getElem?_getD, show 64 - 1 = 63 from rfl, hy]; rfl
  obtain ⟨sm, hsm⟩ : ∃ sm, sm = (numL a == numL b) := ⟨_, rfl⟩
  obtain ⟨ls, hls⟩ : ∃ ls, ls = lessL a b := ⟨_, rfl⟩
  have hc : cmpL 64 9 a b = cmpF 9 sm ls x y := by unfold cmpL; rw [gx, gy, hsm, hls]
  rw [hc]
  have HNa := Lib.hid (fun W A1 c1 (h : LB W A1 a) => numberw (c := c1) h na)
  have HNb := Lib.hid (fun W A1 c1 (h : LB W A1 b) => numberw (c := c1) h nb)
  have HLe := Lib.hid (fun W A1 c1 A2 c2 (h : LB W A1 a) (h2 : LB W A2 b) => lessw (c := c1) (d := c2) h h2 na nb)
  rw [← hls] at HLe
  have ds : ((numL a : Int) == (numL b : Int)) = sm := by rw [hsm]; exact int_beq _ _
  clear ha hb gx gy hc hls hsm
  · as_aux_lemma =>
      go_enter Try.func17, Try.ntmps17
      go_upto_region 9 with (first
        | (go_at_call 18; (with_reducible refine (HBa.out _).mono ?_); rintro e w1 ⟨A1, c1, rfl, ho1, hb1⟩; obtain ⟨g1, rfl, _, hl1, q1, _⟩ := ho1.at hx; have HO1 := Lib.hid ho1; have HB1 := Lib.hid hb1; clear ho1 hb1)
        | (go_at_call 18; (with_reducible refine (HBb.out _).mono ?_); rintro e w2 ⟨A2, c2, rfl, ho2, hb2⟩; obtain ⟨g2, rfl, _, hl2, r2, _⟩ := ho2.at hy; have q2 := (hb2.cell (p := ⟨g1, 63, none⟩) hl1).trans q1; have HA2 := Lib.hid (HO1.out.later hb2).lb; have HC2 := Lib.hid ho2.lb; have HB2 := Lib.hid (HB1.out.trans (hb2.mono HB1.out.size)); have hl12 := Nat.lt_of_lt_of_le hl1 hb2.size; clear ho2 hb2)
        | (go_at_call 19; (with_reducible refine (HNa.out _ _ _ HA2.out).mono ?_); rintro e w3 ⟨rfl, rfl⟩)
        | (go_at_call 19; (with_reducible refine (HNb.out _ _ _ HC2.out).mono ?_); rintro e w3 ⟨rfl, rfl⟩)
        | (go_at_call 43; (with_reducible refine (HLe.out _ _ _ _ _ HA2.out HC2.out).mono ?_); rintro e w4 ⟨rfl, hb4⟩; have q4 := (hb4.cell (p := ⟨g1, 63, none⟩) hl12).trans q2; have r4 := (hb4.cell (p := ⟨g2, 63, none⟩) hl2).trans r2; have HB4 := Lib.hid (HB2.out.trans (hb4.mono HB2.out.size)); clear hb4))
      go_quiet (fail)
      have q5 : (w4.drewN nq).cell? ⟨g1, 63, none⟩ = some (.bool x) := q4
      go_wp2_with (go_at_call 42; (with_reducible refine (truthw _ _).mono ?_); rintro e w9 ⟨rfl, rfl⟩)
      go_ret2
      exact ⟨by (try cases sm) <;> (try cases ls) <;> rfl, below_drewN HB4.out _⟩
end Go.Proofs.Ytjgdfajooccalaa
