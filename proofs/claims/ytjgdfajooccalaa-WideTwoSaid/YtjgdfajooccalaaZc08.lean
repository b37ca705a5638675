/- Two of creelref19. (By gen/genBt.py.) -/
import Derived.Test.YtjgdfajooccalaaZc06
import Derived.Test.YtjgdfajooccalaaZc07
namespace Go.Proofs.Ytjgdfajooccalaa
open Go.RowKit
set_option linter.unusedVariables false
set_option maxRecDepth 100000

theorem twoCmpw {w : World} (op : Int) (v u x : Nat) (hC : Calls Try.prog 17 #[.int .i64 op, .int .u64 v, .int .u64 u] w fun e w' => e = .returned (.tuple #[.int .u64 x, .bool true]) ∧ Below w.heap.size w w') :
    Calls Try.prog 9 #[.int .i64 op, .int .u64 v, .int .u64 u] w fun e w' => e = .returned (.tuple #[.int .u64 x, .int .i64 0]) ∧ Below w.heap.size w w' := by
  have HC := Lib.hid hC
  clear hC
  go_enter Try.func9, Try.ntmps9
  go_wp2_with (go_at_call 17; (with_reducible refine HC.out.mono ?_); rintro e w1 ⟨rfl, hb1⟩; have HB1 := Lib.hid hb1; clear hb1)
  go_ret2
  exact ⟨rfl, HB1.out⟩
theorem twoNow {w : World} (op : Int) (v u : Nat) (hv : v < 18446744073709551616) (hu : u < 18446744073709551616) (h0 : 0 ≤ op) (h1 : op ≤ 255) (hc : op < 81 ∨ 90 < op) (h : op < 124 ∨ 138 < op) :
    Calls Try.prog 9 #[.int .i64 op, .int .u64 v, .int .u64 u] w fun e w' => e = .returned (.tuple #[.int .u64 0, .int .i64 9]) ∧ Below w.heap.size w w' := by
  have HBa := Lib.hid (fun W => bitsw v W hv)
  have HBb := Lib.hid (fun W => bitsw u W hu)
  have na := bitsL_len 64 v
  have nb := bitsL_len 64 u
  obtain ⟨a, ha⟩ : ∃ a, a = bitsL 64 v := ⟨_, rfl⟩
  obtain ⟨b, hb⟩ : ∃ b, b = bitsL 64 u := ⟨_, rfl⟩
  rw [← ha] at HBa na
  rw [← hb] at HBb nb
  unfold Ownw at HBa HBb
  have HNb := Lib.hid (fun W A1 c1 (h : LB W A1 b) => numberw (c := c1) h nb)
  obtain ⟨x, hx⟩ : ∃ x, a[63]? = some x := ⟨_, List.getElem?_eq_getElem (by omega)⟩
  obtain ⟨q, hq⟩ : ∃ q, q = numL b % 64 := ⟨_, rfl⟩
  have hqn : q < 64 := by omega
  have e1 : ((numL b : Nat) : Int) % 64 = (q : Int) := by omega
  have e2 : wrap64 (q : Int) = q := by unfold wrap64; omega
  have e3 : IntKind.i64.wrap (q : Int) = q := by simp only [IntKind.wrap, IntKind.bits, IntKind.signed]; simp; omega
  have e4 : wrap64 (-(q : Int)) = -(q : Int) := by unfold wrap64; omega
  have e5 : IntKind.i64.wrap (-(q : Int)) = -(q : Int) := by simp only [IntKind.wrap, IntKind.bits, IntKind.signed]; simp; omega
  have HCm := Lib.hid (compareNow (w := w) op v u hv hu h0 h1 (by omega))
  clear ha hb hq
  by_cases h2 : op < 124
  · have d1 : decide (op - 121 - 3 < 0) = true := decide_eq_true (by omega)
    go_enter Try.func9, Try.ntmps9
    go_wp2_with (first
      | (go_at_call 17; (with_reducible refine HCm.out.mono ?_); rintro e w0 ⟨rfl, hb0⟩; have HB0 := Lib.hid hb0; clear hb0)
      | (go_at_call 18; (with_reducible refine (HBa.out _).mono ?_); rintro e w1 ⟨A1, c1, rfl, ho1, hb1⟩; obtain ⟨g1, rfl, _, hl1, q1, _⟩ := ho1.at hx; have HO1 := Lib.hid ho1; have HB1 := Lib.hid (HB0.out.trans (hb1.mono HB0.out.size)); clear ho1 hb1)
      | (go_at_call 18; (with_reducible refine (HBb.out _).mono ?_); rintro e w2 ⟨A2, c2, rfl, ho2, hb2⟩; have q2 := (hb2.cell (p := ⟨g1, 63, none⟩) hl1).trans q1; have HA2 := Lib.hid (HO1.out.later hb2).lb; have HC2 := Lib.hid ho2.lb; have HB2 := Lib.hid (HB1.out.trans (hb2.mono HB1.out.size)); clear ho2 hb2)
      | (go_at_call 19; (with_reducible refine (HNb.out _ _ _ HC2.out).mono ?_); rintro e w3 ⟨rfl, rfl⟩))
    go_ret2
    exact ⟨rfl, HB2.out⟩
  · have d1 : decide (op - 121 - 3 < 0) = false := decide_eq_false (by omega)
    have d2 : decide (14 < op - 121 - 3) = true := decide_eq_true (by omega)
    go_enter Try.func9, Try.ntmps9
    go_wp2_with (first
      | (go_at_call 17; (with_reducible refine HCm.out.mono ?_); rintro e w0 ⟨rfl, hb0⟩; have HB0 := Lib.hid hb0; clear hb0)
      | (go_at_call 18; (with_reducible refine (HBa.out _).mono ?_); rintro e w1 ⟨A1, c1, rfl, ho1, hb1⟩; obtain ⟨g1, rfl, _, hl1, q1, _⟩ := ho1.at hx; have HO1 := Lib.hid ho1; have HB1 := Lib.hid (HB0.out.trans (hb1.mono HB0.out.size)); clear ho1 hb1)
      | (go_at_call 18; (with_reducible refine (HBb.out _).mono ?_); rintro e w2 ⟨A2, c2, rfl, ho2, hb2⟩; have q2 := (hb2.cell (p := ⟨g1, 63, none⟩) hl1).trans q1; have HA2 := Lib.hid (HO1.out.later hb2).lb; have HC2 := Lib.hid ho2.lb; have HB2 := Lib.hid (HB1.out.trans (hb2.mono HB1.out.size)); clear ho2 hb2)
      | (go_at_call 19; (with_reducible refine (HNb.out _ _ _ HC2.out).mono ?_); rintro e w3 ⟨rfl, rfl⟩))
    go_ret2
    exact ⟨rfl, HB2.out⟩
set_option maxHeartbeats 2000000 in
theorem twow0 {w : World} (v u : Nat) (hv : v < 18446744073709551616) (hu : u < 18446744073709551616) :
    Calls Try.prog 9 #[.int .i64 124, .int .u64 v, .int .u64 u] w fun e w' => e = .returned (.tuple #[.int .u64 (numL (addL (bitsL 64 v) (bitsL 64 u) false)), .int .i64 0]) ∧ Below w.heap.size w w' := by
  have HBa := Lib.hid (fun W => bitsw v W hv)
  have HBb := Lib.hid (fun W => bitsw u W hu)
  have na := bitsL_len 64 v
  have nb := bitsL_len 64 u
  obtain ⟨a, ha⟩ : ∃ a, a = bitsL 64 v := ⟨_, rfl⟩
  obtain ⟨b, hb⟩ : ∃ b, b = bitsL 64 u := ⟨_, rfl⟩
  rw [← ha] at HBa na
  rw [← hb] at HBb nb
  unfold Ownw at HBa HBb
  have HNb := Lib.hid (fun W A1 c1 (h : LB W A1 b) => numberw (c := c1) h nb)
  obtain ⟨x, hx⟩ : ∃ x, a[63]? = some x := ⟨_, List.getElem?_eq_getElem (by omega)⟩
  obtain ⟨q, hq⟩ : ∃ q, q = numL b % 64 := ⟨_, rfl⟩
  have hqn : q < 64 := by omega
  have e1 : ((numL b : Nat) : Int) % 64 = (q : Int) := by omega
  have e2 : wrap64 (q : Int) = q := by unfold wrap64; omega
  have e3 : IntKind.i64.wrap (q : Int) = q := by simp only [IntKind.wrap, IntKind.bits, IntKind.signed]; simp; omega
  have e4 : wrap64 (-(q : Int)) = -(q : Int) := by unfold wrap64; omega
  have e5 : IntKind.i64.wrap (-(q : Int)) = -(q : Int) := by simp only [IntKind.wrap, IntKind.bits, IntKind.signed]; simp; omega
  have HCm := Lib.hid (compareNow (w := w) 124 v u hv hu (by omega) (by omega) (by omega))
  rw [← ha, ← hb]
  have hnl : (notL b).length = 64 := by rw [notL_len]; exact nb
  obtain ⟨r, hr⟩ : ∃ r, r = addL a b false := ⟨_, rfl⟩
  have hrl : r.length = 64 := by rw [hr]; exact (by rw [addL_len _ _ _ (by omega)]; exact na)
  rw [← hr]
  have HRr := Lib.hid hr
  have HNf := Lib.hid (fun W A1 c1 (h : LB W A1 r) => numberw (c := c1) h hrl)
  clear ha hb hq hr
  go_enter Try.func9, Try.ntmps9
  go_wp2_with (first
    | (go_at_call 17; (with_reducible refine HCm.out.mono ?_); rintro e w0 ⟨rfl, hb0⟩; have HB0 := Lib.hid hb0; clear hb0)
    | (go_at_call 18; (with_reducible refine (HBa.out _).mono ?_); rintro e w1 ⟨A1, c1, rfl, ho1, hb1⟩; obtain ⟨g1, rfl, _, hl1, q1, _⟩ := ho1.at hx; have HO1 := Lib.hid ho1; have HB1 := Lib.hid (HB0.out.trans (hb1.mono HB0.out.size)); clear ho1 hb1)
    | (go_at_call 18; (with_reducible refine (HBb.out _).mono ?_); rintro e w2 ⟨A2, c2, rfl, ho2, hb2⟩; have q2 := (hb2.cell (p := ⟨g1, 63, none⟩) hl1).trans q1; have HA2 := Lib.hid (HO1.out.later hb2).lb; have HC2 := Lib.hid ho2.lb; have HB2 := Lib.hid (HB1.out.trans (hb2.mono HB1.out.size)); clear ho2 hb2)
    | (go_at_call 19; (with_reducible refine (HNb.out _ _ _ HC2.out).mono ?_); rintro e w3 ⟨rfl, rfl⟩)
    | (go_at_call 20; (with_reducible refine (addw HA2.out HC2.out na nb false).mono ?_); rintro e w4 ⟨A4, c4, rfl, ho4, hb4⟩; rw [← HRr.out] at ho4; have HO4 := Lib.hid ho4.lb; have HB4 := Lib.hid (HB2.out.trans (hb4.mono HB2.out.size)); clear ho4 hb4)
    | (go_at_call 19; (with_reducible refine (HNf.out _ _ _ HO4.out).mono ?_); rintro e w9 ⟨rfl, rfl⟩))
  go_ret2
  exact ⟨rfl, HB4.out⟩
set_option maxHeartbeats 2000000 in
theorem twow1 {w : World} (v u : Nat) (hv : v < 18446744073709551616) (hu : u < 18446744073709551616) :
    Calls Try.prog 9 #[.int .i64 125, .int .u64 v, .int .u64 u] w fun e w' => e = .returned (.tuple #[.int .u64 (numL (addL (bitsL 64 v) (notL (bitsL 64 u)) true)), .int .i64 0]) ∧ Below w.heap.size w w' := by
  have HBa := Lib.hid (fun W => bitsw v W hv)
  have HBb := Lib.hid (fun W => bitsw u W hu)
  have na := bitsL_len 64 v
  have nb := bitsL_len 64 u
  obtain ⟨a, ha⟩ : ∃ a, a = bitsL 64 v := ⟨_, rfl⟩
  obtain ⟨b, hb⟩ : ∃ b, b = bitsL 64 u := ⟨_, rfl⟩
  rw [← ha] at HBa na
  rw [← hb] at HBb nb
  unfold Ownw at HBa HBb
  have HNb := Lib.hid (fun W A1 c1 (h : LB W A1 b) => numberw (c := c1) h nb)
  obtain ⟨x, hx⟩ : ∃ x, a[63]? = some x := ⟨_, List.getElem?_eq_getElem (by omega)⟩
  obtain ⟨q, hq⟩ : ∃ q, q = numL b % 64 := ⟨_, rfl⟩
  have hqn : q < 64 := by omega
  have e1 : ((numL b : Nat) : Int) % 64 = (q : Int) := by omega
  have e2 : wrap64 (q : Int) = q := by unfold wrap64; omega
  have e3 : IntKind.i64.wrap (q : Int) = q := by simp only [IntKind.wrap, IntKind.bits, IntKind.signed]; simp; omega
  have e4 : wrap64 (-(q : Int)) = -(q : Int) := by unfold wrap64; omega
  have e5 : IntKind.i64.wrap (-(q : Int)) = -(q : Int) := by simp only [IntKind.wrap, IntKind.bits, IntKind.signed]; simp; omega
  have HCm := Lib.hid (compareNow (w := w) 125 v u hv hu (by omega) (by omega) (by omega))
  rw [← ha, ← hb]
  have hnl : (notL b).length = 64 := by rw [notL_len]; exact nb
  obtain ⟨r, hr⟩ : ∃ r, r = addL a (notL b) true := ⟨_, rfl⟩
  have hrl : r.length = 64 := by rw [hr]; exact (by rw [addL_len _ _ _ (by rw [notL_len]; omega)]; exact na)
  rw [← hr]
  have HRr := Lib.hid hr
  have HNf := Lib.hid (fun W A1 c1 (h : LB W A1 r) => numberw (c := c1) h hrl)
  clear ha hb hq hr
  go_enter Try.func9, Try.ntmps9
  go_wp2_with (first
    | (go_at_call 17; (with_reducible refine HCm.out.mono ?_); rintro e w0 ⟨rfl, hb0⟩; have HB0 := Lib.hid hb0; clear hb0)
    | (go_at_call 18; (with_reducible refine (HBa.out _).mono ?_); rintro e w1 ⟨A1, c1, rfl, ho1, hb1⟩; obtain ⟨g1, rfl, _, hl1, q1, _⟩ := ho1.at hx; have HO1 := Lib.hid ho1; have HB1 := Lib.hid (HB0.out.trans (hb1.mono HB0.out.size)); clear ho1 hb1)
    | (go_at_call 18; (with_reducible refine (HBb.out _).mono ?_); rintro e w2 ⟨A2, c2, rfl, ho2, hb2⟩; have q2 := (hb2.cell (p := ⟨g1, 63, none⟩) hl1).trans q1; have HA2 := Lib.hid (HO1.out.later hb2).lb; have HC2 := Lib.hid ho2.lb; have HB2 := Lib.hid (HB1.out.trans (hb2.mono HB1.out.size)); clear ho2 hb2)
    | (go_at_call 19; (with_reducible refine (HNb.out _ _ _ HC2.out).mono ?_); rintro e w3 ⟨rfl, rfl⟩)
    | (go_at_call 21; (with_reducible refine (notw HC2.out nb).mono ?_); rintro e w3 ⟨A3, c3, rfl, ho3, hb3⟩; have HO3 := Lib.hid ho3.lb; have HA3 := Lib.hid (HA2.out.below hb3); have HB3 := Lib.hid (HB2.out.trans (hb3.mono HB2.out.size)); clear ho3 hb3)
    | (go_at_call 20; (with_reducible refine (addw HA3.out HO3.out na hnl true).mono ?_); rintro e w4 ⟨A4, c4, rfl, ho4, hb4⟩; rw [← HRr.out] at ho4; have HO4 := Lib.hid ho4.lb; have HB4 := Lib.hid (HB3.out.trans (hb4.mono HB3.out.size)); clear ho4 hb4)
    | (go_at_call 19; (with_reducible refine (HNf.out _ _ _ HO4.out).mono ?_); rintro e w9 ⟨rfl, rfl⟩))
  go_ret2
  exact ⟨rfl, HB4.out⟩
set_option maxHeartbeats 2000000 in
theorem twow2 {w : World} (v u : Nat) (hv : v < 18446744073709551616) (hu : u < 18446744073709551616) :
    Calls Try.prog 9 #[.int .i64 126, .int .u64 v, .int .u64 u] w fun e w' => e = .returned (.tuple #[.int .u64 (numL (timesK 64 (bitsL 64 v) (bitsL 64 u) 64)), .int .i64 0]) ∧ Below w.heap.size w w' := by
  have HBa := Lib.hid (fun W => bitsw v W hv)
  have HBb := Lib.hid (fun W => bitsw u W hu)
  have na := bitsL_len 64 v
  have nb := bitsL_len 64 u
  obtain ⟨a, ha⟩ : ∃ a, a = bitsL 64 v := ⟨_, rfl⟩
  obtain ⟨b, hb⟩ : ∃ b, b = bitsL 64 u := ⟨_, rfl⟩
  rw [← ha] at HBa na
  rw [← hb] at HBb nb
  unfold Ownw at HBa HBb
  have HNb := Lib.hid (fun W A1 c1 (h : LB W A1 b) => numberw (c := c1) h nb)
  obtain ⟨x, hx⟩ : ∃ x, a[63]? = some x := ⟨_, List.getElem?_eq_getElem (by omega)⟩
  obtain ⟨q, hq⟩ : ∃ q, q = numL b % 64 := ⟨_, rfl⟩
  have hqn : q < 64 := by omega
  have e1 : ((numL b : Nat) : Int) % 64 = (q : Int) := by omega
  have e2 : wrap64 (q : Int) = q := by unfold wrap64; omega
  have e3 : IntKind.i64.wrap (q : Int) = q := by simp only [IntKind.wrap, IntKind.bits, IntKind.signed]; simp; omega
  have e4 : wrap64 (-(q : Int)) = -(q : Int) := by unfold wrap64; omega
  have e5 : IntKind.i64.wrap (-(q : Int)) = -(q : Int) := by simp only [IntKind.wrap, IntKind.bits, IntKind.signed]; simp; omega
  have HCm := Lib.hid (compareNow (w := w) 126 v u hv hu (by omega) (by omega) (by omega))
  rw [← ha, ← hb]
  have hnl : (notL b).length = 64 := by rw [notL_len]; exact nb
  obtain ⟨r, hr⟩ : ∃ r, r = timesK 64 a b 64 := ⟨_, rfl⟩
  have hrl : r.length = 64 := by rw [hr]; exact (timesK_len _ _ _ _)
  rw [← hr]
  have HRr := Lib.hid hr
  have HNf := Lib.hid (fun W A1 c1 (h : LB W A1 r) => numberw (c := c1) h hrl)
  clear ha hb hq hr
  go_enter Try.func9, Try.ntmps9
  go_wp2_with (first
    | (go_at_call 17; (with_reducible refine HCm.out.mono ?_); rintro e w0 ⟨rfl, hb0⟩; have HB0 := Lib.hid hb0; clear hb0)
    | (go_at_call 18; (with_reducible refine (HBa.out _).mono ?_); rintro e w1 ⟨A1, c1, rfl, ho1, hb1⟩; obtain ⟨g1, rfl, _, hl1, q1, _⟩ := ho1.at hx; have HO1 := Lib.hid ho1; have HB1 := Lib.hid (HB0.out.trans (hb1.mono HB0.out.size)); clear ho1 hb1)
    | (go_at_call 18; (with_reducible refine (HBb.out _).mono ?_); rintro e w2 ⟨A2, c2, rfl, ho2, hb2⟩; have q2 := (hb2.cell (p := ⟨g1, 63, none⟩) hl1).trans q1; have HA2 := Lib.hid (HO1.out.later hb2).lb; have HC2 := Lib.hid ho2.lb; have HB2 := Lib.hid (HB1.out.trans (hb2.mono HB1.out.size)); clear ho2 hb2)
    | (go_at_call 19; (with_reducible refine (HNb.out _ _ _ HC2.out).mono ?_); rintro e w3 ⟨rfl, rfl⟩)
    | (go_at_call 22; (with_reducible refine (timesw HA2.out HC2.out na nb).mono ?_); rintro e w4 ⟨A4, c4, rfl, ho4, hb4⟩; rw [← HRr.out] at ho4; have HO4 := Lib.hid ho4.lb; have HB4 := Lib.hid (HB2.out.trans (hb4.mono HB2.out.size)); clear ho4 hb4)
    | (go_at_call 19; (with_reducible refine (HNf.out _ _ _ HO4.out).mono ?_); rintro e w9 ⟨rfl, rfl⟩))
  go_ret2
  exact ⟨rfl, HB4.out⟩
set_option maxHeartbeats 2000000 in
theorem twow10 {w : World} (v u : Nat) (hv : v < 18446744073709551616) (hu : u < 18446744073709551616) :
    Calls Try.prog 9 #[.int .i64 134, .int .u64 v, .int .u64 u] w fun e w' => e = .returned (.tuple #[.int .u64 (numL (shiftL 64 (bitsL 64 v) ((numL (bitsL 64 u) % 64 : Nat) : Int) false)), .int .i64 0]) ∧ Below w.heap.size w w' := by
  have HBa := Lib.hid (fun W => bitsw v W hv)
  have HBb := Lib.hid (fun W => bitsw u W hu)
  have na := bitsL_len 64 v
  have nb := bitsL_len 64 u
  obtain ⟨a, ha⟩ : ∃ a, a = bitsL 64 v := ⟨_, rfl⟩
  obtain ⟨b, hb⟩ : ∃ b, b = bitsL 64 u := ⟨_, rfl⟩
  rw [← ha] at HBa na
  rw [← hb] at HBb nb
  unfold Ownw at HBa HBb
  have HNb := Lib.hid (fun W A1 c1 (h : LB W A1 b) => numberw (c := c1) h nb)
  obtain ⟨x, hx⟩ : ∃ x, a[63]? = some x := ⟨_, List.getElem?_eq_getElem (by omega)⟩
  obtain ⟨q, hq⟩ : ∃ q, q = numL b % 64 := ⟨_, rfl⟩
  have hqn : q < 64 := by omega
  have e1 : ((numL b : Nat) : Int) % 64 = (q : Int) := by omega
  have e2 : wrap64 (q : Int) = q := by unfold wrap64; omega
  have e3 : IntKind.i64.wrap (q : Int) = q := by simp only [IntKind.wrap, IntKind.bits, IntKind.signed]; simp; omega
  have e4 : wrap64 (-(q : Int)) = -(q : Int) := by unfold wrap64; omega
  have e5 : IntKind.i64.wrap (-(q : Int)) = -(q : Int) := by simp only [IntKind.wrap, IntKind.bits, IntKind.signed]; simp; omega
  have HCm := Lib.hid (compareNow (w := w) 134 v u hv hu (by omega) (by omega) (by omega))
  rw [← ha, ← hb]
  rw [← hq]
  have hnl : (notL b).length = 64 := by rw [notL_len]; exact nb
  obtain ⟨r, hr⟩ : ∃ r, r = shiftL 64 a (q : Int) false := ⟨_, rfl⟩
  have hrl : r.length = 64 := by rw [hr]; exact (shiftL_len _ _ _ _)
  rw [← hr]
  have HRr := Lib.hid hr
  have HNf := Lib.hid (fun W A1 c1 (h : LB W A1 r) => numberw (c := c1) h hrl)
  clear ha hb hq hr
  go_enter Try.func9, Try.ntmps9
  go_wp2_with (first
    | (go_at_call 17; (with_reducible refine HCm.out.mono ?_); rintro e w0 ⟨rfl, hb0⟩; have HB0 := Lib.hid hb0; clear hb0)
    | (go_at_call 18; (with_reducible refine (HBa.out _).mono ?_); rintro e w1 ⟨A1, c1, rfl, ho1, hb1⟩; obtain ⟨g1, rfl, _, hl1, q1, _⟩ := ho1.at hx; have HO1 := Lib.hid ho1; have HB1 := Lib.hid (HB0.out.trans (hb1.mono HB0.out.size)); clear ho1 hb1)
    | (go_at_call 18; (with_reducible refine (HBb.out _).mono ?_); rintro e w2 ⟨A2, c2, rfl, ho2, hb2⟩; have q2 := (hb2.cell (p := ⟨g1, 63, none⟩) hl1).trans q1; have HA2 := Lib.hid (HO1.out.later hb2).lb; have HC2 := Lib.hid ho2.lb; have HB2 := Lib.hid (HB1.out.trans (hb2.mono HB1.out.size)); clear ho2 hb2)
    | (go_at_call 19; (with_reducible refine (HNb.out _ _ _ HC2.out).mono ?_); rintro e w3 ⟨rfl, rfl⟩)
    | (go_at_call 25; (with_reducible refine (shiftw HA2.out na q false (by omega) (by omega)).mono ?_); rintro e w4 ⟨A4, c4, rfl, ho4, hb4⟩; rw [← HRr.out] at ho4; have HO4 := Lib.hid ho4.lb; have HB4 := Lib.hid (HB2.out.trans (hb4.mono HB2.out.size)); clear ho4 hb4)
    | (go_at_call 19; (with_reducible refine (HNf.out _ _ _ HO4.out).mono ?_); rintro e w9 ⟨rfl, rfl⟩))
  go_ret2
  exact ⟨rfl, HB4.out⟩
set_option maxHeartbeats 2000000 in
theorem twow11 {w : World} (v u : Nat) (hv : v < 18446744073709551616) (hu : u < 18446744073709551616) :
    Calls Try.prog 9 #[.int .i64 135, .int .u64 v, .int .u64 u] w fun e w' => e = .returned (.tuple #[.int .u64 (numL (shiftL 64 (bitsL 64 v) (-((numL (bitsL 64 u) % 64 : Nat) : Int)) ((bitsL 64 v).getD (64 - 1) false))), .int .i64 0]) ∧ Below w.heap.size w w' := by
  have HBa := Lib.hid (fun W => bitsw v W hv)
  have HBb := Lib.hid (fun W => bitsw u W hu)
  have na := bitsL_len 64 v
  have nb := bitsL_len 64 u
  obtain ⟨a, ha⟩ : ∃ a, a = bitsL 64 v := ⟨_, rfl⟩
  obtain ⟨b, hb⟩ : ∃ b, b = bitsL 64 u := ⟨_, rfl⟩
  rw [← ha] at HBa na
  rw [← hb] at HBb nb
  unfold Ownw at HBa HBb
  have HNb := Lib.hid (fun W A1 c1 (h : LB W A1 b) => numberw (c := c1) h nb)
  obtain ⟨x, hx⟩ : ∃ x, a[63]? = some x := ⟨_, List.getElem?_eq_getElem (by omega)⟩
  obtain ⟨q, hq⟩ : ∃ q, q = numL b % 64 := ⟨_, rfl⟩
  have hqn : q < 64 := by omega
  have e1 : ((numL b : Nat) : Int) % 64 = (q : Int) := by omega
  have e2 : wrap64 (q : Int) = q := by unfold wrap64; omega
  have e3 : IntKind.i64.wrap (q : Int) = q := by simp only [IntKind.wrap, IntKind.bits, IntKind.signed]; simp; omega
  have e4 : wrap64 (-(q : Int)) = -(q : Int) := by unfold wrap64; omega
  have e5 : IntKind.i64.wrap (-(q : Int)) = -(q : Int) := by simp only [IntKind.wrap, IntKind.bits, IntKind.signed]; simp; omega
  have HCm := Lib.hid (compareNow (w := w) 135 v u hv hu (by omega) (by omega) (by omega))
  rw [← ha, ← hb]
  rw [show a.getD (64 - 1) false = x by rw [List.getD_eq_getElem?_getD, show 64 - 1 = 63 from rfl, hx]; rfl]
  rw [← hq]
  have hnl : (notL b).length = 64 := by rw [notL_len]; exact nb
  obtain ⟨r, hr⟩ : ∃ r, r = shiftL 64 a (-(q : Int)) x := ⟨_, rfl⟩
  have hrl : r.length = 64 := by rw [hr]; exact (shiftL_len _ _ _ _)
  rw [← hr]
  have HRr := Lib.hid hr
  have HNf := Lib.hid (fun W A1 c1 (h : LB W A1 r) => numberw (c := c1) h hrl)
  clear ha hb hq hr
  go_enter Try.func9, Try.ntmps9
  go_wp2_with (first
    | (go_at_call 17; (with_reducible refine HCm.out.mono ?_); rintro e w0 ⟨rfl, hb0⟩; have HB0 := Lib.hid hb0; clear hb0)
    | (go_at_call 18; (with_reducible refine (HBa.out _).mono ?_); rintro e w1 ⟨A1, c1, rfl, ho1, hb1⟩; obtain ⟨g1, rfl, _, hl1, q1, _⟩ := ho1.at hx; have HO1 := Lib.hid ho1; have HB1 := Lib.hid (HB0.out.trans (hb1.mono HB0.out.size)); clear ho1 hb1)
    | (go_at_call 18; (with_reducible refine (HBb.out _).mono ?_); rintro e w2 ⟨A2, c2, rfl, ho2, hb2⟩; have q2 := (hb2.cell (p := ⟨g1, 63, none⟩) hl1).trans q1; have HA2 := Lib.hid (HO1.out.later hb2).lb; have HC2 := Lib.hid ho2.lb; have HB2 := Lib.hid (HB1.out.trans (hb2.mono HB1.out.size)); clear ho2 hb2)
    | (go_at_call 19; (with_reducible refine (HNb.out _ _ _ HC2.out).mono ?_); rintro e w3 ⟨rfl, rfl⟩)
    | (go_at_call 25; (with_reducible refine (shiftw HA2.out na (-(q : Int)) x (by omega) (by omega)).mono ?_); rintro e w4 ⟨A4, c4, rfl, ho4, hb4⟩; rw [← HRr.out] at ho4; have HO4 := Lib.hid ho4.lb; have HB4 := Lib.hid (HB2.out.trans (hb4.mono HB2.out.size)); clear ho4 hb4)
    | (go_at_call 19; (with_reducible refine (HNf.out _ _ _ HO4.out).mono ?_); rintro e w9 ⟨rfl, rfl⟩))
  go_ret2
  exact ⟨rfl, HB4.out⟩
set_option maxHeartbeats 2000000 in
theorem twow12 {w : World} (v u : Nat) (hv : v < 18446744073709551616) (hu : u < 18446744073709551616) :
    Calls Try.prog 9 #[.int .i64 136, .int .u64 v, .int .u64 u] w fun e w' => e = .returned (.tuple #[.int .u64 (numL (shiftL 64 (bitsL 64 v) (-((numL (bitsL 64 u) % 64 : Nat) : Int)) false)), .int .i64 0]) ∧ Below w.heap.size w w' := by
  have HBa := Lib.hid (fun W => bitsw v W hv)
  have HBb := Lib.hid (fun W => bitsw u W hu)
  have na := bitsL_len 64 v
  have nb := bitsL_len 64 u
  obtain ⟨a, ha⟩ : ∃ a, a = bitsL 64 v := ⟨_, rfl⟩
  obtain ⟨b, hb⟩ : ∃ b, b = bitsL 64 u := ⟨_, rfl⟩
  rw [← ha] at HBa na
  rw [← hb] at HBb nb
  unfold Ownw at HBa HBb
  have HNb := Lib.hid (fun W A1 c1 (h : LB W A1 b) => numberw (c := c1) h nb)
  obtain ⟨x, hx⟩ : ∃ x, a[63]? = some x := ⟨_, List.getElem?_eq_getElem (by omega)⟩
  obtain ⟨q, hq⟩ : ∃ q, q = numL b % 64 := ⟨_, rfl⟩
  have hqn : q < 64 := by omega
  have e1 : ((numL b : Nat) : Int) % 64 = (q : Int) := by omega
  have e2 : wrap64 (q : Int) = q := by unfold wrap64; omega
  have e3 : IntKind.i64.wrap (q : Int) = q := by simp only [IntKind.wrap, IntKind.bits, IntKind.signed]; simp; omega
  have e4 : wrap64 (-(q : Int)) = -(q : Int) := by unfold wrap64; omega
  have e5 : IntKind.i64.wrap (-(q : Int)) = -(q : Int) := by simp only [IntKind.wrap, IntKind.bits, IntKind.signed]; simp; omega
  have HCm := Lib.hid (compareNow (w := w) 136 v u hv hu (by omega) (by omega) (by omega))
  rw [← ha, ← hb]
  rw [← hq]
  have hnl : (notL b).length = 64 := by rw [notL_len]; exact nb
  obtain ⟨r, hr⟩ : ∃ r, r = shiftL 64 a (-(q : Int)) false := ⟨_, rfl⟩
  have hrl : r.length = 64 := by rw [hr]; exact (shiftL_len _ _ _ _)
  rw [← hr]
  have HRr := Lib.hid hr
  have HNf := Lib.hid (fun W A1 c1 (h : LB W A1 r) => numberw (c := c1) h hrl)
  clear ha hb hq hr
  go_enter Try.func9, Try.ntmps9
  go_wp2_with (first
    | (go_at_call 17; (with_reducible refine HCm.out.mono ?_); rintro e w0 ⟨rfl, hb0⟩; have HB0 := Lib.hid hb0; clear hb0)
    | (go_at_call 18; (with_reducible refine (HBa.out _).mono ?_); rintro e w1 ⟨A1, c1, rfl, ho1, hb1⟩; obtain ⟨g1, rfl, _, hl1, q1, _⟩ := ho1.at hx; have HO1 := Lib.hid ho1; have HB1 := Lib.hid (HB0.out.trans (hb1.mono HB0.out.size)); clear ho1 hb1)
    | (go_at_call 18; (with_reducible refine (HBb.out _).mono ?_); rintro e w2 ⟨A2, c2, rfl, ho2, hb2⟩; have q2 := (hb2.cell (p := ⟨g1, 63, none⟩) hl1).trans q1; have HA2 := Lib.hid (HO1.out.later hb2).lb; have HC2 := Lib.hid ho2.lb; have HB2 := Lib.hid (HB1.out.trans (hb2.mono HB1.out.size)); clear ho2 hb2)
    | (go_at_call 19; (with_reducible refine (HNb.out _ _ _ HC2.out).mono ?_); rintro e w3 ⟨rfl, rfl⟩)
    | (go_at_call 25; (with_reducible refine (shiftw HA2.out na (-(q : Int)) false (by omega) (by omega)).mono ?_); rintro e w4 ⟨A4, c4, rfl, ho4, hb4⟩; rw [← HRr.out] at ho4; have HO4 := Lib.hid ho4.lb; have HB4 := Lib.hid (HB2.out.trans (hb4.mono HB2.out.size)); clear ho4 hb4)
    | (go_at_call 19; (with_reducible refine (HNf.out _ _ _ HO4.out).mono ?_); rintro e w9 ⟨rfl, rfl⟩))
  go_ret2
  exact ⟨rfl, HB4.out⟩
set_option maxHeartbeats 2000000 in
theorem twow13 {w : World} (v u : Nat) (hv : v < 18446744073709551616) (hu : u < 18446744073709551616) :
    Calls Try.prog 9 #[.int .i64 137, .int .u64 v, .int .u64 u] w fun e w' => e = .returned (.tuple #[.int .u64 (numL (rotL 64 (bitsL 64 v) ((numL (bitsL 64 u) % 64 : Nat) : Int))), .int .i64 0]) ∧ Below w.heap.size w w' := by
  have HBa := Lib.hid (fun W => bitsw v W hv)
  have HBb := Lib.hid (fun W => bitsw u W hu)
  have na := bitsL_len 64 v
  have nb := bitsL_len 64 u
  obtain ⟨a, ha⟩ : ∃ a, a = bitsL 64 v := ⟨_, rfl⟩
  obtain ⟨b, hb⟩ : ∃ b, b = bitsL 64 u := ⟨_, rfl⟩
  rw [← ha] at HBa na
  rw [← hb] at HBb nb
  unfold Ownw at HBa HBb
  have HNb := Lib.hid (fun W A1 c1 (h : LB W A1 b) => numberw (c := c1) h nb)
  obtain ⟨x, hx⟩ : ∃ x, a[63]? = some x := ⟨_, List.getElem?_eq_getElem (by omega)⟩
  obtain ⟨q, hq⟩ : ∃ q, q = numL b % 64 := ⟨_, rfl⟩
  have hqn : q < 64 := by omega
  have e1 : ((numL b : Nat) : Int) % 64 = (q : Int) := by omega
  have e2 : wrap64 (q : Int) = q := by unfold wrap64; omega
  have e3 : IntKind.i64.wrap (q : Int) = q := by simp only [IntKind.wrap, IntKind.bits, IntKind.signed]; simp; omega
  have e4 : wrap64 (-(q : Int)) = -(q : Int) := by unfold wrap64; omega
  have e5 : IntKind.i64.wrap (-(q : Int)) = -(q : Int) := by simp only [IntKind.wrap, IntKind.bits, IntKind.signed]; simp; omega
  have HCm := Lib.hid (compareNow (w := w) 137 v u hv hu (by omega) (by omega) (by omega))
  rw [← ha, ← hb]
  rw [← hq]
  have hnl : (notL b).length = 64 := by rw [notL_len]; exact nb
  obtain ⟨r, hr⟩ : ∃ r, r = rotL 64 a (q : Int) := ⟨_, rfl⟩
  have hrl : r.length = 64 := by rw [hr]; exact (rotL_len _ _ _)
  rw [← hr]
  have HRr := Lib.hid hr
  have HNf := Lib.hid (fun W A1 c1 (h : LB W A1 r) => numberw (c := c1) h hrl)
  clear ha hb hq hr
  go_enter Try.func9, Try.ntmps9
  go_wp2_with (first
    | (go_at_call 17; (with_reducible refine HCm.out.mono ?_); rintro e w0 ⟨rfl, hb0⟩; have HB0 := Lib.hid hb0; clear hb0)
    | (go_at_call 18; (with_reducible refine (HBa.out _).mono ?_); rintro e w1 ⟨A1, c1, rfl, ho1, hb1⟩; obtain ⟨g1, rfl, _, hl1, q1, _⟩ := ho1.at hx; have HO1 := Lib.hid ho1; have HB1 := Lib.hid (HB0.out.trans (hb1.mono HB0.out.size)); clear ho1 hb1)
    | (go_at_call 18; (with_reducible refine (HBb.out _).mono ?_); rintro e w2 ⟨A2, c2, rfl, ho2, hb2⟩; have q2 := (hb2.cell (p := ⟨g1, 63, none⟩) hl1).trans q1; have HA2 := Lib.hid (HO1.out.later hb2).lb; have HC2 := Lib.hid ho2.lb; have HB2 := Lib.hid (HB1.out.trans (hb2.mono HB1.out.size)); clear ho2 hb2)
    | (go_at_call 19; (with_reducible refine (HNb.out _ _ _ HC2.out).mono ?_); rintro e w3 ⟨rfl, rfl⟩)
    | (go_at_call 26; (with_reducible refine (rotatew HA2.out na q (by omega) (by omega)).mono ?_); rintro e w4 ⟨A4, c4, rfl, ho4, hb4⟩; rw [← HRr.out] at ho4; have HO4 := Lib.hid ho4.lb; have HB4 := Lib.hid (HB2.out.trans (hb4.mono HB2.out.size)); clear ho4 hb4)
    | (go_at_call 19; (with_reducible refine (HNf.out _ _ _ HO4.out).mono ?_); rintro e w9 ⟨rfl, rfl⟩))
  go_ret2
  exact ⟨rfl, HB4.out⟩
set_option maxHeartbeats 2000000 in
theorem twow14 {w : World} (v u : Nat) (hv : v < 18446744073709551616) (hu : u < 18446744073709551616) :
    Calls Try.prog 9 #[.int .i64 138, .int .u64 v, .int .u64 u] w fun e w' => e = .returned (.tuple #[.int .u64 (numL (rotL 64 (bitsL 64 v) (-((numL (bitsL 64 u) % 64 : Nat) : Int)))), .int .i64 0]) ∧ Below w.heap.size w w' := by
  have HBa := Lib.hid (fun W => bitsw v W hv)
  have HBb := Lib.hid (fun W => bitsw u W hu)
  have na := bitsL_len 64 v
  have nb := bitsL_len 64 u
  obtain ⟨a, ha⟩ : ∃ a, a = bitsL 64 v := ⟨_, rfl⟩
  obtain ⟨b, hb⟩ : ∃ b, b = bitsL 64 u := ⟨_, rfl⟩
  rw [← ha] at HBa na
  rw [← hb] at HBb nb
  unfold Ownw at HBa HBb
  have HNb := Lib.hid (fun W A1 c1 (h : LB W A1 b) => numberw (c := c1) h nb)
  obtain ⟨x, hx⟩ : ∃ x, a[63]? = some x := ⟨_, List.getElem?_eq_getElem (by omega)⟩
  obtain ⟨q, hq⟩ : ∃ q, q = numL b % 64 := ⟨_, rfl⟩
  have hqn : q < 64 := by omega
  have e1 : ((numL b : Nat) : Int) % 64 = (q : Int) := by omega
  have e2 : wrap64 (q : Int) = q := by unfold wrap64; omega
  have e3 : IntKind.i64.wrap (q : Int) = q := by simp only [IntKind.wrap, IntKind.bits, IntKind.signed]; simp; omega
  have e4 : wrap64 (-(q : Int)) = -(q : Int) := by unfold wrap64; omega
  have e5 : IntKind.i64.wrap (-(q : Int)) = -(q : Int) := by simp only [IntKind.wrap, IntKind.bits, IntKind.signed]; simp; omega
  have HCm := Lib.hid (compareNow (w := w) 138 v u hv hu (by omega) (by omega) (by omega))
  rw [← ha, ← hb]
  rw [← hq]
  have hnl : (notL b).length = 64 := by rw [notL_len]; exact nb
  obtain ⟨r, hr⟩ : ∃ r, r = rotL 64 a (-(q : Int)) := ⟨_, rfl⟩
  have hrl : r.length = 64 := by rw [hr]; exact (rotL_len _ _ _)
  rw [← hr]
  have HRr := Lib.hid hr
  have HNf := Lib.hid (fun W A1 c1 (h : LB W A1 r) => numberw (c := c1) h hrl)
  clear ha hb hq hr
  go_enter Try.func9, Try.ntmps9
  go_wp2_with (first
    | (go_at_call 17; (with_reducible refine HCm.out.mono ?_); rintro e w0 ⟨rfl, hb0⟩; have HB0 := Lib.hid hb0; clear hb0)
    | (go_at_call 18; (with_reducible refine (HBa.out _).mono ?_); rintro e w1 ⟨A1, c1, rfl, ho1, hb1⟩; obtain ⟨g1, rfl, _, hl1, q1, _⟩ := ho1.at hx; have HO1 := Lib.hid ho1; have HB1 := Lib.hid (HB0.out.trans (hb1.mono HB0.out.size)); clear ho1 hb1)
    | (go_at_call 18; (with_reducible refine (HBb.out _).mono ?_); rintro e w2 ⟨A2, c2, rfl, ho2, hb2⟩; have q2 := (hb2.cell (p := ⟨g1, 63, none⟩) hl1).trans q1; have HA2 := Lib.hid (HO1.out.later hb2).lb; have HC2 := Lib.hid ho2.lb; have HB2 := Lib.hid (HB1.out.trans (hb2.mono HB1.out.size)); clear ho2 hb2)
    | (go_at_call 19; (with_reducible refine (HNb.out _ _ _ HC2.out).mono ?_); rintro e w3 ⟨rfl, rfl⟩)
    | (go_at_call 26; (with_reducible refine (rotatew HA2.out na (-(q : Int)) (by omega) (by omega)).mono ?_); rintro e w4 ⟨A4, c4, rfl, ho4, hb4⟩; rw [← HRr.out] at ho4; have HO4 := Lib.hid ho4.lb; have HB4 := Lib.hid (HB2.out.trans (hb4.mono HB2.out.size)); clear ho4 hb4)
    | (go_at_call 19; (with_reducible refine (HNf.out _ _ _ HO4.out).mono ?_); rintro e w9 ⟨rfl, rfl⟩))
  go_ret2
  exact ⟨rfl, HB4.out⟩
set_option maxHeartbeats 2000000 in
theorem twow3 {w : World} (v u : Nat) (hv : v < 18446744073709551616) (hu : u < 18446744073709551616) :
    Calls Try.prog 9 #[.int .i64 127, .int .u64 v, .int .u64 u] w fun e w' => e = .returned (.tuple #[.int .u64 (quoL 64 0 (bitsL 64 v) (bitsL 64 u)).1, .int .i64 (quoL 64 0 (bitsL 64 v) (bitsL 64 u)).2]) ∧ Below w.heap.size w w' := by
  have HBa := Lib.hid (fun W => bitsw v W hv)
  have HBb := Lib.hid (fun W => bitsw u W hu)
  have na := bitsL_len 64 v
  have nb := bitsL_len 64 u
  obtain ⟨a, ha⟩ : ∃ a, a = bitsL 64 v := ⟨_, rfl⟩
  obtain ⟨b, hb⟩ : ∃ b, b = bitsL 64 u := ⟨_, rfl⟩
  rw [← ha] at HBa na
  rw [← hb] at HBb nb
  unfold Ownw at HBa HBb
  have HNb := Lib.hid (fun W A1 c1 (h : LB W A1 b) => numberw (c := c1) h nb)
  obtain ⟨x, hx⟩ : ∃ x, a[63]? = some x := ⟨_, List.getElem?_eq_getElem (by omega)⟩
  obtain ⟨q, hq⟩ : ∃ q, q = numL b % 64 := ⟨_, rfl⟩
  have hqn : q < 64 := by omega
  have e1 : ((numL b : Nat) : Int) % 64 = (q : Int) := by omega
  have e2 : wrap64 (q : Int) = q := by unfold wrap64; omega
  have e3 : IntKind.i64.wrap (q : Int) = q := by simp only [IntKind.wrap, IntKind.bits, IntKind.signed]; simp; omega
  have e4 : wrap64 (-(q : Int)) = -(q : Int) := by unfold wrap64; omega
  have e5 : IntKind.i64.wrap (-(q : Int)) = -(q : Int) := by simp only [IntKind.wrap, IntKind.bits, IntKind.signed]; simp; omega
  have HCm := Lib.hid (compareNow (w := w) 127 v u hv hu (by omega) (by omega) (by omega))
  rw [← ha, ← hb]
  obtain ⟨⟨rv, rz⟩, hr⟩ : ∃ r, r = quoL 64 0 a b := ⟨_, rfl⟩
  have HQ := Lib.hid (fun W A1 c1 A2 c2 (h1 : LB W A1 a) (h2 : LB W A2 b) => show Calls Try.prog 23 #[.int .i64 0, .slice A1 64 c1, .slice A2 64 c2] W (fun e w' => e = .returned (.tuple #[.int .u64 rv, .int .i64 rz]) ∧ Below W.heap.size W w') from by
    have := quotientw (c := c1) (d := c2) 0 (by omega) h1 h2 na nb
    rw [← hr] at this
    exact this)
  rw [← hr]
  clear ha hb hq hr
  go_enter Try.func9, Try.ntmps9
  go_wp2_with (first
    | (go_at_call 17; (with_reducible refine HCm.out.mono ?_); rintro e w0 ⟨rfl, hb0⟩; have HB0 := Lib.hid hb0; clear hb0)
    | (go_at_call 18; (with_reducible refine (HBa.out _).mono ?_); rintro e w1 ⟨A1, c1, rfl, ho1, hb1⟩; obtain ⟨g1, rfl, _, hl1, q1, _⟩ := ho1.at hx; have HO1 := Lib.hid ho1; have HB1 := Lib.hid (HB0.out.trans (hb1.mono HB0.out.size)); clear ho1 hb1)
    | (go_at_call 18; (with_reducible refine (HBb.out _).mono ?_); rintro e w2 ⟨A2, c2, rfl, ho2, hb2⟩; have q2 := (hb2.cell (p := ⟨g1, 63, none⟩) hl1).trans q1; have HA2 := Lib.hid (HO1.out.later hb2).lb; have HC2 := Lib.hid ho2.lb; have HB2 := Lib.hid (HB1.out.trans (hb2.mono HB1.out.size)); clear ho2 hb2)
    | (go_at_call 19; (with_reducible refine (HNb.out _ _ _ HC2.out).mono ?_); rintro e w3 ⟨rfl, rfl⟩)
    | (go_at_call 23; (with_reducible refine (HQ.out _ _ _ _ _ HA2.out HC2.out).mono ?_); rintro e w4 ⟨rfl, hb4⟩; have HB4 := Lib.hid (HB2.out.trans (hb4.mono HB2.out.size)); clear hb4))
  go_ret2
  exact ⟨rfl, HB4.out⟩
set_option maxHeartbeats 2000000 in
theorem twow4 {w : World} (v u : Nat) (hv : v < 18446744073709551616) (hu : u < 18446744073709551616) :
    Calls Try.prog 9 #[.int .i64 128, .int .u64 v, .int .u64 u] w fun e w' => e = .returned (.tuple #[.int .u64 (quoL 64 1 (bitsL 64 v) (bitsL 64 u)).1, .int .i64 (quoL 64 1 (bitsL 64 v) (bitsL 64 u)).2]) ∧ Below w.heap.size w w' := by
  have HBa := Lib.hid (fun W => bitsw v W hv)
  have HBb := Lib.hid (fun W => bitsw u W hu)
  have na := bitsL_len 64 v
  have nb := bitsL_len 64 u
  obtain ⟨a, ha⟩ : ∃ a, a = bitsL 64 v := ⟨_, rfl⟩
  obtain ⟨b, hb⟩ : ∃ b, b = bitsL 64 u := ⟨_, rfl⟩
  rw [← ha] at HBa na
  rw [← hb] at HBb nb
  unfold Ownw at HBa HBb
  have HNb := Lib.hid (fun W A1 c1 (h : LB W A1 b) => numberw (c := c1) h nb)
  obtain ⟨x, hx⟩ : ∃ x, a[63]? = some x := ⟨_, List.getElem?_eq_getElem (by omega)⟩
  obtain ⟨q, hq⟩ : ∃ q, q = numL b % 64 := ⟨_, rfl⟩
  have hqn : q < 64 := by omega
  have e1 : ((numL b : Nat) : Int) % 64 = (q : Int) := by omega
  have e2 : wrap64 (q : Int) = q := by unfold wrap64; omega
  have e3 : IntKind.i64.wrap (q : Int) = q := by simp only [IntKind.wrap, IntKind.bits, IntKind.signed]; simp; omega
  have e4 : wrap64 (-(q : Int)) = -(q : Int) := by unfold wrap64; omega
  have e5 : IntKind.i64.wrap (-(q : Int)) = -(q : Int) := by simp only [IntKind.wrap, IntKind.bits, IntKind.signed]; simp; omega
  have HCm := Lib.hid (compareNow (w := w) 128 v u hv hu (by omega) (by omega) (by omega))
  rw [← ha, ← hb]
  obtain ⟨⟨rv, rz⟩, hr⟩ : ∃ r, r = quoL 64 1 a b := ⟨_, rfl⟩
  have HQ := Lib.hid (fun W A1 c1 A2 c2 (h1 : LB W A1 a) (h2 : LB W A2 b) => show Calls Try.prog 23 #[.int .i64 1, .slice A1 64 c1, .slice A2 64 c2] W (fun e w' => e = .returned (.tuple #[.int .u64 rv, .int .i64 rz]) ∧ Below W.heap.size W w') from by
    have := quotientw (c := c1) (d := c2) 1 (by omega) h1 h2 na nb
    rw [← hr] at this
    exact this)
  rw [← hr]
  clear ha hb hq hr
  go_enter Try.func9, Try.ntmps9
  go_wp2_with (first
    | (go_at_call 17; (with_reducible refine HCm.out.mono ?_); rintro e w0 ⟨rfl, hb0⟩; have HB0 := Lib.hid hb0; clear hb0)
    | (go_at_call 18; (with_reducible refine (HBa.out _).mono ?_); rintro e w1 ⟨A1, c1, rfl, ho1, hb1⟩; obtain ⟨g1, rfl, _, hl1, q1, _⟩ := ho1.at hx; have HO1 := Lib.hid ho1; have HB1 := Lib.hid (HB0.out.trans (hb1.mono HB0.out.size)); clear ho1 hb1)
    | (go_at_call 18; (with_reducible refine (HBb.out _).mono ?_); rintro e w2 ⟨A2, c2, rfl, ho2, hb2⟩; have q2 := (hb2.cell (p := ⟨g1, 63, none⟩) hl1).trans q1; have HA2 := Lib.hid (HO1.out.later hb2).lb; have HC2 := Lib.hid ho2.lb; have HB2 := Lib.hid (HB1.out.trans (hb2.mono HB1.out.size)); clear ho2 hb2)
    | (go_at_call 19; (with_reducible refine (HNb.out _ _ _ HC2.out).mono ?_); rintro e w3 ⟨rfl, rfl⟩)
    | (go_at_call 23; (with_reducible refine (HQ.out _ _ _ _ _ HA2.out HC2.out).mono ?_); rintro e w4 ⟨rfl, hb4⟩; have HB4 := Lib.hid (HB2.out.trans (hb4.mono HB2.out.size)); clear hb4))
  go_ret2
  exact ⟨rfl, HB4.out⟩
set_option maxHeartbeats 2000000 in
theorem twow5 {w : World} (v u : Nat) (hv : v < 18446744073709551616) (hu : u < 18446744073709551616) :
    Calls Try.prog 9 #[.int .i64 129, .int .u64 v, .int .u64 u] w fun e w' => e = .returned (.tuple #[.int .u64 (quoL 64 2 (bitsL 64 v) (bitsL 64 u)).1, .int .i64 (quoL 64 2 (bitsL 64 v) (bitsL 64 u)).2]) ∧ Below w.heap.size w w' := by
  have HBa := Lib.hid (fun W => bitsw v W hv)
  have HBb := Lib.hid (fun W => bitsw u W hu)
  have na := bitsL_len 64 v
  have nb := bitsL_len 64 u
  obtain ⟨a, ha⟩ : ∃ a, a = bitsL 64 v := ⟨_, rfl⟩
  obtain ⟨b, hb⟩ : ∃ b, b = bitsL 64 u := ⟨_, rfl⟩
  rw [← ha] at HBa na
  rw [← hb] at HBb nb
  unfold Ownw at HBa HBb
  have HNb := Lib.hid (fun W A1 c1 (h : LB W A1 b) => numberw (c := c1) h nb)
  obtain ⟨x, hx⟩ : ∃ x, a[63]? = some x := ⟨_, List.getElem?_eq_getElem (by omega)⟩
  obtain ⟨q, hq⟩ : ∃ q, q = numL b % 64 := ⟨_, rfl⟩
  have hqn : q < 64 := by omega
  have e1 : ((numL b : Nat) : Int) % 64 = (q : Int) := by omega
  have e2 : wrap64 (q : Int) = q := by unfold wrap64; omega
  have e3 : IntKind.i64.wrap (q : Int) = q := by simp only [IntKind.wrap, IntKind.bits, IntKind.signed]; simp; omega
  have e4 : wrap64 (-(q : Int)) = -(q : Int) := by unfold wrap64; omega
  have e5 : IntKind.i64.wrap (-(q : Int)) = -(q : Int) := by simp only [IntKind.wrap, IntKind.bits, IntKind.signed]; simp; omega
  have HCm := Lib.hid (compareNow (w := w) 129 v u hv hu (by omega) (by omega) (by omega))
  rw [← ha, ← hb]
  obtain ⟨⟨rv, rz⟩, hr⟩ : ∃ r, r = quoL 64 2 a b := ⟨_, rfl⟩
  have HQ := Lib.hid (fun W A1 c1 A2 c2 (h1 : LB W A1 a) (h2 : LB W A2 b) => show Calls Try.prog 23 #[.int .i64 2, .slice A1 64 c1, .slice A2 64 c2] W (fun e w' => e = .returned (.tuple #[.int .u64 rv, .int .i64 rz]) ∧ Below W.heap.size W w') from by
    have := quotientw (c := c1) (d := c2) 2 (by omega) h1 h2 na nb
    rw [← hr] at this
    exact this)
  rw [← hr]
  clear ha hb hq hr
  go_enter Try.func9, Try.ntmps9
  go_wp2_with (first
    | (go_at_call 17; (with_reducible refine HCm.out.mono ?_); rintro e w0 ⟨rfl, hb0⟩; have HB0 := Lib.hid hb0; clear hb0)
    | (go_at_call 18; (with_reducible refine (HBa.out _).mono ?_); rintro e w1 ⟨A1, c1, rfl, ho1, hb1⟩; obtain ⟨g1, rfl, _, hl1, q1, _⟩ := ho1.at hx; have HO1 := Lib.hid ho1; have HB1 := Lib.hid (HB0.out.trans (hb1.mono HB0.out.size)); clear ho1 hb1)
    | (go_at_call 18; (with_reducible refine (HBb.out _).mono ?_); rintro e w2 ⟨A2, c2, rfl, ho2, hb2⟩; have q2 := (hb2.cell (p := ⟨g1, 63, none⟩) hl1).trans q1; have HA2 := Lib.hid (HO1.out.later hb2).lb; have HC2 := Lib.hid ho2.lb; have HB2 := Lib.hid (HB1.out.trans (hb2.mono HB1.out.size)); clear ho2 hb2)
    | (go_at_call 19; (with_reducible refine (HNb.out _ _ _ HC2.out).mono ?_); rintro e w3 ⟨rfl, rfl⟩)
    | (go_at_call 23; (with_reducible refine (HQ.out _ _ _ _ _ HA2.out HC2.out).mono ?_); rintro e w4 ⟨rfl, hb4⟩; have HB4 := Lib.hid (HB2.out.trans (hb4.mono HB2.out.size)); clear hb4))
  go_ret2
  exact ⟨rfl, HB4.out⟩
set_option maxHeartbeats 2000000 in
theorem twow6 {w : World} (v u : Nat) (hv : v < 18446744073709551616) (hu : u < 18446744073709551616) :
    Calls Try.prog 9 #[.int .i64 130, .int .u64 v, .int .u64 u] w fun e w' => e = .returned (.tuple #[.int .u64 (quoL 64 3 (bitsL 64 v) (bitsL 64 u)).1, .int .i64 (quoL 64 3 (bitsL 64 v) (bitsL 64 u)).2]) ∧ Below w.heap.size w w' := by
  have HBa := Lib.hid (fun W => bitsw v W hv)
  have HBb := Lib.hid (fun W => bitsw u W hu)
  have na := bitsL_len 64 v
  have nb := bitsL_len 64 u
  obtain ⟨a, ha⟩ : ∃ a, a = bitsL 64 v := ⟨_, rfl⟩
  obtain ⟨b, hb⟩ : ∃ b, b = bitsL 64 u := ⟨_, rfl⟩
  rw [← ha] at HBa na
  rw [← hb] at HBb nb
  unfold Ownw at HBa HBb
  have HNb := Lib.hid (fun W A1 c1 (h : LB W A1 b) => numberw (c := c1) h nb)
  obtain ⟨x, hx⟩ : ∃ x, a[63]? = some x := ⟨_, List.getElem?_eq_getElem (by omega)⟩
  obtain ⟨q, hq⟩ : ∃ q, q = numL b % 64 := ⟨_, rfl⟩
  have hqn : q < 64 := by omega
  have e1 : ((numL b : Nat) : Int) % 64 = (q : Int) := by omega
  have e2 : wrap64 (q : Int) = q := by unfold wrap64; omega
  have e3 : IntKind.i64.wrap (q : Int) = q := by simp only [IntKind.wrap, IntKind.bits, IntKind.signed]; simp; omega
  have e4 : wrap64 (-(q : Int)) = -(q : Int) := by unfold wrap64; omega
  have e5 : IntKind.i64.wrap (-(q : Int)) = -(q : Int) := by simp only [IntKind.wrap, IntKind.bits, IntKind.signed]; simp; omega
  have HCm := Lib.hid (compareNow (w := w) 130 v u hv hu (by omega) (by omega) (by omega))
  rw [← ha, ← hb]
  obtain ⟨⟨rv, rz⟩, hr⟩ : ∃ r, r = quoL 64 3 a b := ⟨_, rfl⟩
  have HQ := Lib.hid (fun W A1 c1 A2 c2 (h1 : LB W A1 a) (h2 : LB W A2 b) => show Calls Try.prog 23 #[.int .i64 3, .slice A1 64 c1, .slice A2 64 c2] W (fun e w' => e = .returned (.tuple #[.int .u64 rv, .int .i64 rz]) ∧ Below W.heap.size W w') from by
    have := quotientw (c := c1) (d := c2) 3 (by omega) h1 h2 na nb
    rw [← hr] at this
    exact this)
  rw [← hr]
  clear ha hb hq hr
  go_enter Try.func9, Try.ntmps9
  go_wp2_with (first
    | (go_at_call 17; (with_reducible refine HCm.out.mono ?_); rintro e w0 ⟨rfl, hb0⟩; have HB0 := Lib.hid hb0; clear hb0)
    | (go_at_call 18; (with_reducible refine (HBa.out _).mono ?_); rintro e w1 ⟨A1, c1, rfl, ho1, hb1⟩; obtain ⟨g1, rfl, _, hl1, q1, _⟩ := ho1.at hx; have HO1 := Lib.hid ho1; have HB1 := Lib.hid (HB0.out.trans (hb1.mono HB0.out.size)); clear ho1 hb1)
    | (go_at_call 18; (with_reducible refine (HBb.out _).mono ?_); rintro e w2 ⟨A2, c2, rfl, ho2, hb2⟩; have q2 := (hb2.cell (p := ⟨g1, 63, none⟩) hl1).trans q1; have HA2 := Lib.hid (HO1.out.later hb2).lb; have HC2 := Lib.hid ho2.lb; have HB2 := Lib.hid (HB1.out.trans (hb2.mono HB1.out.size)); clear ho2 hb2)
    | (go_at_call 19; (with_reducible refine (HNb.out _ _ _ HC2.out).mono ?_); rintro e w3 ⟨rfl, rfl⟩)
    | (go_at_call 23; (with_reducible refine (HQ.out _ _ _ _ _ HA2.out HC2.out).mono ?_); rintro e w4 ⟨rfl, hb4⟩; have HB4 := Lib.hid (HB2.out.trans (hb4.mono HB2.out.size)); clear hb4))
  go_ret2
  exact ⟨rfl, HB4.out⟩
set_option maxHeartbeats 2000000 in
theorem twow7 {w : World} (v u : Nat) (hv : v < 18446744073709551616) (hu : u < 18446744073709551616) :
    Calls Try.prog 9 #[.int .i64 131, .int .u64 v, .int .u64 u] w fun e w' => e = .returned (.tuple #[.int .u64 (numL (bopL 0 (bitsL 64 v) (bitsL 64 u))), .int .i64 0]) ∧ Below w.heap.size w w' := by
  have HBa := Lib.hid (fun W => bitsw v W hv)
  have HBb := Lib.hid (fun W => bitsw u W hu)
  have na := bitsL_len 64 v
  have nb := bitsL_len 64 u
  obtain ⟨a, ha⟩ : ∃ a, a = bitsL 64 v := ⟨_, rfl⟩
  obtain ⟨b, hb⟩ : ∃ b, b = bitsL 64 u := ⟨_, rfl⟩
  rw [← ha] at HBa na
  rw [← hb] at HBb nb
  unfold Ownw at HBa HBb
  have HNb := Lib.hid (fun W A1 c1 (h : LB W A1 b) => numberw (c := c1) h nb)
  obtain ⟨x, hx⟩ : ∃ x, a[63]? = some x := ⟨_, List.getElem?_eq_getElem (by omega)⟩
  obtain ⟨q, hq⟩ : ∃ q, q = numL b % 64 := ⟨_, rfl⟩
  have hqn : q < 64 := by omega
  have e1 : ((numL b : Nat) : Int) % 64 = (q : Int) := by omega
  have e2 : wrap64 (q : Int) = q := by unfold wrap64; omega
  have e3 : IntKind.i64.wrap (q : Int) = q := by simp only [IntKind.wrap, IntKind.bits, IntKind.signed]; simp; omega
  have e4 : wrap64 (-(q : Int)) = -(q : Int) := by unfold wrap64; omega
  have e5 : IntKind.i64.wrap (-(q : Int)) = -(q : Int) := by simp only [IntKind.wrap, IntKind.bits, IntKind.signed]; simp; omega
  have HCm := Lib.hid (compareNow (w := w) 131 v u hv hu (by omega) (by omega) (by omega))
  rw [← ha, ← hb]
  clear ha hb hq
  go_enter Try.func9, Try.ntmps9
  go_wp2_with (first
    | (go_at_call 17; (with_reducible refine HCm.out.mono ?_); rintro e w0 ⟨rfl, hb0⟩; have HB0 := Lib.hid hb0; clear hb0)
    | (go_at_call 18; (with_reducible refine (HBa.out _).mono ?_); rintro e w1 ⟨A1, c1, rfl, ho1, hb1⟩; obtain ⟨g1, rfl, _, hl1, q1, _⟩ := ho1.at hx; have HO1 := Lib.hid ho1; have HB1 := Lib.hid (HB0.out.trans (hb1.mono HB0.out.size)); clear ho1 hb1)
    | (go_at_call 18; (with_reducible refine (HBb.out _).mono ?_); rintro e w2 ⟨A2, c2, rfl, ho2, hb2⟩; have q2 := (hb2.cell (p := ⟨g1, 63, none⟩) hl1).trans q1; have HA2 := Lib.hid (HO1.out.later hb2).lb; have HC2 := Lib.hid ho2.lb; have HB2 := Lib.hid (HB1.out.trans (hb2.mono HB1.out.size)); clear ho2 hb2)
    | (go_at_call 19; (with_reducible refine (HNb.out _ _ _ HC2.out).mono ?_); rintro e w3 ⟨rfl, rfl⟩)
    | (go_at_call 24; (with_reducible refine (bitw0 HA2.out HC2.out na nb).mono ?_); rintro e w4 ⟨rfl, hb4⟩; have HB4 := Lib.hid (HB2.out.trans (hb4.mono HB2.out.size)); clear hb4))
  go_ret2
  exact ⟨rfl, HB4.out⟩
set_option maxHeartbeats 2000000 in
theorem twow8 {w : World} (v u : Nat) (hv : v < 18446744073709551616) (hu : u < 18446744073709551616) :
    Calls Try.prog 9 #[.int .i64 132, .int .u64 v, .int .u64 u] w fun e w' => e = .returned (.tuple #[.int .u64 (numL (bopL 1 (bitsL 64 v) (bitsL 64 u))), .int .i64 0]) ∧ Below w.heap.size w w' := by
  have HBa := Lib.hid (fun W => bitsw v W hv)
  have HBb := Lib.hid (fun W => bitsw u W hu)
  have na := bitsL_len 64 v
  have nb := bitsL_len 64 u
  obtain ⟨a, ha⟩ : ∃ a, a = bitsL 64 v := ⟨_, rfl⟩
  obtain ⟨b, hb⟩ : ∃ b, b = bitsL 64 u := ⟨_, rfl⟩
  rw [← ha] at HBa na
  rw [← hb] at HBb nb
  unfold Ownw at HBa HBb
  have HNb := Lib.hid (fun W A1 c1 (h : LB W A1 b) => numberw (c := c1) h nb)
  obtain ⟨x, hx⟩ : ∃ x, a[63]? = some x := ⟨_, List.getElem?_eq_getElem (by omega)⟩
  obtain ⟨q, hq⟩ : ∃ q, q = numL b % 64 := ⟨_, rfl⟩
  have hqn : q < 64 := by omega
  have e1 : ((numL b : Nat) : Int) % 64 = (q : Int) := by omega
  have e2 : wrap64 (q : Int) = q := by unfold wrap64; omega
  have e3 : IntKind.i64.wrap (q : Int) = q := by simp only [IntKind.wrap, IntKind.bits, IntKind.signed]; simp; omega
  have e4 : wrap64 (-(q : Int)) = -(q : Int) := by unfold wrap64; omega
  have e5 : IntKind.i64.wrap (-(q : Int)) = -(q : Int) := by simp only [IntKind.wrap, IntKind.bits, IntKind.signed]; simp; omega
  have HCm := Lib.hid (compareNow (w := w) 132 v u hv hu (by omega) (by omega) (by omega))
  rw [← ha, ← hb]
  clear ha hb hq
  go_enter Try.func9, Try.ntmps9
  go_wp2_with (first
    | (go_at_call 17; (with_reducible refine HCm.out.mono ?_); rintro e w0 ⟨rfl, hb0⟩; have HB0 := Lib.hid hb0; clear hb0)
    | (go_at_call 18; (with_reducible refine (HBa.out _).mono ?_); rintro e w1 ⟨A1, c1, rfl, ho1, hb1⟩; obtain ⟨g1, rfl, _, hl1, q1, _⟩ := ho1.at hx; have HO1 := Lib.hid ho1; have HB1 := Lib.hid (HB0.out.trans (hb1.mono HB0.out.size)); clear ho1 hb1)
    | (go_at_call 18; (with_reducible refine (HBb.out _).mono ?_); rintro e w2 ⟨A2, c2, rfl, ho2, hb2⟩; have q2 := (hb2.cell (p := ⟨g1, 63, none⟩) hl1).trans q1; have HA2 := Lib.hid (HO1.out.later hb2).lb; have HC2 := Lib.hid ho2.lb; have HB2 := Lib.hid (HB1.out.trans (hb2.mono HB1.out.size)); clear ho2 hb2)
    | (go_at_call 19; (with_reducible refine (HNb.out _ _ _ HC2.out).mono ?_); rintro e w3 ⟨rfl, rfl⟩)
    | (go_at_call 24; (with_reducible refine (bitw1 HA2.out HC2.out na nb).mono ?_); rintro e w4 ⟨rfl, hb4⟩; have HB4 := Lib.hid (HB2.out.trans (hb4.mono HB2.out.size)); clear hb4))
  go_ret2
  exact ⟨rfl, HB4.out⟩
set_option maxHeartbeats 2000000 in
theorem twow9 {w : World} (v u : Nat) (hv : v < 18446744073709551616) (hu : u < 18446744073709551616) :
    Calls Try.prog 9 #[.int .i64 133, .int .u64 v, .int .u64 u] w fun e w' => e = .returned (.tuple #[.int .u64 (numL (bopL 2 (bitsL 64 v) (bitsL 64 u))), .int .i64 0]) ∧ Below w.heap.size w w' := by
  have HBa := Lib.hid (fun W => bitsw v W hv)
  have HBb := Lib.hid (fun W => bitsw u W hu)
  have na := bitsL_len 64 v
  have nb := bitsL_len 64 u
  obtain ⟨a, ha⟩ : ∃ a, a = bitsL 64 v := ⟨_, rfl⟩
  obtain ⟨b, hb⟩ : ∃ b, b = bitsL 64 u := ⟨_, rfl⟩
  rw [← ha] at HBa na
  rw [← hb] at HBb nb
  unfold Ownw at HBa HBb
  have HNb := Lib.hid (fun W A1 c1 (h : LB W A1 b) => numberw (c := c1) h nb)
  obtain ⟨x, hx⟩ : ∃ x, a[63]? = some x := ⟨_, List.getElem?_eq_getElem (by omega)⟩
  obtain ⟨q, hq⟩ : ∃ q, q = numL b % 64 := ⟨_, rfl⟩
  have hqn : q < 64 := by omega
  have e1 : ((numL b : Nat) : Int) % 64 = (q : Int) := by omega
  have e2 : wrap64 (q : Int) = q := by unfold wrap64; omega
  have e3 : IntKind.i64.wrap (q : Int) = q := by simp only [IntKind.wrap, IntKind.bits, IntKind.signed]; simp; omega
  have e4 : wrap64 (-(q : Int)) = -(q : Int) := by unfold wrap64; omega
  have e5 : IntKind.i64.wrap (-(q : Int)) = -(q : Int) := by simp only [IntKind.wrap, IntKind.bits, IntKind.signed]; simp; omega
  have HCm := Lib.hid (compareNow (w := w) 133 v u hv hu (by omega) (by omega) (by omega))
  rw [← ha, ← hb]
  clear ha hb hq
  go_enter Try.func9, Try.ntmps9
  go_wp2_with (first
    | (go_at_call 17; (with_reducible refine HCm.out.mono ?_); rintro e w0 ⟨rfl, hb0⟩; have HB0 := Lib.hid hb0; clear hb0)
    | (go_at_call 18; (with_reducible refine (HBa.out _).mono ?_); rintro e w1 ⟨A1, c1, rfl, ho1, hb1⟩; obtain ⟨g1, rfl, _, hl1, q1, _⟩ := ho1.at hx; have HO1 := Lib.hid ho1; have HB1 := Lib.hid (HB0.out.trans (hb1.mono HB0.out.size)); clear ho1 hb1)
    | (go_at_call 18; (with_reducible refine (HBb.out _).mono ?_); rintro e w2 ⟨A2, c2, rfl, ho2, hb2⟩; have q2 := (hb2.cell (p := ⟨g1, 63, none⟩) hl1).trans q1; have HA2 := Lib.hid (HO1.out.later hb2).lb; have HC2 := Lib.hid ho2.lb; have HB2 := Lib.hid (HB1.out.trans (hb2.mono HB1.out.size)); clear ho2 hb2)
    | (go_at_call 19; (with_reducible refine (HNb.out _ _ _ HC2.out).mono ?_); rintro e w3 ⟨rfl, rfl⟩)
    | (go_at_call 24; (with_reducible refine (bitw2 HA2.out HC2.out na nb).mono ?_); rintro e w4 ⟨rfl, hb4⟩; have HB4 := Lib.hid (HB2.out.trans (hb4.mono HB2.out.size)); clear hb4))
  go_ret2
  exact ⟨rfl, HB4.out⟩
end Go.Proofs.Ytjgdfajooccalaa
