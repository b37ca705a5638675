/- types.EncodeLimits, EncodeGlobal; creelref04.EncodeLimits, EncodeGlobal. -/
import Derived.Test.YtlhjgjplnaoieaaDoorLims
import Derived.Test.YtlhjgjplnaoieaaDoorREnc
namespace Go.Proofs.YtlhjgjplnaoieaaDoor
open Go.RowKit

noncomputable def encLim (a b : Int) (c : Bool) : List UInt8 := if c then [1] ++ lebL a ++ lebL b else [0] ++ lebL a
theorem encLim_pos (a b : Int) (c : Bool) : 0 < (encLim a b c).length := by unfold encLim; cases c <;> simp

/-- What is held beside a box of three values. -/
theorem held_three {K : Nat} {args : Array Value} {w : World} {u v x : Value} {t : TypeId} {R : Ending → Prop} (hN : ∀ w, Calls Tryd.prog K args w fun e w' => R e ∧ Below w.heap.size w w') {W : World}
    (h : Boxed w (.cells #[u, v, x] t) W ∧ W.cell? ⟨w.heap.size, 0, none⟩ = some u ∧ W.cell? ⟨w.heap.size, 1, none⟩ = some v ∧ W.cell? ⟨w.heap.size, 2, none⟩ = some x) :
    Calls Tryd.prog K args W fun e w' => R e ∧ Boxed w (.cells #[u, v, x] t) w' ∧ w'.cell? ⟨w.heap.size, 0, none⟩ = some u ∧ w'.cell? ⟨w.heap.size, 1, none⟩ = some v ∧ w'.cell? ⟨w.heap.size, 2, none⟩ = some x :=
  (hN W).mono fun _ _ ⟨h1, h2⟩ => ⟨h1, h.1.on h2, (h.1.on h2).row 0, (h.1.on h2).row 1, (h.1.on h2).row 2⟩
theorem three_of {w W W' : World} {u v x : Value} {t : TypeId} (h : Boxed w (.cells #[u, v, x] t) W ∧ W.cell? ⟨w.heap.size, 0, none⟩ = some u ∧ W.cell? ⟨w.heap.size, 1, none⟩ = some v ∧ W.cell? ⟨w.heap.size, 2, none⟩ = some x) (hb : Below W.heap.size W W') :
    Boxed w (.cells #[u, v, x] t) W' ∧ W'.cell? ⟨w.heap.size, 0, none⟩ = some u ∧ W'.cell? ⟨w.heap.size, 1, none⟩ = some v ∧ W'.cell? ⟨w.heap.size, 2, none⟩ = some x :=
  ⟨h.1.on hb, (h.1.on hb).row 0, (h.1.on hb).row 1, (h.1.on hb).row 2⟩

/-- At a step of a region that draws its order: append of what lies somewhere and is not empty. -/
theorem step_lies {w : World} {ops : Array Oper} {o : Oper} {a : Act} {K : Act → World → Prop} {Q : Exit → Act → World → Prop} {E : Prop} (hgd : o.guard = none) (s x : Operand)
    (ho : o.op = .call { callee := .builtin .append, args := #[s, x], argTypes := #[33, 33] })
    (B : Nat) (v : Value) (xs : List UInt8) (hs : a.eval s = v) (hr : Row w B v xs)
    (A : Option Addr) (m c B' : Nat) (news : List UInt8) (hx : a.eval x = .slice A m c) (hl : news.length = m) (hn : Lies w B' A (cells (nums news)))
    (hm : 0 < m) (hb : xs.length + news.length ≤ 1000000) (hB : B ≤ w.heap.size)
    (h : ∀ v' w', Row w' B v' (xs ++ news) → Below B w w' → K (a.put o.dst v') w') :
    if Region.wanted o (yielded ops a.tmps) = true then Oper.wp Tryd.prog o a w K Q else E := by
  have hw : Region.wanted o (yielded ops a.tmps) = true := by simp [Region.wanted, hgd]
  rw [if_pos hw]
  obtain ⟨i0, hi0, hz0, hz1, hz2⟩ := info_parts infoB
  have hcl : (cells (nums news)).length = m := by rw [cells_length, nums_length]; exact hl
  obtain ⟨b, off, rfl, _, _⟩ := hn.at_ (i := 0) (by omega)
  refine wp_append_own _ s x _ ho B 5 i0 _ 1 1 Tryd.underlying33 hi0 hz0 hz1 hz2 rfl (by omega) v _ _ hs hr ⟨b, off, none⟩ m c (cells (nums news)) hx (by omega) ?_ ?_ (by unfold maxLen; omega) (by omega) hB (fun v' w' h2 h3 _ => h v' w' ?_ (Row.below hr hB h3))
  · intro j u hu
    obtain ⟨b', off', e, _, h2⟩ := hn j u hu
    injection e with e
    injection e with e1 e2
    subst e1; subst e2
    rw [Go.WideShapes.add_plain]; exact h2
  · intro u hu
    unfold cells at hu
    obtain ⟨c, _, rfl⟩ := List.mem_map.1 hu
    rfl
  · unfold Row
    rw [nums_append, List.length_append, hl]
    unfold cells at *
    rw [List.map_append]
    exact h2

theorem three_more {w W W' : World} {u v x : Value} {t : TypeId} (h : Boxed w (.cells #[u, v, x] t) W) (hb : Below (w.heap.size + 1) W W') :
    Boxed w (.cells #[u, v, x] t) W' ∧ W'.cell? ⟨w.heap.size, 0, none⟩ = some u ∧ W'.cell? ⟨w.heap.size, 1, none⟩ = some v ∧ W'.cell? ⟨w.heap.size, 2, none⟩ = some x := by
  have k : Boxed w (.cells #[u, v, x] t) W' := Below.trans h hb
  exact ⟨k, k.row 0, k.row 1, k.row 2⟩

set_option maxHeartbeats 2000000 in
theorem elim_yes (a b : Int) (w : World) (a0 : 0 ≤ a) (a1 : a ≤ 4294967295) (b0 : 0 ≤ b) (b1 : b ≤ 4294967295) : Calls Tryd.prog 22 #[lv a b true] w (BytesL (encLim a b true) w) := by
  have U1 := Lib.hid (fun w => uintL a w a0 (by omega))
  have U2 := Lib.hid (fun w => uintL b w b0 (by omega))
  have m1 := lebL_len a (by omega)
  have m2 := lebL_len b (by omega)
  have he : encLim a b true = [1] ++ lebL a ++ lebL b := rfl
  generalize lebL a = x at *
  generalize lebL b = y at *
  have HE := Lib.hid he
  have wa : IntKind.u64.wrap a = a := by simp [IntKind.wrap, IntKind.bits, IntKind.signed]; omega
  clear he
  go_enter Tryd.func22, Tryd.ntmps22
  go_wp2
  have R0 : Hid (Row ((w.alloc (.cells #[.int .u32 a, .int .u32 b, .bool true] 41)).alloc (.cells #[.int .u8 1] 5)).drew (w.heap.size + 1) (.slice (some ⟨w.heap.size + 1, 0, none⟩) 1 1) [1]) := Row.drew (Row.made _ [1] (w.heap.size + 1) (w.heap.size + 1) (by simp) (Nat.le_refl _) (by simp))
  go_region_held3 (fun W => Boxed w (.cells #[.int .u32 a, .int .u32 b, .bool true] 41) W ∧ W.cell? ⟨w.heap.size, 0, none⟩ = some (.int .u32 a) ∧ W.cell? ⟨w.heap.size, 1, none⟩ = some (.int .u32 b) ∧ W.cell? ⟨w.heap.size, 2, none⟩ = some (.bool true))
    (first | assumption | (exact ⟨Boxed.start _ _, (Boxed.start _ _).row 0, (Boxed.start _ _).row 1, (Boxed.start _ _).row 2⟩) | (exact three_of (by assumption) (below_box _ _)))
    (first
      | (go_at_call 37; ((with_reducible refine (flag_any _ _).mono ?_); rintro e w' ⟨rfl, rfl⟩))
      | (go_at_call 38; ((with_reducible refine (U1.out _).mono ?_); intro e w1 h; obtain ⟨A1, k1, rfl, hl1, hb1⟩ := h; have hk1 := three_of ‹_› hb1; have hz1 : w.heap.size + 1 ≤ w1.heap.size := hk1.1.room; have RB := Lib.hid (Row.made w1 [1] (w.heap.size + 1) w1.heap.size rfl hz1 (by simp)); have LB := Lib.hid (hl1.below (below_box w1 (.cells #[.int .u8 1] 5)) (Nat.le_refl _)); have KB := Lib.hid (hk1.1.on (below_box w1 (.cells #[.int .u8 1] 5))); have KA := Lib.hid hk1.1; have LA := Lib.hid hl1; have HB1 := Lib.hid hb1; clear hl1 hb1))
      | (refine step_lies (by rfl) _ _ (by rfl) (w.heap.size + 1) _ _ (by rfl) (Row.later R0.out HB1.out) _ _ _ _ x (by rfl) rfl LA.out (by omega) (by simp; omega) hz1 ?_; intro v2 w2 hr2 hb2; have HR2 := Lib.hid hr2; have hk2 := three_more KA.out hb2; have HK2 := Lib.hid hk2.1; clear hr2 hb2)
      | (refine step_lies (by rfl) _ _ (by rfl) (w.heap.size + 1) _ _ (by rfl) RB.out _ _ _ _ x (by rfl) rfl LB.out (by omega) (by simp; omega) (Nat.le_trans hz1 (below_box w1 (.cells #[.int .u8 1] 5)).size) ?_; intro v2 w2 hr2 hb2; have HR2 := Lib.hid hr2; have hk2 := three_more KB.out hb2; have HK2 := Lib.hid hk2.1; clear hr2 hb2))
  all_goals
    obtain ⟨-, g0, g1, g2⟩ := hk2
    go_wp2_with (first
      | (at_builtin; (refine row_lies rfl _ _ rfl (w.heap.size + 1) _ _ rfl (HR2.out.later HB3.out) _ _ _ _ y rfl rfl HL3.out (by omega) (by simp; omega) hz3 ?_; intro v4 w4 hr4 hb4; have HK4 := Lib.hid (Below.trans HK3.out hb4); have HR4 := Lib.hid hr4; clear hr4 hb4))
      | (go_at_call 38; ((with_reducible refine (U2.out _).mono ?_); intro e w3 h; obtain ⟨A3, k3, rfl, hl3, hb3⟩ := h; have hk3 := Boxed.on HK2.out hb3; have hz3 : w.heap.size + 1 ≤ w3.heap.size := Boxed.room hk3; have HK3 := Lib.hid hk3; have HL3 := Lib.hid hl3; have HB3 := Lib.hid hb3; clear hl3 hb3 hk3)))
    go_ret
    exact ⟨_, rfl, by rw [HE.out]; exact Row.mono HR4.out (by omega), Boxed.end HK4.out⟩
set_option maxHeartbeats 2000000 in
theorem elim_no (a b : Int) (w : World) (a0 : 0 ≤ a) (a1 : a ≤ 4294967295) : Calls Tryd.prog 22 #[lv a b false] w (BytesL (encLim a b false) w) := by
  have U1 := Lib.hid (fun w => uintL a w a0 (by omega))
  have m1 := lebL_len a (by omega)
  have he : encLim a b false = [0] ++ lebL a := rfl
  generalize lebL a = x at *
  have HE := Lib.hid he
  have wa : IntKind.u64.wrap a = a := by simp [IntKind.wrap, IntKind.bits, IntKind.signed]; omega
  clear he
  go_enter Tryd.func22, Tryd.ntmps22
  go_wp2
  have R0 : Hid (Row ((w.alloc (.cells #[.int .u32 a, .int .u32 b, .bool false] 41)).alloc (.cells #[.int .u8 0] 5)).drew (w.heap.size + 1) (.slice (some ⟨w.heap.size + 1, 0, none⟩) 1 1) [0]) := Row.drew (Row.made _ [0] (w.heap.size + 1) (w.heap.size + 1) (by simp) (Nat.le_refl _) (by simp))
  go_region_held3 (fun W => Boxed w (.cells #[.int .u32 a, .int .u32 b, .bool false] 41) W ∧ W.cell? ⟨w.heap.size, 0, none⟩ = some (.int .u32 a) ∧ W.cell? ⟨w.heap.size, 1, none⟩ = some (.int .u32 b) ∧ W.cell? ⟨w.heap.size, 2, none⟩ = some (.bool false))
    (first | assumption | (exact ⟨Boxed.start _ _, (Boxed.start _ _).row 0, (Boxed.start _ _).row 1, (Boxed.start _ _).row 2⟩) | (exact three_of (by assumption) (below_box _ _)))
    (first
      | (go_at_call 37; ((with_reducible refine (flag_any _ _).mono ?_); rintro e w' ⟨rfl, rfl⟩))
      | (go_at_call 38; ((with_reducible refine (U1.out _).mono ?_); intro e w1 h; obtain ⟨A1, k1, rfl, hl1, hb1⟩ := h; have hk1 := three_of ‹_› hb1; have hz1 : w.heap.size + 1 ≤ w1.heap.size := hk1.1.room; have RB := Lib.hid (Row.made w1 [0] (w.heap.size + 1) w1.heap.size rfl hz1 (by simp)); have LB := Lib.hid (hl1.below (below_box w1 (.cells #[.int .u8 0] 5)) (Nat.le_refl _)); have KB := Lib.hid (hk1.1.on (below_box w1 (.cells #[.int .u8 0] 5))); have KA := Lib.hid hk1.1; have LA := Lib.hid hl1; have HB1 := Lib.hid hb1; clear hl1 hb1))
      | (refine step_lies (by rfl) _ _ (by rfl) (w.heap.size + 1) _ _ (by rfl) (Row.later R0.out HB1.out) _ _ _ _ x (by rfl) rfl LA.out (by omega) (by simp; omega) hz1 ?_; intro v2 w2 hr2 hb2; have HR2 := Lib.hid hr2; have hk2 := three_more KA.out hb2; have HK2 := Lib.hid hk2.1; clear hr2 hb2)
      | (refine step_lies (by rfl) _ _ (by rfl) (w.heap.size + 1) _ _ (by rfl) RB.out _ _ _ _ x (by rfl) rfl LB.out (by omega) (by simp; omega) (Nat.le_trans hz1 (below_box w1 (.cells #[.int .u8 0] 5)).size) ?_; intro v2 w2 hr2 hb2; have HR2 := Lib.hid hr2; have hk2 := three_more KB.out hb2; have HK2 := Lib.hid hk2.1; clear hr2 hb2))
  all_goals
    obtain ⟨-, g0, g1, g2⟩ := hk2
    go_wp2
    go_ret
    exact ⟨_, rfl, by rw [HE.out]; exact Row.mono HR2.out (by omega), Boxed.end HK2.out⟩
theorem elim_any (a b : Int) (c : Bool) (w : World) (a0 : 0 ≤ a) (a1 : a ≤ 4294967295) (b0 : 0 ≤ b) (b1 : b ≤ 4294967295) : Calls Tryd.prog 22 #[lv a b c] w (BytesL (encLim a b c) w) := by
  cases c
  · exact elim_no a b w a0 a1
  · exact elim_yes a b w a0 a1 b0 b1

theorem cat_lim (x y : List UInt8) : Ending.returned (.string ({ data := #[1] } ++ S x ++ S y)) = .returned (.string (S ([1] ++ x ++ y))) := by
  rw [show ({ data := #[1] } : ByteArray) = S [1] from rfl, S_append, S_append]
theorem cat_lim0 (x : List UInt8) : Ending.returned (.string ({ data := #[0] } ++ S x)) = .returned (.string (S ([0] ++ x))) := by
  rw [show ({ data := #[0] } : ByteArray) = S [0] from rfl, S_append]
set_option maxHeartbeats 1000000 in
theorem refElim_any (a b : Int) (c : Bool) (w : World) (a0 : 0 ≤ a) (a1 : a ≤ 4294967295) (b0 : 0 ≤ b) (b1 : b ≤ 4294967295) : Calls Tryd.prog 23 #[lv a b c] w fun e w' => e = .returned (.string (S (encLim a b c))) ∧ Below w.heap.size w w' := by
  have wa : IntKind.i64.wrap a = a := by rw [IntKind.wrap_i64]; omega
  have wb : IntKind.i64.wrap b = b := by rw [IntKind.wrap_i64]; omega
  have N1 := Lib.hid (fun w => count_any a w a0 (by omega))
  have N2 := Lib.hid (fun w => count_any b w b0 (by omega))
  have m1 := lebL_len a (by omega)
  have m2 := lebL_len b (by omega)
  have he1 : encLim a b true = [1] ++ lebL a ++ lebL b := rfl
  have he2 : encLim a b false = [0] ++ lebL a := rfl
  generalize lebL a = x at *
  generalize lebL b = y at *
  have HE1 := Lib.hid he1
  have HE2 := Lib.hid he2
  have sx := S_size x
  have sy := S_size y
  have q1 : ¬ 9223372036854775807 < 1 + (S x).size := by omega
  have q2 : ¬ 9223372036854775807 < 1 + (S x).size + (S y).size := by omega
  clear he1 he2 sx sy
  cases c
  · go_enter Tryd.func23, Tryd.ntmps23
    go_wp2_with (go_at_call 34; ((with_reducible refine (N1.out _).mono ?_); rintro e w1 ⟨rfl, hb⟩; have H1 := Lib.hid hb; clear hb))
    go_ret
    exact ⟨by rw [HE2.out]; exact cat_lim0 x, (below_box w _).trans (H1.out.mono (below_box w _).size)⟩
  · go_enter Tryd.func23, Tryd.ntmps23
    go_wp2
    go_region_held3 (fun W => Boxed w (.cells #[.int .u32 a, .int .u32 b, .bool true] 41) W ∧ W.cell? ⟨w.heap.size, 0, none⟩ = some (.int .u32 a) ∧ W.cell? ⟨w.heap.size, 1, none⟩ = some (.int .u32 b) ∧ W.cell? ⟨w.heap.size, 2, none⟩ = some (.bool true))
      (first | assumption | (exact ⟨Boxed.start _ _, (Boxed.start _ _).row 0, (Boxed.start _ _).row 1, (Boxed.start _ _).row 2⟩))
      (first | (go_at_call 34; first | ((with_reducible refine (held_three N1.out ‹_›).mono ?_); rintro e w1 ⟨rfl, hk1⟩) | ((with_reducible refine (held_three N2.out ‹_›).mono ?_); rintro e w2 ⟨rfl, hk2⟩)))
    go_wp2
    go_ret
    exact ⟨by rw [HE1.out]; exact cat_lim x y, hk2.1.end⟩

/-- A global's type's bytes. -/
def encG (t : Int) (m : Bool) : List UInt8 := [UInt8.ofNat t.toNat, if m then 1 else 0]
theorem nums_encG (t : Int) (m : Bool) (h0 : 0 ≤ t) (h1 : t ≤ 255) : nums (encG t m) = [t, if m then 1 else 0] := by
  unfold encG nums
  cases m
  · simp; omega
  · simp; omega
end Go.Proofs.YtlhjgjplnaoieaaDoor
