/- types.EncodeLimits, EncodeGlobal; creelref04.EncodeLimits, EncodeGlobal. -/
import Derived.Test.YtmjcbliobjmmfaaLims
import Derived.Test.YtmjcbliobjmmfaaREnc
namespace Go.Proofs.Ytmjcbliobjmmfaa
open Go.RowKit

noncomputable def encLim (a b : Int) (c : Bool) : List UInt8 := if c then [1] ++ lebL a ++ lebL b else [0] ++ lebL a
theorem encLim_pos (a b : Int) (c : Bool) : 0 < (encLim a b c).length := by unfold encLim; cases c <;> simp

/-- What is held beside a box of three values. -/
theorem held_three {K : Nat} {args : Array Value} {w : World} {u v x : Value} {t : TypeId} {R : Ending → Prop} (hN : ∀ w, Calls Try.prog K args w fun e w' => R e ∧ Below w.heap.size w w') {W : World}
    (h : Boxed w (.cells #[u, v, x] t) W ∧ W.cell? ⟨w.heap.size, 0, none⟩ = some u ∧ W.cell? ⟨w.heap.size, 1, none⟩ = some v ∧ W.cell? ⟨w.heap.size, 2, none⟩ = some x) :
    Calls Try.prog K args W fun e w' => R e ∧ Boxed w (.cells #[u, v, x] t) w' ∧ w'.cell? ⟨w.heap.size, 0, none⟩ = some u ∧ w'.cell? ⟨w.heap.size, 1, none⟩ = some v ∧ w'.cell? ⟨w.heap.size, 2, none⟩ = some x :=
  (hN W).mono fun _ _ ⟨h1, h2⟩ => ⟨h1, h.1.on h2, (h.1.on h2).row 0, (h.1.on h2).row 1, (h.1.on h2).row 2⟩
theorem three_of {w W W' : World} {u v x : Value} {t : TypeId} (h : Boxed w (.cells #[u, v, x] t) W ∧ W.cell? ⟨w.heap.size, 0, none⟩ = some u ∧ W.cell? ⟨w.heap.size, 1, none⟩ = some v ∧ W.cell? ⟨w.heap.size, 2, none⟩ = some x) (hb : Below W.heap.size W W') :
    Boxed w (.cells #[u, v, x] t) W' ∧ W'.cell? ⟨w.heap.size, 0, none⟩ = some u ∧ W'.cell? ⟨w.heap.size, 1, none⟩ = some v ∧ W'.cell? ⟨w.heap.size, 2, none⟩ = some x :=
  ⟨h.1.on hb, (h.1.on hb).row 0, (h.1.on hb).row 1, (h.1.on hb).row 2⟩

/-- At a step of a region that draws its order: append of what lies somewhere and is not empty. -/
theorem step_lies {w : World} {ops : Array Oper} {o : Oper} {a : Act} {K : Act → World → Prop} {Q : Exit → Act → World → Prop} {E : Prop} (hgd : o.guard = none) (s x : Operand)
    (ho : o.op = .call { callee := .builtin .append, args := #[s, x], argTypes := #[32, 32] })
    (B : Nat) (v : Value) (xs : List UInt8) (hs : a.eval s = v) (hr : Row w B v xs)
    (A : Option Addr) (m c B' : Nat) (news : List UInt8) (hx : a.eval x = .slice A m c) (hl : news.length = m) (hn : Lies w B' A (cells (nums news)))
    (hm : 0 < m) (hb : xs.length + news.length ≤ 1000000) (hB : B ≤ w.heap.size)
    (h : ∀ v' w', Row w' B v' (xs ++ news) → Below B w w' → K (a.put o.dst v') w') :
    if Region.wanted o (yielded ops a.tmps) = true then Oper.wp Try.prog o a w K Q else E := by
  have hw : Region.wanted o (yielded ops a.tmps) = true := by simp [Region.wanted, hgd]
  rw [if_pos hw]
  obtain ⟨i0, hi0, hz0, hz1, hz2⟩ := info_parts infoB
  have hcl : (cells (nums news)).length = m := by rw [cells_length, nums_length]; exact hl
  obtain ⟨b, off, rfl, _, _⟩ := hn.at_ (i := 0) (by omega)
  refine wp_append_own _ s x _ ho B 5 i0 _ 1 1 Try.underlying32 hi0 hz0 hz1 hz2 rfl (by omega) v _ _ hs hr ⟨b, off, none⟩ m c (cells (nums news)) hx (by omega) ?_ ?_ (by unfold maxLen; omega) (by omega) hB (fun v' w' h2 h3 _ => h v' w' ?_ (Row.below hr hB h3))
  · intro j u hu
    obtain ⟨b', off', e, _, h2⟩ := hn j u hu
    injection e with e
    injection e with e1 e2
    subst e1; subst e2
    rw [Go.WideShapes.add_plain]; exact h2
  · intro u hu
    unfold cells at hu
    obtain ⟨c, _, rfl⟩ := List.mem_map.1 hu
    rfl
  · unfold Row
    rw [nums_append, List.length_append, hl]
    unfold cells at *
    rw [List.map_append]
    exact h2

theorem three_more {w W W' : World} {u v x : Value} {t : TypeId} (h : Boxed w (.cells #[u, v, x] t) W) (hb : Below (w.heap.size + 1) W W') :
    Boxed w (.cells #[u, v, x] t) W' ∧ W'.cell? ⟨w.heap.size, 0, none⟩ = some u ∧ W'.cell? ⟨w.heap.size, 1, none⟩ = some v ∧ W'.cell? ⟨w.heap.size, 2, none⟩ = some x := by
  have k : Boxed w (.cells #[u, v, x] t) W' := Below.trans h hb
  exact ⟨k, k.row 0, k.row 1, k.row 2⟩

theorem cat_lim (x y : List UInt8) : Ending.returned (.string ({ data := #[1] } ++ S x ++ S y)) = .returned (.string (S ([1] ++ x ++ y))) := by
  rw [show ({ data := #[1] } : ByteArray) = S [1] from rfl, S_append, S_append]
theorem cat_lim0 (x : List UInt8) : Ending.returned (.string ({ data := #[0] } ++ S x)) = .returned (.string (S ([0] ++ x))) := by
  rw [show ({ data := #[0] } : ByteArray) = S [0] from rfl, S_append]
set_option maxHeartbeats 1000000 in
theorem refElim_any (a b : Int) (c : Bool) (w : World) (a0 : 0 ≤ a) (a1 : a ≤ 4294967295) (b0 : 0 ≤ b) (b1 : b ≤ 4294967295) : Calls Try.prog 8 #[lv a b c] w fun e w' => e = .returned (.string (S (encLim a b c))) ∧ Below w.heap.size w w' := by
  have wa : IntKind.i64.wrap a = a := by rw [IntKind.wrap_i64]; omega
  have wb : IntKind.i64.wrap b = b := by rw [IntKind.wrap_i64]; omega
  have N1 := Lib.hid (fun w => count_any a w a0 (by omega))
  have N2 := Lib.hid (fun w => count_any b w b0 (by omega))
  have m1 := lebL_len a (by omega)
  have m2 := lebL_len b (by omega)
  have he1 : encLim a b true = [1] ++ lebL a ++ lebL b := rfl
  have he2 : encLim a b false = [0] ++ lebL a := rfl
  generalize lebL a = x at *
  generalize lebL b = y at *
  have HE1 := Lib.hid he1
  have HE2 := Lib.hid he2
  have sx := S_size x
  have sy := S_size y
  have q1 : ¬ 9223372036854775807 < 1 + (S x).size := by omega
  have q2 : ¬ 9223372036854775807 < 1 + (S x).size + (S y).size := by omega
  clear he1 he2 sx sy
  cases c
  · go_enter Try.func8, Try.ntmps8
    go_wp2_with (go_at_call 24; ((with_reducible refine (N1.out _).mono ?_); rintro e w1 ⟨rfl, hb⟩; have H1 := Lib.hid hb; clear hb))
    go_ret
    exact ⟨by rw [HE2.out]; exact cat_lim0 x, (below_box w _).trans (H1.out.mono (below_box w _).size)⟩
  · go_enter Try.func8, Try.ntmps8
    go_wp2
    go_region_held3 (fun W => Boxed w (.cells #[.int .u32 a, .int .u32 b, .bool true] 26) W ∧ W.cell? ⟨w.heap.size, 0, none⟩ = some (.int .u32 a) ∧ W.cell? ⟨w.heap.size, 1, none⟩ = some (.int .u32 b) ∧ W.cell? ⟨w.heap.size, 2, none⟩ = some (.bool true))
      (first | assumption | (exact ⟨Boxed.start _ _, (Boxed.start _ _).row 0, (Boxed.start _ _).row 1, (Boxed.start _ _).row 2⟩))
      (first | (go_at_call 24; first | ((with_reducible refine (held_three N1.out ‹_›).mono ?_); rintro e w1 ⟨rfl, hk1⟩) | ((with_reducible refine (held_three N2.out ‹_›).mono ?_); rintro e w2 ⟨rfl, hk2⟩)))
    go_wp2
    go_ret
    exact ⟨by rw [HE1.out]; exact cat_lim x y, hk2.1.end⟩

/-- A global's type's bytes. -/
def encG (t : Int) (m : Bool) : List UInt8 := [UInt8.ofNat t.toNat, if m then 1 else 0]
theorem nums_encG (t : Int) (m : Bool) (h0 : 0 ≤ t) (h1 : t ≤ 255) : nums (encG t m) = [t, if m then 1 else 0] := by
  unfold encG nums
  cases m
  · simp; omega
  · simp; omega
end Go.Proofs.Ytmjcbliobjmmfaa

