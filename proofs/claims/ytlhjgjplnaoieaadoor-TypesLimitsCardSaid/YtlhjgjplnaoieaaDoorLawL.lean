/- The walk of TypesLimits. -/
import Derived.Test.YtlhjgjplnaoieaaDoorLEnc
import Derived.Test.YtlhjgjplnaoieaaDoorHeld
import Derived.Deep.DeepCutAuto
namespace Go.Proofs.YtlhjgjplnaoieaaDoor
open Go.RowKit

/-- Three limits in blocks of their own. -/
def Trio (w : World) (x y z : Nat) (a b a' b' a'' b'' : Int) (c c' c'' : Bool) (W : World) : Prop :=
  (Below w.heap.size w W ∧ x < W.heap.size ∧ y < W.heap.size ∧ z < W.heap.size) ∧
  (W.cell? ⟨x, 0, none⟩ = some (.int .u32 a) ∧ W.cell? ⟨x, 1, none⟩ = some (.int .u32 b) ∧ W.cell? ⟨x, 2, none⟩ = some (.bool c)) ∧
  (W.cell? ⟨y, 0, none⟩ = some (.int .u32 a') ∧ W.cell? ⟨y, 1, none⟩ = some (.int .u32 b') ∧ W.cell? ⟨y, 2, none⟩ = some (.bool c')) ∧
  (W.cell? ⟨z, 0, none⟩ = some (.int .u32 a'') ∧ W.cell? ⟨z, 1, none⟩ = some (.int .u32 b'') ∧ W.cell? ⟨z, 2, none⟩ = some (.bool c''))
theorem Trio.on {w : World} {x y z : Nat} {a b a' b' a'' b'' : Int} {c c' c'' : Bool} {W W' : World} (h : Trio w x y z a b a' b' a'' b'' c c' c'' W) (hb : Below W.heap.size W W') : Trio w x y z a b a' b' a'' b'' c c' c'' W' := by
  obtain ⟨⟨h1, h2, h3, h4⟩, ⟨x0, x1, x2⟩, ⟨y0, y1, y2⟩, ⟨z0, z1, z2⟩⟩ := h
  have k : ∀ b i, b < W.heap.size → W'.cell? ⟨b, i, none⟩ = W.cell? ⟨b, i, none⟩ := fun b i h => hb.cell (p := ⟨b, i, none⟩) h
  have := hb.size
  exact ⟨⟨h1.trans (hb.mono h1.size), by omega, by omega, by omega⟩, ⟨(k _ _ h2).trans x0, (k _ _ h2).trans x1, (k _ _ h2).trans x2⟩, ⟨(k _ _ h3).trans y0, (k _ _ h3).trans y1, (k _ _ h3).trans y2⟩, ⟨(k _ _ h4).trans z0, (k _ _ h4).trans z1, (k _ _ h4).trans z2⟩⟩
def Laid3 (w : World) (a b a' b' a'' b'' : Int) (c c' c'' : Bool) (s5 s6 s7 : Value) (W : World) : Prop :=
  ∃ x y z, s5 = .pointer (some ⟨x, 0, none⟩) ∧ s6 = .pointer (some ⟨y, 0, none⟩) ∧ s7 = .pointer (some ⟨z, 0, none⟩) ∧ Trio w x y z a b a' b' a'' b'' c c' c'' W

theorem Trio.x {w : World} {x y z : Nat} {a b a' b' a'' b'' : Int} {c c' c'' : Bool} {W : World} (h : Trio w x y z a b a' b' a'' b'' c c' c'' W) : (Trio w x y z a b a' b' a'' b'' c c' c'' W ∧ W.cell? ⟨x, 0, none⟩ = some (.int .u32 a) ∧ W.cell? ⟨x, 1, none⟩ = some (.int .u32 b) ∧ W.cell? ⟨x, 2, none⟩ = some (.bool c)) := ⟨h, h.2.1⟩
theorem Trio.nine {w : World} {x y z : Nat} {a b a' b' a'' b'' : Int} {c c' c'' : Bool} {W : World} (h : Trio w x y z a b a' b' a'' b'' c c' c'' W) : (Trio w x y z a b a' b' a'' b'' c c' c'' W ∧ (W.cell? ⟨x, 0, none⟩ = some (.int .u32 a) ∧ W.cell? ⟨x, 1, none⟩ = some (.int .u32 b) ∧ W.cell? ⟨x, 2, none⟩ = some (.bool c)) ∧ (W.cell? ⟨y, 0, none⟩ = some (.int .u32 a') ∧ W.cell? ⟨y, 1, none⟩ = some (.int .u32 b') ∧ W.cell? ⟨y, 2, none⟩ = some (.bool c')) ∧ (W.cell? ⟨z, 0, none⟩ = some (.int .u32 a'') ∧ W.cell? ⟨z, 1, none⟩ = some (.int .u32 b'') ∧ W.cell? ⟨z, 2, none⟩ = some (.bool c''))) := ⟨h, h.2⟩
theorem laid_of {w W : World} {x y z : Nat} {a b a' b' a'' b'' : Int} {c c' c'' : Bool} {t : TypeId} (hb : Below w.heap.size w W) (hx : W.heap[x]? = some (.cells #[.int .u32 a, .int .u32 b, .bool c] t)) (hy : W.heap[y]? = some (.cells #[.int .u32 a', .int .u32 b', .bool c'] t)) (hz : W.heap[z]? = some (.cells #[.int .u32 a'', .int .u32 b'', .bool c''] t)) :
    Laid3 w a b a' b' a'' b'' c c' c'' (.pointer (some ⟨x, 0, none⟩)) (.pointer (some ⟨y, 0, none⟩)) (.pointer (some ⟨z, 0, none⟩)) W :=
  ⟨x, y, z, rfl, rfl, rfl, ⟨hb, (Array.getElem?_eq_some_iff.1 hx).1, (Array.getElem?_eq_some_iff.1 hy).1, (Array.getElem?_eq_some_iff.1 hz).1⟩,
    ⟨cell_of_row W x 0 _ _ _ hx, cell_of_row W x 1 _ _ _ hx, cell_of_row W x 2 _ _ _ hx⟩, ⟨cell_of_row W y 0 _ _ _ hy, cell_of_row W y 1 _ _ _ hy, cell_of_row W y 2 _ _ _ hy⟩, ⟨cell_of_row W z 0 _ _ _ hz, cell_of_row W z 1 _ _ _ hz, cell_of_row W z 2 _ _ _ hz⟩⟩
theorem new0 (v : World) (A B C : Obj) : (((v.alloc A).alloc B).alloc C).drew.heap[v.heap.size]? = some A :=
  (heap_alloc_old ((v.alloc A).alloc B) C (by simp; omega)).trans ((heap_alloc_old (v.alloc A) B (by simp)).trans (heap_alloc_new v A))
theorem new1 (v : World) (A B C : Obj) : (((v.alloc A).alloc B).alloc C).drew.heap[v.heap.size + 1]? = some B := by
  have h := heap_alloc_new (v.alloc A) B
  rw [show (v.alloc A).heap.size = v.heap.size + 1 by simp] at h
  exact (heap_alloc_old ((v.alloc A).alloc B) C (by simp)).trans h
theorem new2 (v : World) (A B C : Obj) : (((v.alloc A).alloc B).alloc C).drew.heap[v.heap.size + 1 + 1]? = some C := by
  have h := heap_alloc_new ((v.alloc A).alloc B) C
  rw [show ((v.alloc A).alloc B).heap.size = v.heap.size + 1 + 1 by simp] at h
  exact h
theorem new_below (v : World) (A B C : Obj) : Below v.heap.size v (((v.alloc A).alloc B).alloc C).drew :=
  ((((Below.refl _ _).alloc (Nat.le_refl _) A).alloc (by simp) B).alloc (by simp; omega) C).drew
theorem fit_trans {a b a' b' a'' b'' : Int} {c c' c'' : Bool} (h : fitB a b c a' b' c' = true) (h' : fitB a' b' c' a'' b'' c'' = true) : fitB a b c a'' b'' c'' = true := by
  unfold fitB at *
  cases c <;> cases c' <;> cases c'' <;> simp at * <;> omega
theorem fit_self (a b : Int) (c : Bool) : fitB a b c a b c = true := by
  unfold fitB
  cases c <;> simp
/-- Nine cells of a box stay. -/
theorem nine_of {w W W' : World} {v0 v1 v2 v3 v4 v5 v6 v7 v8 : Value} {t : TypeId} (h0 : Boxed w (.cells #[v0, v1, v2, v3, v4, v5, v6, v7, v8] t) W) (h : Below (w.heap.size + 1) W W') :
    W'.cell? ⟨w.heap.size, 0, none⟩ = some v0 ∧ W'.cell? ⟨w.heap.size, 1, none⟩ = some v1 ∧ W'.cell? ⟨w.heap.size, 2, none⟩ = some v2 ∧ W'.cell? ⟨w.heap.size, 3, none⟩ = some v3 ∧ W'.cell? ⟨w.heap.size, 4, none⟩ = some v4 ∧ W'.cell? ⟨w.heap.size, 5, none⟩ = some v5 ∧ W'.cell? ⟨w.heap.size, 6, none⟩ = some v6 ∧ W'.cell? ⟨w.heap.size, 7, none⟩ = some v7 ∧ W'.cell? ⟨w.heap.size, 8, none⟩ = some v8 := by
  have k : Boxed w (.cells #[v0, v1, v2, v3, v4, v5, v6, v7, v8] t) W' := Below.trans h0 h
  exact ⟨k.row 0, k.row 1, k.row 2, k.row 3, k.row 4, k.row 5, k.row 6, k.row 7, k.row 8⟩

set_option maxRecDepth 100000 in
set_option maxHeartbeats 4000000 in
theorem limits_law (a b a' b' a'' b'' : Int) (c c' c'' : Bool) (m : Int) (v : Int) (t : Bool) (w : World) (hT : Tab w) (hv : (v = 0 ∧ t = true) ∨ (v = 26 ∧ t = false)) (hv1 : limZ a b c m = v) (hv2 : limB a b c m = t) (a0 : 0 ≤ a) (a1 : a ≤ 4294967295) (b0 : 0 ≤ b) (b1 : b ≤ 4294967295) (m0 : 0 ≤ m) (m1 : m ≤ 4294967295) :
    Calls Tryd.prog 4 #[.agg #[.int .u32 a, .int .u32 b, .bool c, .int .u32 a', .int .u32 b', .bool c', .int .u32 a'', .int .u32 b'', .bool c''], .int .u32 m] w fun e w' => e = .returned (.bool true) ∧ Below w.heap.size w w' := by
  have L1 := Lib.hid (fun w => limits_any a b c m w)
  have L2 := Lib.hid (fun w => refLimits_any a b c m w a0 a1 b0 b1)
  have E1 := Lib.hid (fun w => elim_any a b c w a0 a1 b0 b1)
  have E2 := Lib.hid (fun w => refElim_any a b c w a0 a1 b0 b1)
  have F1 := Lib.hid (fun w => fits_any a b c a' b' c' w)
  have F2 := Lib.hid (fun w => fits_any a' b' c' a'' b'' c'' w)
  have F3 := Lib.hid (fun w => fits_any a b c a'' b'' c'' w)
  have F0 := Lib.hid (fun w => by have h := fits_any a b c a b c w; rw [fit_self] at h; exact h)
  obtain ⟨X, hX⟩ : ∃ X, X = fitB a b c a' b' c' := ⟨_, rfl⟩
  obtain ⟨Y, hY⟩ : ∃ Y, Y = fitB a' b' c' a'' b'' c'' := ⟨_, rfl⟩
  obtain ⟨Z, hZ⟩ : ∃ Z, Z = fitB a b c a'' b'' c'' := ⟨_, rfl⟩
  have HXYZ := Lib.hid (show X = true → Y = true → Z = true from fun h h' => by rw [hZ]; exact fit_trans (hX ▸ h) (hY ▸ h'))
  rw [← hX] at F1
  rw [← hY] at F2
  rw [← hZ] at F3
  have HX := Lib.hid hX
  clear hX hY hZ
  have hll := encLim_pos a b c
  rw [hv1] at L1
  rw [hv2] at L2
  clear hv1 hv2
  generalize encLim a b c = l at *
  have HA := Lib.hid (awake_any (w.alloc (.cells #[.int .u32 a, .int .u32 b, .bool c, .int .u32 a', .int .u32 b', .bool c', .int .u32 a'', .int .u32 b'', .bool c''] 42)) (hT.alloc _))
  go_enter Tryd.func4, Tryd.ntmps4
  go_upto_region 3 with (go_at_call 6; go_must (refine HA.out.mono ?_; rintro e w1 ⟨rfl, hb⟩; have HK := Lib.hid (Boxed.on (w := w) (show Boxed w _ (w.alloc _) from Below.refl _ _) hb); have r0 := Boxed.row HK.out 0; have r1 := Boxed.row HK.out 1; have r2 := Boxed.row HK.out 2; have r3 := Boxed.row HK.out 3; have r4 := Boxed.row HK.out 4; have r5 := Boxed.row HK.out 5; have r6 := Boxed.row HK.out 6; have r7 := Boxed.row HK.out 7; have r8 := Boxed.row HK.out 8; clear hb))
  go_cut [5, 6, 7] (fun s5 s6 s7 W => Laid3 w a b a' b' a'' b'' c c' c'' s5 s6 s7 W)
  case first =>
    have hz1 : w.heap.size + 1 ≤ w1.heap.size := Boxed.room HK.out
    have hbk : Below w.heap.size w w1 := Boxed.end HK.out
    go_region_held3 (fun W => W.cell? ⟨w.heap.size, 0, none⟩ = some (.int .u32 a) ∧ W.cell? ⟨w.heap.size, 1, none⟩ = some (.int .u32 b) ∧ W.cell? ⟨w.heap.size, 2, none⟩ = some (.bool c) ∧ W.cell? ⟨w.heap.size, 3, none⟩ = some (.int .u32 a') ∧ W.cell? ⟨w.heap.size, 4, none⟩ = some (.int .u32 b') ∧ W.cell? ⟨w.heap.size, 5, none⟩ = some (.bool c') ∧ W.cell? ⟨w.heap.size, 6, none⟩ = some (.int .u32 a'') ∧ W.cell? ⟨w.heap.size, 7, none⟩ = some (.int .u32 b'') ∧ W.cell? ⟨w.heap.size, 8, none⟩ = some (.bool c'')) ((refine nine_of HK.out ?_; (repeat (first | exact Below.refl _ _ | refine Below.drew ?_ | refine Below.alloc ?_ (by first | omega | (simp; omega) | simp) _ | refine Below.setCell ?_ (by first | omega | (simp; omega) | simp) _)))) (fail)
    all_goals go_wp2
    all_goals go_meet
    all_goals exact laid_of (hbk.trans ((new_below _ _ _ _).mono hbk.size)) (by first | exact new0 _ _ _ _ | exact new1 _ _ _ _ | exact new2 _ _ _ _) (by first | exact new0 _ _ _ _ | exact new1 _ _ _ _ | exact new2 _ _ _ _) (by first | exact new0 _ _ _ _ | exact new1 _ _ _ _ | exact new2 _ _ _ _)
  case rest =>
    obtain ⟨x, y, z, rfl, rfl, rfl, ht⟩ := hcut
    have HT3 := Lib.hid ht
    rcases hv with ⟨rfl, rfl⟩ | ⟨rfl, rfl⟩
    · obtain ⟨-, ⟨x0, x1, x2⟩, -, -⟩ := ht
      go_wp2_with (go_at_call 20; ((with_reducible refine (L1.out _).mono ?_); rintro e w2 ⟨rfl, hb⟩; have HT4 := Lib.hid (HT3.out.on hb); clear hb))
      clear x0 x1 x2
      have hwm : IntKind.i64.wrap m = m := by rw [IntKind.wrap_i64]; omega
      refine wp_region_noPanic ?_
      refine wp_region_held_drew (S := fun W => (Trio w x y z a b a' b' a'' b'' c c' c'' W ∧ W.cell? ⟨x, 0, none⟩ = some (.int .u32 a) ∧ W.cell? ⟨x, 1, none⟩ = some (.int .u32 b) ∧ W.cell? ⟨x, 2, none⟩ = some (.bool c))) (by kernel_rfl) (Trio.x (Trio.on HT4.out (Below.refl _ _).drew)) (fun hHeld => ?_)
      (refine heldTake (i := 0) (oi := { dst := some 24, op := Op.move (Operand.tmp 8), type := 26, pos := "law.go:39", after := #[], guard := none }) (v := ?_) rfl (by kernel_rfl) (by kernel_rfl) (by kernel_rfl) (by assumption) ?_ ?_; rotate_left; focus (refine .inl ⟨by kernel_rfl, ?_⟩; intro w hSw; (try dsimp only at hSw); go_simp; (try with_reducible rfl)); (try simp only [Act.put, List.setIfInBounds_toArray, List.set_cons_zero, List.set_cons_succ]))
      (refine heldTake (i := 1) (oi := { dst := some 25, op := Op.binOp BinOp.eql 26 (Operand.tmp 24) (Operand.const (Value.int IntKind.i64 0)) 26, type := 4, pos := "law.go:39", after := #[{ on := 0, ground := Ground.data }], guard := none }) (v := ?_) rfl (by kernel_rfl) (by kernel_rfl) (by kernel_rfl) (by assumption) ?_ ?_; rotate_left; focus (refine .inl ⟨by kernel_rfl, ?_⟩; intro w hSw; (try dsimp only at hSw); go_simp; (try with_reducible rfl)); (try simp only [Act.put, List.setIfInBounds_toArray, List.set_cons_zero, List.set_cons_succ]))
      (refine heldTake (i := 2) (oi := { dst := some 26, op := Op.load 41 (Operand.tmp 5), type := 41, pos := "law.go:39", after := #[], guard := none }) (v := ?_) rfl (by kernel_rfl) (by kernel_rfl) (by kernel_rfl) (by assumption) ?_ ?_; rotate_left; focus (refine .inl ⟨by kernel_rfl, ?_⟩; intro w hSw; (try dsimp only at hSw); go_simp; (try with_reducible rfl)); (try simp only [Act.put, List.setIfInBounds_toArray, List.set_cons_zero, List.set_cons_succ]))
      (refine heldTake (i := 3) (oi := { dst := some 27, op := Op.move (Operand.tmp 1), type := 39, pos := "law.go:39", after := #[], guard := none }) (v := ?_) rfl (by kernel_rfl) (by kernel_rfl) (by kernel_rfl) (by assumption) ?_ ?_; rotate_left; focus (refine .inl ⟨by kernel_rfl, ?_⟩; intro w hSw; (try dsimp only at hSw); go_simp; (try with_reducible rfl)); (try simp only [Act.put, List.setIfInBounds_toArray, List.set_cons_zero, List.set_cons_succ]))
      (refine heldTake (i := 4) (oi := { dst := some 28, op := Op.convert 39 3 (Operand.tmp 27), type := 3, pos := "law.go:39", after := #[{ on := 3, ground := Ground.data }], guard := none }) (v := ?_) rfl (by kernel_rfl) (by kernel_rfl) (by kernel_rfl) (by assumption) ?_ ?_; rotate_left; focus (refine .inl ⟨by kernel_rfl, ?_⟩; intro w hSw; (try dsimp only at hSw); go_simp; (try with_reducible rfl)); (try simp only [Act.put, List.setIfInBounds_toArray, List.set_cons_zero, List.set_cons_succ]))
      refine wpAnyH_ready (rs := [5]) (by kernel_rfl) (by simp) ?_
      refine AllReadyH.cons (o := { dst := some 29, op := Op.call { callee := Callee.value (Operand.func 21), args := #[Operand.tmp 26, Operand.tmp 28], argTypes := #[41, 3] }, type := 4, pos := "law.go:39", after := #[{ on := 2, ground := Ground.data }, { on := 4, ground := Ground.data }], guard := none }) rfl (fun K hK => ?_) AllReadyH.nil
      go_simp
      (go_at_call 21; ((with_reducible refine (held_any (T := fun W => (Trio w x y z a b a' b' a'' b'' c c' c'' W ∧ W.cell? ⟨x, 0, none⟩ = some (.int .u32 a) ∧ W.cell? ⟨x, 1, none⟩ = some (.int .u32 b) ∧ W.cell? ⟨x, 2, none⟩ = some (.bool c))) (fun _ _ h hb => (h.1.on hb).x) L2.out hHeld).mono ?_); rintro e w' ⟨rfl, hk⟩))
      refine hK.out _ _ hk (fun hHeld5 => ?_)
      clear hK K hHeld
      (try simp only [Act.put, List.setIfInBounds_toArray, List.set_cons_zero, List.set_cons_succ])
      (refine heldTake (i := 6) (oi := { dst := some 30, op := Op.binOp BinOp.neq 4 (Operand.tmp 25) (Operand.tmp 29) 4, type := 4, pos := "law.go:39", after := #[{ on := 1, ground := Ground.data }, { on := 5, ground := Ground.data }], guard := none }) (v := ?_) rfl (by kernel_rfl) (by kernel_rfl) (by kernel_rfl) (by assumption) ?_ ?_; rotate_left; focus (refine .inl ⟨by kernel_rfl, ?_⟩; intro w hSw; (try dsimp only at hSw); go_simp; (try with_reducible rfl)); (try simp only [Act.put, List.setIfInBounds_toArray, List.set_cons_zero, List.set_cons_succ]))
      (refine heldTake (i := 7) (oi := { dst := some 31, op := Op.move (Operand.tmp 30), type := 4, pos := "law.go:39", after := #[{ on := 6, ground := Ground.data }, { on := 5, ground := Ground.chain }], guard := none }) (v := ?_) rfl (by kernel_rfl) (by kernel_rfl) (by kernel_rfl) (by assumption) ?_ ?_; rotate_left; focus (refine .inl ⟨by kernel_rfl, ?_⟩; intro w hSw; (try dsimp only at hSw); go_simp; (try with_reducible rfl)); (try simp only [Act.put, List.setIfInBounds_toArray, List.set_cons_zero, List.set_cons_succ]))
      (refine heldTake (i := 8) (oi := { dst := some 32, op := Op.move (Operand.tmp 8), type := 26, pos := "law.go:39", after := #[{ on := 7, ground := Ground.guard }], guard := some (7, false) }) (v := ?_) rfl (by kernel_rfl) (by kernel_rfl) (by kernel_rfl) (by assumption) ?_ ?_; rotate_left; focus (refine .inl ⟨by kernel_rfl, ?_⟩; intro w hSw; (try dsimp only at hSw); go_simp; (try with_reducible rfl)); (try simp only [Act.put, List.setIfInBounds_toArray, List.set_cons_zero, List.set_cons_succ]))
      (refine heldTake (i := 9) (oi := { dst := some 33, op := Op.binOp BinOp.neq 26 (Operand.tmp 32) (Operand.const (Value.int IntKind.i64 0)) 26, type := 4, pos := "law.go:39", after := #[{ on := 8, ground := Ground.data }, { on := 7, ground := Ground.guard }], guard := some (7, false) }) (v := ?_) rfl (by kernel_rfl) (by kernel_rfl) (by kernel_rfl) (by assumption) ?_ ?_; rotate_left; focus (refine .inl ⟨by kernel_rfl, ?_⟩; intro w hSw; (try dsimp only at hSw); go_simp; (try with_reducible rfl)); (try simp only [Act.put, List.setIfInBounds_toArray, List.set_cons_zero, List.set_cons_succ]))
      (refine heldTake (i := 10) (oi := { dst := some 34, op := Op.move (Operand.tmp 33), type := 4, pos := "law.go:39", after := #[{ on := 9, ground := Ground.data }, { on := 7, ground := Ground.chain }, { on := 7, ground := Ground.guard }], guard := some (7, false) }) (v := ?_) rfl (by kernel_rfl) (by kernel_rfl) (by kernel_rfl) (by assumption) ?_ ?_; rotate_left; focus (refine .inl ⟨by kernel_rfl, ?_⟩; intro w hSw; (try dsimp only at hSw); go_simp; (try with_reducible rfl)); (try simp only [Act.put, List.setIfInBounds_toArray, List.set_cons_zero, List.set_cons_succ]))
      (refine heldTake (i := 11) (oi := { dst := some 35, op := Op.move (Operand.tmp 8), type := 26, pos := "law.go:39", after := #[{ on := 10, ground := Ground.guard }], guard := some (10, true) }) (v := undef) rfl (by kernel_rfl) (by kernel_rfl) (by kernel_rfl) (by assumption) (.inr ⟨by kernel_rfl, rfl⟩) ?_; (try simp only [Act.put, List.setIfInBounds_toArray, List.set_cons_zero, List.set_cons_succ]))
      (refine heldTake (i := 12) (oi := { dst := some 36, op := Op.binOp BinOp.neq 26 (Operand.tmp 35) (Operand.const (Value.int IntKind.i64 26)) 26, type := 4, pos := "law.go:39", after := #[{ on := 11, ground := Ground.data }, { on := 10, ground := Ground.guard }], guard := some (10, true) }) (v := undef) rfl (by kernel_rfl) (by kernel_rfl) (by kernel_rfl) (by assumption) (.inr ⟨by kernel_rfl, rfl⟩) ?_; (try simp only [Act.put, List.setIfInBounds_toArray, List.set_cons_zero, List.set_cons_succ]))
      (refine heldTake (i := 13) (oi := { dst := some 37, op := Op.pick (Operand.tmp 34) (Operand.tmp 36) (Operand.const (Value.bool false)), type := 4, pos := "law.go:39", after := #[{ on := 10, ground := Ground.data }, { on := 12, ground := Ground.data }, { on := 7, ground := Ground.guard }], guard := some (7, false) }) (v := ?_) rfl (by kernel_rfl) (by kernel_rfl) (by kernel_rfl) (by assumption) ?_ ?_; rotate_left; focus (refine .inl ⟨by kernel_rfl, ?_⟩; intro w hSw; (try dsimp only at hSw); go_simp; (try with_reducible rfl)); (try simp only [Act.put, List.setIfInBounds_toArray, List.set_cons_zero, List.set_cons_succ]))
      (refine heldTake (i := 14) (oi := { dst := some 38, op := Op.pick (Operand.tmp 31) (Operand.const (Value.bool true)) (Operand.tmp 37), type := 4, pos := "law.go:39", after := #[{ on := 7, ground := Ground.data }, { on := 13, ground := Ground.data }], guard := none }) (v := ?_) rfl (by kernel_rfl) (by kernel_rfl) (by kernel_rfl) (by assumption) ?_ ?_; rotate_left; focus (refine .inl ⟨by kernel_rfl, ?_⟩; intro w hSw; (try dsimp only at hSw); go_simp; (try with_reducible rfl)); (try simp only [Act.put, List.setIfInBounds_toArray, List.set_cons_zero, List.set_cons_succ]))
      (refine heldTake (i := 15) (oi := { dst := some 39, op := Op.move (Operand.tmp 38), type := 4, pos := "law.go:39", after := #[{ on := 14, ground := Ground.data }, { on := 10, ground := Ground.chain }], guard := none }) (v := ?_) rfl (by kernel_rfl) (by kernel_rfl) (by kernel_rfl) (by assumption) ?_ ?_; rotate_left; focus (refine .inl ⟨by kernel_rfl, ?_⟩; intro w hSw; (try dsimp only at hSw); go_simp; (try with_reducible rfl)); (try simp only [Act.put, List.setIfInBounds_toArray, List.set_cons_zero, List.set_cons_succ]))
      (refine heldTake (i := 16) (oi := { dst := some 40, op := Op.load 41 (Operand.tmp 5), type := 41, pos := "law.go:39", after := #[{ on := 15, ground := Ground.guard }], guard := some (15, false) }) (v := ?_) rfl (by kernel_rfl) (by kernel_rfl) (by kernel_rfl) (by assumption) ?_ ?_; rotate_left; focus (refine .inl ⟨by kernel_rfl, ?_⟩; intro w hSw; (try dsimp only at hSw); go_simp; (try with_reducible rfl)); (try simp only [Act.put, List.setIfInBounds_toArray, List.set_cons_zero, List.set_cons_succ]))
      (refine heldTake (i := 19) (oi := { dst := some 43, op := Op.load 41 (Operand.tmp 5), type := 41, pos := "law.go:39", after := #[{ on := 15, ground := Ground.guard }], guard := some (15, false) }) (v := ?_) rfl (by kernel_rfl) (by kernel_rfl) (by kernel_rfl) (by assumption) ?_ ?_; rotate_left; focus (refine .inl ⟨by kernel_rfl, ?_⟩; intro w hSw; (try dsimp only at hSw); go_simp; (try with_reducible rfl)); (try simp only [Act.put, List.setIfInBounds_toArray, List.set_cons_zero, List.set_cons_succ]))
      refine wpAnyH_ready (rs := [17]) (by kernel_rfl) (by simp) ?_
      refine AllReadyH.cons (o := { dst := some 41, op := Op.call { callee := Callee.value (Operand.func 22), args := #[Operand.tmp 40], argTypes := #[41] }, type := 33, pos := "law.go:39", after := #[{ on := 16, ground := Ground.data }, { on := 15, ground := Ground.chain }, { on := 15, ground := Ground.guard }], guard := some (15, false) }) rfl (fun K hK => ?_) AllReadyH.nil
      go_simp
      (go_at_call 22; ((with_reducible refine (held_any_bytes (T := fun W => (Trio w x y z a b a' b' a'' b'' c c' c'' W ∧ W.cell? ⟨x, 0, none⟩ = some (.int .u32 a) ∧ W.cell? ⟨x, 1, none⟩ = some (.int .u32 b) ∧ W.cell? ⟨x, 2, none⟩ = some (.bool c))) (fun _ _ h hb => (h.1.on hb).x) E1.out hll hHeld5).mono ?_); rintro e w3 ⟨A1, c1, rfl, hk, hst, hcv⟩))
      refine hK.out _ _ hk (fun hHeld17 => ?_)
      clear hK K hHeld5
      (try simp only [Act.put, List.setIfInBounds_toArray, List.set_cons_zero, List.set_cons_succ])
      have hHeld17s := And.intro hHeld17 (And.intro hst hcv); clear hHeld17 hk hst hcv; refine held_imp (S' := fun W => (Trio w x y z a b a' b' a'' b'' c c' c'' W ∧ W.cell? ⟨x, 0, none⟩ = some (.int .u32 a) ∧ W.cell? ⟨x, 1, none⟩ = some (.int .u32 b) ∧ W.cell? ⟨x, 2, none⟩ = some (.bool c)) ∧ Stays A1 c1 l W ∧ (∀ dst, Tryd.prog.underlying dst = some .string → (convert 33 dst (.slice A1 l.length c1)).run Tryd.prog W = .ok (.string (S l)) W)) (fun _ h => h.1) _ _ _ _ ?_
      (refine heldTake (i := 18) (oi := { dst := some 42, op := Op.convert 33 9 (Operand.tmp 41), type := 9, pos := "law.go:39", after := #[{ on := 17, ground := Ground.data }, { on := 15, ground := Ground.guard }], guard := some (15, false) }) (v := ?_) rfl (by kernel_rfl) (by kernel_rfl) (by kernel_rfl) (by assumption) ?_ ?_; rotate_left; focus (refine .inl ⟨by kernel_rfl, ?_⟩; intro w hSw; (try dsimp only at hSw); go_simp; (try with_reducible rfl)); (try simp only [Act.put, List.setIfInBounds_toArray, List.set_cons_zero, List.set_cons_succ]))
      refine wpAnyH_ready (rs := [20]) (by kernel_rfl) (by simp) ?_
      refine AllReadyH.cons (o := { dst := some 44, op := Op.call { callee := Callee.value (Operand.func 23), args := #[Operand.tmp 43], argTypes := #[41] }, type := 9, pos := "law.go:39", after := #[{ on := 19, ground := Ground.data }, { on := 17, ground := Ground.chain }, { on := 15, ground := Ground.guard }], guard := some (15, false) }) rfl (fun K hK => ?_) AllReadyH.nil
      go_simp
      (go_at_call 23; ((with_reducible refine (held_any2 (T := fun W => (Trio w x y z a b a' b' a'' b'' c c' c'' W ∧ W.cell? ⟨x, 0, none⟩ = some (.int .u32 a) ∧ W.cell? ⟨x, 1, none⟩ = some (.int .u32 b) ∧ W.cell? ⟨x, 2, none⟩ = some (.bool c))) (fun _ _ h hb => (h.1.on hb).x) hll E2.out hHeld17s).mono ?_); rintro e w' ⟨rfl, hk⟩))
      refine hK.out _ _ hk (fun hHeld20 => ?_)
      clear hK K hHeld17s
      (try simp only [Act.put, List.setIfInBounds_toArray, List.set_cons_zero, List.set_cons_succ])
      (refine heldTake (i := 21) (oi := { dst := some 45, op := Op.binOp BinOp.neq 9 (Operand.tmp 42) (Operand.tmp 44) 9, type := 4, pos := "law.go:39", after := #[{ on := 18, ground := Ground.data }, { on := 20, ground := Ground.data }, { on := 15, ground := Ground.guard }], guard := some (15, false) }) (v := ?_) rfl (by kernel_rfl) (by kernel_rfl) (by kernel_rfl) (by assumption) ?_ ?_; rotate_left; focus (refine .inl ⟨by kernel_rfl, ?_⟩; intro w hSw; (try dsimp only at hSw); go_simp; (try with_reducible rfl)); (try simp only [Act.put, List.setIfInBounds_toArray, List.set_cons_zero, List.set_cons_succ]))
      (refine heldTake (i := 22) (oi := { dst := some 46, op := Op.pick (Operand.tmp 39) (Operand.const (Value.bool true)) (Operand.tmp 45), type := 4, pos := "law.go:39", after := #[{ on := 15, ground := Ground.data }, { on := 21, ground := Ground.data }], guard := none }) (v := ?_) rfl (by kernel_rfl) (by kernel_rfl) (by kernel_rfl) (by assumption) ?_ ?_; rotate_left; focus (refine .inl ⟨by kernel_rfl, ?_⟩; intro w hSw; (try dsimp only at hSw); go_simp; (try with_reducible rfl)); (try simp only [Act.put, List.setIfInBounds_toArray, List.set_cons_zero, List.set_cons_succ]))
      refine wpAnyH_done (by kernel_rfl) ?_ _
      refine NoPanic.normal ?_
      have hLast := hHeld20
      clear hHeld20
      have HT5 := Lib.hid hLast.1.1
      clear hLast
      go_upto_region 7 with fail
      simp only [Act.put, List.setIfInBounds_toArray, List.set_cons_zero, List.set_cons_succ]
      obtain ⟨-, ⟨x0, x1, x2⟩, ⟨y0, y1, y2⟩, -⟩ := HT5.out
      go_cut [9] (fun s9 W => s9 = .bool X ∧ Trio w x y z a b a' b' a'' b'' c c' c'' W)
      case first =>
        by_cases f1 : a' ≤ a
        · cases c'
          · have HF := Lib.hid (show X = true by rw [HX.out]; unfold fitB; simp [f1])
            go_wp2
            go_meet
            exact ⟨by rw [HF.out], HT5.out⟩
          · cases c
            · have HF := Lib.hid (show X = false by rw [HX.out]; unfold fitB; simp)
              go_wp2
              go_meet
              exact ⟨by rw [HF.out], HT5.out⟩
            · by_cases f2 : b ≤ b'
              · have HF := Lib.hid (show X = true by rw [HX.out]; unfold fitB; simp [f1, f2])
                go_wp2
                go_meet
                exact ⟨by rw [HF.out], HT5.out⟩
              · have HF := Lib.hid (show X = false by rw [HX.out]; unfold fitB; simp [f2])
                have d2 : decide (b ≤ b') = false := by simpa using f2
                go_wp2
                go_meet
                exact ⟨by rw [HF.out], HT5.out⟩
        · have HF := Lib.hid (show X = false by rw [HX.out]; unfold fitB; simp [f1])
          have d1 : decide (a' ≤ a) = false := by simpa using f1
          go_wp2
          go_meet
          exact ⟨by rw [HF.out], HT5.out⟩
      case rest =>
        clear x0 x1 x2 y0 y1 y2
        obtain ⟨rfl, ht6⟩ := hcut
        have HT6 := Lib.hid ht6
        clear ht6
        go_wp2
        go_region_held3 (fun W => (Trio w x y z a b a' b' a'' b'' c c' c'' W ∧ (W.cell? ⟨x, 0, none⟩ = some (.int .u32 a) ∧ W.cell? ⟨x, 1, none⟩ = some (.int .u32 b) ∧ W.cell? ⟨x, 2, none⟩ = some (.bool c)) ∧ (W.cell? ⟨y, 0, none⟩ = some (.int .u32 a') ∧ W.cell? ⟨y, 1, none⟩ = some (.int .u32 b') ∧ W.cell? ⟨y, 2, none⟩ = some (.bool c')) ∧ (W.cell? ⟨z, 0, none⟩ = some (.int .u32 a'') ∧ W.cell? ⟨z, 1, none⟩ = some (.int .u32 b'') ∧ W.cell? ⟨z, 2, none⟩ = some (.bool c'')))) (first | assumption | exact Trio.nine (Trio.on HT6.out (Below.refl _ _).drew))
          (first | (go_at_call 24; first | ((with_reducible refine (held_any (T := fun W => (Trio w x y z a b a' b' a'' b'' c c' c'' W ∧ (W.cell? ⟨x, 0, none⟩ = some (.int .u32 a) ∧ W.cell? ⟨x, 1, none⟩ = some (.int .u32 b) ∧ W.cell? ⟨x, 2, none⟩ = some (.bool c)) ∧ (W.cell? ⟨y, 0, none⟩ = some (.int .u32 a') ∧ W.cell? ⟨y, 1, none⟩ = some (.int .u32 b') ∧ W.cell? ⟨y, 2, none⟩ = some (.bool c')) ∧ (W.cell? ⟨z, 0, none⟩ = some (.int .u32 a'') ∧ W.cell? ⟨z, 1, none⟩ = some (.int .u32 b'') ∧ W.cell? ⟨z, 2, none⟩ = some (.bool c'')))) (fun _ _ h hb => (h.1.on hb).nine) F1.out ‹_›).mono ?_); rintro e w' ⟨rfl, hk⟩) | ((with_reducible refine (held_any (T := fun W => (Trio w x y z a b a' b' a'' b'' c c' c'' W ∧ (W.cell? ⟨x, 0, none⟩ = some (.int .u32 a) ∧ W.cell? ⟨x, 1, none⟩ = some (.int .u32 b) ∧ W.cell? ⟨x, 2, none⟩ = some (.bool c)) ∧ (W.cell? ⟨y, 0, none⟩ = some (.int .u32 a') ∧ W.cell? ⟨y, 1, none⟩ = some (.int .u32 b') ∧ W.cell? ⟨y, 2, none⟩ = some (.bool c')) ∧ (W.cell? ⟨z, 0, none⟩ = some (.int .u32 a'') ∧ W.cell? ⟨z, 1, none⟩ = some (.int .u32 b'') ∧ W.cell? ⟨z, 2, none⟩ = some (.bool c'')))) (fun _ _ h hb => (h.1.on hb).nine) F2.out ‹_›).mono ?_); rintro e w' ⟨rfl, hk⟩) | ((with_reducible refine (held_any (T := fun W => (Trio w x y z a b a' b' a'' b'' c c' c'' W ∧ (W.cell? ⟨x, 0, none⟩ = some (.int .u32 a) ∧ W.cell? ⟨x, 1, none⟩ = some (.int .u32 b) ∧ W.cell? ⟨x, 2, none⟩ = some (.bool c)) ∧ (W.cell? ⟨y, 0, none⟩ = some (.int .u32 a') ∧ W.cell? ⟨y, 1, none⟩ = some (.int .u32 b') ∧ W.cell? ⟨y, 2, none⟩ = some (.bool c')) ∧ (W.cell? ⟨z, 0, none⟩ = some (.int .u32 a'') ∧ W.cell? ⟨z, 1, none⟩ = some (.int .u32 b'') ∧ W.cell? ⟨z, 2, none⟩ = some (.bool c'')))) (fun _ _ h hb => (h.1.on hb).nine) F3.out ‹_›).mono ?_); rintro e w' ⟨rfl, hk⟩)))
        obtain ⟨ht7, ⟨x0, x1, x2⟩, -, -⟩ := hk
        have HT7 := Lib.hid ht7
        clear ht7
        rcases X with _ | _
        · go_wp2_with (go_at_call 24; ((with_reducible refine (F0.out _).mono ?_); rintro e w8 ⟨rfl, hb8⟩; have H8 := Lib.hid hb8; clear hb8))
          go_ret
          exact ⟨rfl, (HT7.out.on H8.out).1.1⟩
        · rcases Y with _ | _
          · go_wp2_with (go_at_call 24; ((with_reducible refine (F0.out _).mono ?_); rintro e w8 ⟨rfl, hb8⟩; have H8 := Lib.hid hb8; clear hb8))
            go_ret
            exact ⟨rfl, (HT7.out.on H8.out).1.1⟩
          · obtain rfl : Z = true := HXYZ.out rfl rfl
            go_wp2_with (go_at_call 24; ((with_reducible refine (F0.out _).mono ?_); rintro e w8 ⟨rfl, hb8⟩; have H8 := Lib.hid hb8; clear hb8))
            go_ret
            exact ⟨rfl, (HT7.out.on H8.out).1.1⟩
    · obtain ⟨-, ⟨x0, x1, x2⟩, -, -⟩ := ht
      go_wp2_with (go_at_call 20; ((with_reducible refine (L1.out _).mono ?_); rintro e w2 ⟨rfl, hb⟩; have HT4 := Lib.hid (HT3.out.on hb); clear hb))
      clear x0 x1 x2
      have hwm : IntKind.i64.wrap m = m := by rw [IntKind.wrap_i64]; omega
      refine wp_region_noPanic ?_
      refine wp_region_held_drew (S := fun W => (Trio w x y z a b a' b' a'' b'' c c' c'' W ∧ W.cell? ⟨x, 0, none⟩ = some (.int .u32 a) ∧ W.cell? ⟨x, 1, none⟩ = some (.int .u32 b) ∧ W.cell? ⟨x, 2, none⟩ = some (.bool c))) (by kernel_rfl) (Trio.x (Trio.on HT4.out (Below.refl _ _).drew)) (fun hHeld => ?_)
      (refine heldTake (i := 0) (oi := { dst := some 24, op := Op.move (Operand.tmp 8), type := 26, pos := "law.go:39", after := #[], guard := none }) (v := ?_) rfl (by kernel_rfl) (by kernel_rfl) (by kernel_rfl) (by assumption) ?_ ?_; rotate_left; focus (refine .inl ⟨by kernel_rfl, ?_⟩; intro w hSw; (try dsimp only at hSw); go_simp; (try with_reducible rfl)); (try simp only [Act.put, List.setIfInBounds_toArray, List.set_cons_zero, List.set_cons_succ]))
      (refine heldTake (i := 1) (oi := { dst := some 25, op := Op.binOp BinOp.eql 26 (Operand.tmp 24) (Operand.const (Value.int IntKind.i64 0)) 26, type := 4, pos := "law.go:39", after := #[{ on := 0, ground := Ground.data }], guard := none }) (v := ?_) rfl (by kernel_rfl) (by kernel_rfl) (by kernel_rfl) (by assumption) ?_ ?_; rotate_left; focus (refine .inl ⟨by kernel_rfl, ?_⟩; intro w hSw; (try dsimp only at hSw); go_simp; (try with_reducible rfl)); (try simp only [Act.put, List.setIfInBounds_toArray, List.set_cons_zero, List.set_cons_succ]))
      (refine heldTake (i := 2) (oi := { dst := some 26, op := Op.load 41 (Operand.tmp 5), type := 41, pos := "law.go:39", after := #[], guard := none }) (v := ?_) rfl (by kernel_rfl) (by kernel_rfl) (by kernel_rfl) (by assumption) ?_ ?_; rotate_left; focus (refine .inl ⟨by kernel_rfl, ?_⟩; intro w hSw; (try dsimp only at hSw); go_simp; (try with_reducible rfl)); (try simp only [Act.put, List.setIfInBounds_toArray, List.set_cons_zero, List.set_cons_succ]))
      (refine heldTake (i := 3) (oi := { dst := some 27, op := Op.move (Operand.tmp 1), type := 39, pos := "law.go:39", after := #[], guard := none }) (v := ?_) rfl (by kernel_rfl) (by kernel_rfl) (by kernel_rfl) (by assumption) ?_ ?_; rotate_left; focus (refine .inl ⟨by kernel_rfl, ?_⟩; intro w hSw; (try dsimp only at hSw); go_simp; (try with_reducible rfl)); (try simp only [Act.put, List.setIfInBounds_toArray, List.set_cons_zero, List.set_cons_succ]))
      (refine heldTake (i := 4) (oi := { dst := some 28, op := Op.convert 39 3 (Operand.tmp 27), type := 3, pos := "law.go:39", after := #[{ on := 3, ground := Ground.data }], guard := none }) (v := ?_) rfl (by kernel_rfl) (by kernel_rfl) (by kernel_rfl) (by assumption) ?_ ?_; rotate_left; focus (refine .inl ⟨by kernel_rfl, ?_⟩; intro w hSw; (try dsimp only at hSw); go_simp; (try with_reducible rfl)); (try simp only [Act.put, List.setIfInBounds_toArray, List.set_cons_zero, List.set_cons_succ]))
      refine wpAnyH_ready (rs := [5]) (by kernel_rfl) (by simp) ?_
      refine AllReadyH.cons (o := { dst := some 29, op := Op.call { callee := Callee.value (Operand.func 21), args := #[Operand.tmp 26, Operand.tmp 28], argTypes := #[41, 3] }, type := 4, pos := "law.go:39", after := #[{ on := 2, ground := Ground.data }, { on := 4, ground := Ground.data }], guard := none }) rfl (fun K hK => ?_) AllReadyH.nil
      go_simp
      (go_at_call 21; ((with_reducible refine (held_any (T := fun W => (Trio w x y z a b a' b' a'' b'' c c' c'' W ∧ W.cell? ⟨x, 0, none⟩ = some (.int .u32 a) ∧ W.cell? ⟨x, 1, none⟩ = some (.int .u32 b) ∧ W.cell? ⟨x, 2, none⟩ = some (.bool c))) (fun _ _ h hb => (h.1.on hb).x) L2.out hHeld).mono ?_); rintro e w' ⟨rfl, hk⟩))
      refine hK.out _ _ hk (fun hHeld5 => ?_)
      clear hK K hHeld
      (try simp only [Act.put, List.setIfInBounds_toArray, List.set_cons_zero, List.set_cons_succ])
      (refine heldTake (i := 6) (oi := { dst := some 30, op := Op.binOp BinOp.neq 4 (Operand.tmp 25) (Operand.tmp 29) 4, type := 4, pos := "law.go:39", after := #[{ on := 1, ground := Ground.data }, { on := 5, ground := Ground.data }], guard := none }) (v := ?_) rfl (by kernel_rfl) (by kernel_rfl) (by kernel_rfl) (by assumption) ?_ ?_; rotate_left; focus (refine .inl ⟨by kernel_rfl, ?_⟩; intro w hSw; (try dsimp only at hSw); go_simp; (try with_reducible rfl)); (try simp only [Act.put, List.setIfInBounds_toArray, List.set_cons_zero, List.set_cons_succ]))
      (refine heldTake (i := 7) (oi := { dst := some 31, op := Op.move (Operand.tmp 30), type := 4, pos := "law.go:39", after := #[{ on := 6, ground := Ground.data }, { on := 5, ground := Ground.chain }], guard := none }) (v := ?_) rfl (by kernel_rfl) (by kernel_rfl) (by kernel_rfl) (by assumption) ?_ ?_; rotate_left; focus (refine .inl ⟨by kernel_rfl, ?_⟩; intro w hSw; (try dsimp only at hSw); go_simp; (try with_reducible rfl)); (try simp only [Act.put, List.setIfInBounds_toArray, List.set_cons_zero, List.set_cons_succ]))
      (refine heldTake (i := 8) (oi := { dst := some 32, op := Op.move (Operand.tmp 8), type := 26, pos := "law.go:39", after := #[{ on := 7, ground := Ground.guard }], guard := some (7, false) }) (v := ?_) rfl (by kernel_rfl) (by kernel_rfl) (by kernel_rfl) (by assumption) ?_ ?_; rotate_left; focus (refine .inl ⟨by kernel_rfl, ?_⟩; intro w hSw; (try dsimp only at hSw); go_simp; (try with_reducible rfl)); (try simp only [Act.put, List.setIfInBounds_toArray, List.set_cons_zero, List.set_cons_succ]))
      (refine heldTake (i := 9) (oi := { dst := some 33, op := Op.binOp BinOp.neq 26 (Operand.tmp 32) (Operand.const (Value.int IntKind.i64 0)) 26, type := 4, pos := "law.go:39", after := #[{ on := 8, ground := Ground.data }, { on := 7, ground := Ground.guard }], guard := some (7, false) }) (v := ?_) rfl (by kernel_rfl) (by kernel_rfl) (by kernel_rfl) (by assumption) ?_ ?_; rotate_left; focus (refine .inl ⟨by kernel_rfl, ?_⟩; intro w hSw; (try dsimp only at hSw); go_simp; (try with_reducible rfl)); (try simp only [Act.put, List.setIfInBounds_toArray, List.set_cons_zero, List.set_cons_succ]))
      (refine heldTake (i := 10) (oi := { dst := some 34, op := Op.move (Operand.tmp 33), type := 4, pos := "law.go:39", after := #[{ on := 9, ground := Ground.data }, { on := 7, ground := Ground.chain }, { on := 7, ground := Ground.guard }], guard := some (7, false) }) (v := ?_) rfl (by kernel_rfl) (by kernel_rfl) (by kernel_rfl) (by assumption) ?_ ?_; rotate_left; focus (refine .inl ⟨by kernel_rfl, ?_⟩; intro w hSw; (try dsimp only at hSw); go_simp; (try with_reducible rfl)); (try simp only [Act.put, List.setIfInBounds_toArray, List.set_cons_zero, List.set_cons_succ]))
      (refine heldTake (i := 11) (oi := { dst := some 35, op := Op.move (Operand.tmp 8), type := 26, pos := "law.go:39", after := #[{ on := 10, ground := Ground.guard }], guard := some (10, true) }) (v := ?_) rfl (by kernel_rfl) (by kernel_rfl) (by kernel_rfl) (by assumption) ?_ ?_; rotate_left; focus (refine .inl ⟨by kernel_rfl, ?_⟩; intro w hSw; (try dsimp only at hSw); go_simp; (try with_reducible rfl)); (try simp only [Act.put, List.setIfInBounds_toArray, List.set_cons_zero, List.set_cons_succ]))
      (refine heldTake (i := 12) (oi := { dst := some 36, op := Op.binOp BinOp.neq 26 (Operand.tmp 35) (Operand.const (Value.int IntKind.i64 26)) 26, type := 4, pos := "law.go:39", after := #[{ on := 11, ground := Ground.data }, { on := 10, ground := Ground.guard }], guard := some (10, true) }) (v := ?_) rfl (by kernel_rfl) (by kernel_rfl) (by kernel_rfl) (by assumption) ?_ ?_; rotate_left; focus (refine .inl ⟨by kernel_rfl, ?_⟩; intro w hSw; (try dsimp only at hSw); go_simp; (try with_reducible rfl)); (try simp only [Act.put, List.setIfInBounds_toArray, List.set_cons_zero, List.set_cons_succ]))
      (refine heldTake (i := 13) (oi := { dst := some 37, op := Op.pick (Operand.tmp 34) (Operand.tmp 36) (Operand.const (Value.bool false)), type := 4, pos := "law.go:39", after := #[{ on := 10, ground := Ground.data }, { on := 12, ground := Ground.data }, { on := 7, ground := Ground.guard }], guard := some (7, false) }) (v := ?_) rfl (by kernel_rfl) (by kernel_rfl) (by kernel_rfl) (by assumption) ?_ ?_; rotate_left; focus (refine .inl ⟨by kernel_rfl, ?_⟩; intro w hSw; (try dsimp only at hSw); go_simp; (try with_reducible rfl)); (try simp only [Act.put, List.setIfInBounds_toArray, List.set_cons_zero, List.set_cons_succ]))
      (refine heldTake (i := 14) (oi := { dst := some 38, op := Op.pick (Operand.tmp 31) (Operand.const (Value.bool true)) (Operand.tmp 37), type := 4, pos := "law.go:39", after := #[{ on := 7, ground := Ground.data }, { on := 13, ground := Ground.data }], guard := none }) (v := ?_) rfl (by kernel_rfl) (by kernel_rfl) (by kernel_rfl) (by assumption) ?_ ?_; rotate_left; focus (refine .inl ⟨by kernel_rfl, ?_⟩; intro w hSw; (try dsimp only at hSw); go_simp; (try with_reducible rfl)); (try simp only [Act.put, List.setIfInBounds_toArray, List.set_cons_zero, List.set_cons_succ]))
      (refine heldTake (i := 15) (oi := { dst := some 39, op := Op.move (Operand.tmp 38), type := 4, pos := "law.go:39", after := #[{ on := 14, ground := Ground.data }, { on := 10, ground := Ground.chain }], guard := none }) (v := ?_) rfl (by kernel_rfl) (by kernel_rfl) (by kernel_rfl) (by assumption) ?_ ?_; rotate_left; focus (refine .inl ⟨by kernel_rfl, ?_⟩; intro w hSw; (try dsimp only at hSw); go_simp; (try with_reducible rfl)); (try simp only [Act.put, List.setIfInBounds_toArray, List.set_cons_zero, List.set_cons_succ]))
      (refine heldTake (i := 16) (oi := { dst := some 40, op := Op.load 41 (Operand.tmp 5), type := 41, pos := "law.go:39", after := #[{ on := 15, ground := Ground.guard }], guard := some (15, false) }) (v := ?_) rfl (by kernel_rfl) (by kernel_rfl) (by kernel_rfl) (by assumption) ?_ ?_; rotate_left; focus (refine .inl ⟨by kernel_rfl, ?_⟩; intro w hSw; (try dsimp only at hSw); go_simp; (try with_reducible rfl)); (try simp only [Act.put, List.setIfInBounds_toArray, List.set_cons_zero, List.set_cons_succ]))
      (refine heldTake (i := 19) (oi := { dst := some 43, op := Op.load 41 (Operand.tmp 5), type := 41, pos := "law.go:39", after := #[{ on := 15, ground := Ground.guard }], guard := some (15, false) }) (v := ?_) rfl (by kernel_rfl) (by kernel_rfl) (by kernel_rfl) (by assumption) ?_ ?_; rotate_left; focus (refine .inl ⟨by kernel_rfl, ?_⟩; intro w hSw; (try dsimp only at hSw); go_simp; (try with_reducible rfl)); (try simp only [Act.put, List.setIfInBounds_toArray, List.set_cons_zero, List.set_cons_succ]))
      refine wpAnyH_ready (rs := [17]) (by kernel_rfl) (by simp) ?_
      refine AllReadyH.cons (o := { dst := some 41, op := Op.call { callee := Callee.value (Operand.func 22), args := #[Operand.tmp 40], argTypes := #[41] }, type := 33, pos := "law.go:39", after := #[{ on := 16, ground := Ground.data }, { on := 15, ground := Ground.chain }, { on := 15, ground := Ground.guard }], guard := some (15, false) }) rfl (fun K hK => ?_) AllReadyH.nil
      go_simp
      (go_at_call 22; ((with_reducible refine (held_any_bytes (T := fun W => (Trio w x y z a b a' b' a'' b'' c c' c'' W ∧ W.cell? ⟨x, 0, none⟩ = some (.int .u32 a) ∧ W.cell? ⟨x, 1, none⟩ = some (.int .u32 b) ∧ W.cell? ⟨x, 2, none⟩ = some (.bool c))) (fun _ _ h hb => (h.1.on hb).x) E1.out hll hHeld5).mono ?_); rintro e w3 ⟨A1, c1, rfl, hk, hst, hcv⟩))
      refine hK.out _ _ hk (fun hHeld17 => ?_)
      clear hK K hHeld5
      (try simp only [Act.put, List.setIfInBounds_toArray, List.set_cons_zero, List.set_cons_succ])
      have hHeld17s := And.intro hHeld17 (And.intro hst hcv); clear hHeld17 hk hst hcv; refine held_imp (S' := fun W => (Trio w x y z a b a' b' a'' b'' c c' c'' W ∧ W.cell? ⟨x, 0, none⟩ = some (.int .u32 a) ∧ W.cell? ⟨x, 1, none⟩ = some (.int .u32 b) ∧ W.cell? ⟨x, 2, none⟩ = some (.bool c)) ∧ Stays A1 c1 l W ∧ (∀ dst, Tryd.prog.underlying dst = some .string → (convert 33 dst (.slice A1 l.length c1)).run Tryd.prog W = .ok (.string (S l)) W)) (fun _ h => h.1) _ _ _ _ ?_
      (refine heldTake (i := 18) (oi := { dst := some 42, op := Op.convert 33 9 (Operand.tmp 41), type := 9, pos := "law.go:39", after := #[{ on := 17, ground := Ground.data }, { on := 15, ground := Ground.guard }], guard := some (15, false) }) (v := ?_) rfl (by kernel_rfl) (by kernel_rfl) (by kernel_rfl) (by assumption) ?_ ?_; rotate_left; focus (refine .inl ⟨by kernel_rfl, ?_⟩; intro w hSw; (try dsimp only at hSw); go_simp; (try with_reducible rfl)); (try simp only [Act.put, List.setIfInBounds_toArray, List.set_cons_zero, List.set_cons_succ]))
      refine wpAnyH_ready (rs := [20]) (by kernel_rfl) (by simp) ?_
      refine AllReadyH.cons (o := { dst := some 44, op := Op.call { callee := Callee.value (Operand.func 23), args := #[Operand.tmp 43], argTypes := #[41] }, type := 9, pos := "law.go:39", after := #[{ on := 19, ground := Ground.data }, { on := 17, ground := Ground.chain }, { on := 15, ground := Ground.guard }], guard := some (15, false) }) rfl (fun K hK => ?_) AllReadyH.nil
      go_simp
      (go_at_call 23; ((with_reducible refine (held_any2 (T := fun W => (Trio w x y z a b a' b' a'' b'' c c' c'' W ∧ W.cell? ⟨x, 0, none⟩ = some (.int .u32 a) ∧ W.cell? ⟨x, 1, none⟩ = some (.int .u32 b) ∧ W.cell? ⟨x, 2, none⟩ = some (.bool c))) (fun _ _ h hb => (h.1.on hb).x) hll E2.out hHeld17s).mono ?_); rintro e w' ⟨rfl, hk⟩))
      refine hK.out _ _ hk (fun hHeld20 => ?_)
      clear hK K hHeld17s
      (try simp only [Act.put, List.setIfInBounds_toArray, List.set_cons_zero, List.set_cons_succ])
      (refine heldTake (i := 21) (oi := { dst := some 45, op := Op.binOp BinOp.neq 9 (Operand.tmp 42) (Operand.tmp 44) 9, type := 4, pos := "law.go:39", after := #[{ on := 18, ground := Ground.data }, { on := 20, ground := Ground.data }, { on := 15, ground := Ground.guard }], guard := some (15, false) }) (v := ?_) rfl (by kernel_rfl) (by kernel_rfl) (by kernel_rfl) (by assumption) ?_ ?_; rotate_left; focus (refine .inl ⟨by kernel_rfl, ?_⟩; intro w hSw; (try dsimp only at hSw); go_simp; (try with_reducible rfl)); (try simp only [Act.put, List.setIfInBounds_toArray, List.set_cons_zero, List.set_cons_succ]))
      (refine heldTake (i := 22) (oi := { dst := some 46, op := Op.pick (Operand.tmp 39) (Operand.const (Value.bool true)) (Operand.tmp 45), type := 4, pos := "law.go:39", after := #[{ on := 15, ground := Ground.data }, { on := 21, ground := Ground.data }], guard := none }) (v := ?_) rfl (by kernel_rfl) (by kernel_rfl) (by kernel_rfl) (by assumption) ?_ ?_; rotate_left; focus (refine .inl ⟨by kernel_rfl, ?_⟩; intro w hSw; (try dsimp only at hSw); go_simp; (try with_reducible rfl)); (try simp only [Act.put, List.setIfInBounds_toArray, List.set_cons_zero, List.set_cons_succ]))
      refine wpAnyH_done (by kernel_rfl) ?_ _
      refine NoPanic.normal ?_
      have hLast := hHeld20
      clear hHeld20
      have HT5 := Lib.hid hLast.1.1
      clear hLast
      go_upto_region 7 with fail
      simp only [Act.put, List.setIfInBounds_toArray, List.set_cons_zero, List.set_cons_succ]
      obtain ⟨-, ⟨x0, x1, x2⟩, ⟨y0, y1, y2⟩, -⟩ := HT5.out
      go_cut [9] (fun s9 W => s9 = .bool X ∧ Trio w x y z a b a' b' a'' b'' c c' c'' W)
      case first =>
        by_cases f1 : a' ≤ a
        · cases c'
          · have HF := Lib.hid (show X = true by rw [HX.out]; unfold fitB; simp [f1])
            go_wp2
            go_meet
            exact ⟨by rw [HF.out], HT5.out⟩
          · cases c
            · have HF := Lib.hid (show X = false by rw [HX.out]; unfold fitB; simp)
              go_wp2
              go_meet
              exact ⟨by rw [HF.out], HT5.out⟩
            · by_cases f2 : b ≤ b'
              · have HF := Lib.hid (show X = true by rw [HX.out]; unfold fitB; simp [f1, f2])
                go_wp2
                go_meet
                exact ⟨by rw [HF.out], HT5.out⟩
              · have HF := Lib.hid (show X = false by rw [HX.out]; unfold fitB; simp [f2])
                have d2 : decide (b ≤ b') = false := by simpa using f2
                go_wp2
                go_meet
                exact ⟨by rw [HF.out], HT5.out⟩
        · have HF := Lib.hid (show X = false by rw [HX.out]; unfold fitB; simp [f1])
          have d1 : decide (a' ≤ a) = false := by simpa using f1
          go_wp2
          go_meet
          exact ⟨by rw [HF.out], HT5.out⟩
      case rest =>
        clear x0 x1 x2 y0 y1 y2
        obtain ⟨rfl, ht6⟩ := hcut
        have HT6 := Lib.hid ht6
        clear ht6
        go_wp2
        go_region_held3 (fun W => (Trio w x y z a b a' b' a'' b'' c c' c'' W ∧ (W.cell? ⟨x, 0, none⟩ = some (.int .u32 a) ∧ W.cell? ⟨x, 1, none⟩ = some (.int .u32 b) ∧ W.cell? ⟨x, 2, none⟩ = some (.bool c)) ∧ (W.cell? ⟨y, 0, none⟩ = some (.int .u32 a') ∧ W.cell? ⟨y, 1, none⟩ = some (.int .u32 b') ∧ W.cell? ⟨y, 2, none⟩ = some (.bool c')) ∧ (W.cell? ⟨z, 0, none⟩ = some (.int .u32 a'') ∧ W.cell? ⟨z, 1, none⟩ = some (.int .u32 b'') ∧ W.cell? ⟨z, 2, none⟩ = some (.bool c'')))) (first | assumption | exact Trio.nine (Trio.on HT6.out (Below.refl _ _).drew))
          (first | (go_at_call 24; first | ((with_reducible refine (held_any (T := fun W => (Trio w x y z a b a' b' a'' b'' c c' c'' W ∧ (W.cell? ⟨x, 0, none⟩ = some (.int .u32 a) ∧ W.cell? ⟨x, 1, none⟩ = some (.int .u32 b) ∧ W.cell? ⟨x, 2, none⟩ = some (.bool c)) ∧ (W.cell? ⟨y, 0, none⟩ = some (.int .u32 a') ∧ W.cell? ⟨y, 1, none⟩ = some (.int .u32 b') ∧ W.cell? ⟨y, 2, none⟩ = some (.bool c')) ∧ (W.cell? ⟨z, 0, none⟩ = some (.int .u32 a'') ∧ W.cell? ⟨z, 1, none⟩ = some (.int .u32 b'') ∧ W.cell? ⟨z, 2, none⟩ = some (.bool c'')))) (fun _ _ h hb => (h.1.on hb).nine) F1.out ‹_›).mono ?_); rintro e w' ⟨rfl, hk⟩) | ((with_reducible refine (held_any (T := fun W => (Trio w x y z a b a' b' a'' b'' c c' c'' W ∧ (W.cell? ⟨x, 0, none⟩ = some (.int .u32 a) ∧ W.cell? ⟨x, 1, none⟩ = some (.int .u32 b) ∧ W.cell? ⟨x, 2, none⟩ = some (.bool c)) ∧ (W.cell? ⟨y, 0, none⟩ = some (.int .u32 a') ∧ W.cell? ⟨y, 1, none⟩ = some (.int .u32 b') ∧ W.cell? ⟨y, 2, none⟩ = some (.bool c')) ∧ (W.cell? ⟨z, 0, none⟩ = some (.int .u32 a'') ∧ W.cell? ⟨z, 1, none⟩ = some (.int .u32 b'') ∧ W.cell? ⟨z, 2, none⟩ = some (.bool c'')))) (fun _ _ h hb => (h.1.on hb).nine) F2.out ‹_›).mono ?_); rintro e w' ⟨rfl, hk⟩) | ((with_reducible refine (held_any (T := fun W => (Trio w x y z a b a' b' a'' b'' c c' c'' W ∧ (W.cell? ⟨x, 0, none⟩ = some (.int .u32 a) ∧ W.cell? ⟨x, 1, none⟩ = some (.int .u32 b) ∧ W.cell? ⟨x, 2, none⟩ = some (.bool c)) ∧ (W.cell? ⟨y, 0, none⟩ = some (.int .u32 a') ∧ W.cell? ⟨y, 1, none⟩ = some (.int .u32 b') ∧ W.cell? ⟨y, 2, none⟩ = some (.bool c')) ∧ (W.cell? ⟨z, 0, none⟩ = some (.int .u32 a'') ∧ W.cell? ⟨z, 1, none⟩ = some (.int .u32 b'') ∧ W.cell? ⟨z, 2, none⟩ = some (.bool c'')))) (fun _ _ h hb => (h.1.on hb).nine) F3.out ‹_›).mono ?_); rintro e w' ⟨rfl, hk⟩)))
        obtain ⟨ht7, ⟨x0, x1, x2⟩, -, -⟩ := hk
        have HT7 := Lib.hid ht7
        clear ht7
        rcases X with _ | _
        · go_wp2_with (go_at_call 24; ((with_reducible refine (F0.out _).mono ?_); rintro e w8 ⟨rfl, hb8⟩; have H8 := Lib.hid hb8; clear hb8))
          go_ret
          exact ⟨rfl, (HT7.out.on H8.out).1.1⟩
        · rcases Y with _ | _
          · go_wp2_with (go_at_call 24; ((with_reducible refine (F0.out _).mono ?_); rintro e w8 ⟨rfl, hb8⟩; have H8 := Lib.hid hb8; clear hb8))
            go_ret
            exact ⟨rfl, (HT7.out.on H8.out).1.1⟩
          · obtain rfl : Z = true := HXYZ.out rfl rfl
            go_wp2_with (go_at_call 24; ((with_reducible refine (F0.out _).mono ?_); rintro e w8 ⟨rfl, hb8⟩; have H8 := Lib.hid hb8; clear hb8))
            go_ret
            exact ⟨rfl, (HT7.out.on H8.out).1.1⟩
theorem limits_all (a b a' b' a'' b'' : Int) (c c' c'' : Bool) (m : Int) (w : World) (hT : Tab w) (a0 : 0 ≤ a) (a1 : a ≤ 4294967295) (b0 : 0 ≤ b) (b1 : b ≤ 4294967295) (m0 : 0 ≤ m) (m1 : m ≤ 4294967295) :
    Calls Tryd.prog 4 #[.agg #[.int .u32 a, .int .u32 b, .bool c, .int .u32 a', .int .u32 b', .bool c', .int .u32 a'', .int .u32 b'', .bool c''], .int .u32 m] w fun e w' => e = .returned (.bool true) ∧ Below w.heap.size w w' := by
  cases h : limB a b c m
  · exact limits_law a b a' b' a'' b'' c c' c'' m 26 false w hT (.inr ⟨rfl, rfl⟩) (limZ_no h) h a0 a1 b0 b1 m0 m1
  · exact limits_law a b a' b' a'' b'' c c' c'' m 0 true w hT (.inl ⟨rfl, rfl⟩) (limZ_yes h) h a0 a1 b0 b1 m0 m1
end Go.Proofs.YtlhjgjplnaoieaaDoor
