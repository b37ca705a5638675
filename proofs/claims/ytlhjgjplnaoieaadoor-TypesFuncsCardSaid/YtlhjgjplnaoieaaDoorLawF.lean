/- The walk of TypesFuncs. -/
import Derived.Test.YtlhjgjplnaoieaaDoorREnc
import Derived.Test.YtlhjgjplnaoieaaDoorHeld
namespace Go.Proofs.YtlhjgjplnaoieaaDoor
open Go.RowKit

theorem Boxed.tab {w W : World} {o : Obj} (h : Boxed w o W) (hT : Tab w) : Tab W := (hT.alloc o).far h (Nat.lt_succ_of_lt hT.lt)
/-- The same where the callee reads types.names. -/
theorem held_tab {K : Nat} {args : Array Value} {w : World} {u v : Value} {t : TypeId} {R : Ending → Prop} (hN : ∀ w, Tab w → Calls Tryd.prog K args w fun e w' => R e ∧ Below w.heap.size w w') (hT : Tab w) {W : World}
    (h : Boxed w (.cells #[u, v] t) W ∧ W.cell? ⟨w.heap.size, 0, none⟩ = some u ∧ W.cell? ⟨w.heap.size, 1, none⟩ = some v) :
    Calls Tryd.prog K args W fun e w' => R e ∧ Boxed w (.cells #[u, v] t) w' ∧ w'.cell? ⟨w.heap.size, 0, none⟩ = some u ∧ w'.cell? ⟨w.heap.size, 1, none⟩ = some v :=
  (hN W (h.1.tab hT)).mono fun _ _ ⟨h1, h2⟩ => ⟨h1, h.1.on h2, (h.1.on h2).row 0, (h.1.on h2).row 1⟩
/-- A function that hands bytes back, where a box is held. -/
theorem held_bytes {K : Nat} {args : Array Value} {w : World} {u v : Value} {t : TypeId} {l : List UInt8} (hN : ∀ w, Calls Tryd.prog K args w (BytesL l w)) (hl : 0 < l.length) {W : World}
    (h : Boxed w (.cells #[u, v] t) W ∧ W.cell? ⟨w.heap.size, 0, none⟩ = some u ∧ W.cell? ⟨w.heap.size, 1, none⟩ = some v) :
    Calls Tryd.prog K args W fun e w' => ∃ A c, e = .returned (.slice A l.length c) ∧ (Boxed w (.cells #[u, v] t) w' ∧ w'.cell? ⟨w.heap.size, 0, none⟩ = some u ∧ w'.cell? ⟨w.heap.size, 1, none⟩ = some v) ∧ Stays A c l w' ∧
      (∀ dst, Tryd.prog.underlying dst = some .string → (convert 33 dst (.slice A l.length c)).run Tryd.prog w' = .ok (.string (S l)) w') :=
  (hN W).mono fun _ _ ⟨_, h1, h2, h3⟩ => by
    obtain ⟨A, c, rfl, h4⟩ := h2.lies
    exact ⟨A, c, h1, ⟨h.1.on h3, (h.1.on h3).row 0, (h.1.on h3).row 1⟩, ⟨_, Nat.le_refl _, h4⟩, Stays.str ⟨_, Nat.le_refl _, h4⟩ hl⟩
/-- The same as held_two and held_tab, where bytes stay too. -/
theorem held_two2 {K : Nat} {args : Array Value} {w : World} {u v : Value} {t : TypeId} {R : Ending → Prop} {A : Option Addr} {c : Nat} {l : List UInt8} (hl : 0 < l.length) (hN : ∀ w, Calls Tryd.prog K args w fun e w' => R e ∧ Below w.heap.size w w') {W : World}
    (h : (Boxed w (.cells #[u, v] t) W ∧ W.cell? ⟨w.heap.size, 0, none⟩ = some u ∧ W.cell? ⟨w.heap.size, 1, none⟩ = some v) ∧ Stays A c l W ∧ (∀ dst, Tryd.prog.underlying dst = some .string → (convert 33 dst (.slice A l.length c)).run Tryd.prog W = .ok (.string (S l)) W)) :
    Calls Tryd.prog K args W fun e w' => R e ∧ (Boxed w (.cells #[u, v] t) w' ∧ w'.cell? ⟨w.heap.size, 0, none⟩ = some u ∧ w'.cell? ⟨w.heap.size, 1, none⟩ = some v) ∧ Stays A c l w' ∧ (∀ dst, Tryd.prog.underlying dst = some .string → (convert 33 dst (.slice A l.length c)).run Tryd.prog w' = .ok (.string (S l)) w') :=
  (hN W).mono fun _ _ ⟨h1, h2⟩ => ⟨h1, ⟨h.1.1.on h2, (h.1.1.on h2).row 0, (h.1.1.on h2).row 1⟩, h.2.1.on h2, (h.2.1.on h2).str hl⟩
theorem held_tab2 {K : Nat} {args : Array Value} {w : World} {u v : Value} {t : TypeId} {R : Ending → Prop} {A : Option Addr} {c : Nat} {l : List UInt8} (hl : 0 < l.length) (hN : ∀ w, Tab w → Calls Tryd.prog K args w fun e w' => R e ∧ Below w.heap.size w w') (hT : Tab w) {W : World}
    (h : (Boxed w (.cells #[u, v] t) W ∧ W.cell? ⟨w.heap.size, 0, none⟩ = some u ∧ W.cell? ⟨w.heap.size, 1, none⟩ = some v) ∧ Stays A c l W ∧ (∀ dst, Tryd.prog.underlying dst = some .string → (convert 33 dst (.slice A l.length c)).run Tryd.prog W = .ok (.string (S l)) W)) :
    Calls Tryd.prog K args W fun e w' => R e ∧ (Boxed w (.cells #[u, v] t) w' ∧ w'.cell? ⟨w.heap.size, 0, none⟩ = some u ∧ w'.cell? ⟨w.heap.size, 1, none⟩ = some v) ∧ Stays A c l w' ∧ (∀ dst, Tryd.prog.underlying dst = some .string → (convert 33 dst (.slice A l.length c)).run Tryd.prog w' = .ok (.string (S l)) w') :=
  (hN W (h.1.1.tab hT)).mono fun _ _ ⟨h1, h2⟩ => ⟨h1, ⟨h.1.1.on h2, (h.1.1.on h2).row 0, (h.1.1.on h2).row 1⟩, h.2.1.on h2, (h.2.1.on h2).str hl⟩

/-- The byte of a name among those above k, or 0. -/
def aboveZ (s : List UInt8) (k : Nat) : Int := if (k : Int) < byteZ s then byteZ s else 0
theorem aboveZ_start (s : List UInt8) : aboveZ s 255 = 0 := by
  unfold aboveZ
  have := byteZ_bd s
  rw [if_neg (by omega)]
theorem aboveZ_end (s : List UInt8) : aboveZ s 0 = byteZ s := by
  unfold aboveZ
  have := byteZ_bd s
  split <;> omega
theorem aboveZ_hit {s : List UInt8} {k : Nat} (h : byteZ s = ((k + 1 : Nat) : Int)) : aboveZ s k = ((k + 1 : Nat) : Int) := by
  unfold aboveZ
  rw [if_pos (by omega), h]
theorem aboveZ_miss {s : List UInt8} {k : Nat} (h : byteZ s ≠ ((k + 1 : Nat) : Int)) : aboveZ s k = aboveZ s (k + 1) := by
  unfold aboveZ
  by_cases a : ((k + 1 : Nat) : Int) < byteZ s
  · rw [if_pos (by omega), if_pos a]
  · rw [if_neg (by omega), if_neg a]

set_option maxRecDepth 100000 in
set_option maxHeartbeats 4000000 in
theorem funcs_any (p r : List UInt8) (b : Int) (s : List UInt8) (w : World) (hT : Tab w) (b0 : 0 ≤ b) (b1 : b ≤ 255) (z1 : p.length ≤ 1100) (z2 : r.length ≤ 300) (z3 : s.length ≤ 300) :
    Calls Tryd.prog 3 #[.agg #[.string (S p), .string (S r)], .int .u8 b, .string (S s)] w fun e w' => e = .returned (.bool true) ∧ Below w.heap.size w w' := by
  have sp := S_size p
  have sr := S_size r
  have ss := S_size s
  have d1 : decide ((1100 : Int) < ((S p).size : Int)) = false := by simp; omega
  have d2 : decide ((300 : Int) < ((S r).size : Int)) = false := by simp; omega
  have d3 : decide ((300 : Int) < ((S s).size : Int)) = false := by simp; omega
  clear sp sr ss
  have bz := byteZ_bd s
  obtain ⟨bz0, bz1⟩ := bz
  have F1 := Lib.hid (fun w => by have h := func_any p r w (by omega) (by omega); unfold ftV at h; exact h)
  have F2 := Lib.hid (fun w => by have h := refFunc_any p r w (by omega) (by omega); unfold ftV at h; exact h)
  have V1 := Lib.hid (fun w => values_any p w (by omega))
  have V2 := Lib.hid (fun w => refValues_any p w (by omega))
  have Q1 := Lib.hid (fun w => value_any b w)
  have Q2 := Lib.hid (fun w => refValue_any b w)
  have E1 := Lib.hid (fun w => by have h := enc_any p r w (by omega) (by omega); unfold ftV at h; exact h)
  have E2 := Lib.hid (fun w => by have h := refEnc_any p r w (by omega) (by omega); unfold ftV at h; exact h)
  have T1 := Lib.hid (fun w (hT : Tab w) => by have h := text_any p r w hT (by omega) (by omega); unfold ftV at h; exact h)
  have T2 := Lib.hid (fun w => by have h := refText_any p r w (by omega) (by omega); unfold ftV at h; exact h)
  have N1 := Lib.hid (fun w (hT : Tab w) => name_any b w hT)
  have N2 := Lib.hid (fun w => refName_any b w b0 b1)
  have B1 := Lib.hid (fun w (hT : Tab w) => byte_any s w hT)
  have hxl : 0 < (encL p r).length := by unfold encL; simp
  generalize encL p r = x at *
  generalize textL p r = y at *
  generalize funcZ p r = zf at *
  have HA := Lib.hid (awake_any (w.alloc (.cells #[.string (S p), .string (S r)] 23)) (hT.alloc _))
  go_enter Tryd.func3, Tryd.ntmps3
  go_wp2_with (go_at_call 6; go_must (refine HA.out.mono ?_; rintro e w1 ⟨rfl, hb⟩; have HK := Lib.hid (Boxed.on (w := w) (show Boxed w _ (w.alloc _) from Below.refl _ _) hb); have c0 := Boxed.row HK.out 0; have c1 := Boxed.row HK.out 1; clear hb))
  clear c0 c1
  go_loopw [7, 8] (fun o i wr => ∃ k : Nat, k ≤ 255 ∧ i = .int .i64 k ∧ o = .int .i64 (aboveZ s k) ∧ Boxed w (.cells #[.string (S p), .string (S r)] 23) wr) (fun _ i _ => (intOf i).toNat)
  case atStart => exact ⟨255, by omega, rfl, by rw [aboveZ_start], HK.out⟩
  case round =>
    obtain ⟨k, hk, rfl, rfl, hbx⟩ := hrel
    have HB := Lib.hid hbx
    clear hbx
    rcases k with _ | m
    · rw [aboveZ_end]
      go_wp2
      have hwb : IntKind.i64.wrap b = b := by rw [IntKind.wrap_i64]; omega
      have hwz : IntKind.i64.wrap (byteZ s) = byteZ s := by rw [IntKind.wrap_i64]; omega
      refine wp_region_noPanic ?_
      refine wp_region_held_drew (S := fun W => (Boxed w (.cells #[.string (S p), .string (S r)] 23) W ∧ W.cell? ⟨w.heap.size, 0, none⟩ = some (.string (S p)) ∧ W.cell? ⟨w.heap.size, 1, none⟩ = some (.string (S r)))) (by kernel_rfl) ⟨Below.drew HB.out, Boxed.row (Below.drew HB.out) 0, Boxed.row (Below.drew HB.out) 1⟩ (fun hHeld => ?_)
      (refine heldTake (i := 0) (oi := { dst := some 39, op := Op.load 23 (Operand.tmp 3), type := 23, pos := "law.go:29", after := #[], guard := none }) (v := ?_) rfl (by kernel_rfl) (by kernel_rfl) (by kernel_rfl) (by assumption) ?_ ?_; rotate_left; focus (refine .inl ⟨by kernel_rfl, ?_⟩; intro w hSw; (try dsimp only at hSw); go_simp; (try with_reducible rfl)); (try simp only [Act.put, List.setIfInBounds_toArray, List.set_cons_zero, List.set_cons_succ]))
      (refine heldTake (i := 2) (oi := { dst := some 41, op := Op.load 23 (Operand.tmp 3), type := 23, pos := "law.go:29", after := #[], guard := none }) (v := ?_) rfl (by kernel_rfl) (by kernel_rfl) (by kernel_rfl) (by assumption) ?_ ?_; rotate_left; focus (refine .inl ⟨by kernel_rfl, ?_⟩; intro w hSw; (try dsimp only at hSw); go_simp; (try with_reducible rfl)); (try simp only [Act.put, List.setIfInBounds_toArray, List.set_cons_zero, List.set_cons_succ]))
      refine wpAnyH_ready (rs := [1]) (by kernel_rfl) (by simp) ?_
      refine AllReadyH.cons (o := { dst := some 40, op := Op.call { callee := Callee.value (Operand.func 8), args := #[Operand.tmp 39], argTypes := #[23] }, type := 26, pos := "law.go:29", after := #[{ on := 0, ground := Ground.data }], guard := none }) rfl (fun K hK => ?_) AllReadyH.nil
      go_simp
      (go_at_call 8; ((with_reducible refine (held_two F1.out hHeld).mono ?_); rintro e w' ⟨rfl, hk⟩))
      refine hK.out _ _ hk (fun hHeld1 => ?_)
      clear hK K hHeld
      (try simp only [Act.put, List.setIfInBounds_toArray, List.set_cons_zero, List.set_cons_succ])
      refine wpAnyH_ready (rs := [3]) (by kernel_rfl) (by simp) ?_
      refine AllReadyH.cons (o := { dst := some 42, op := Op.call { callee := Callee.value (Operand.func 9), args := #[Operand.tmp 41], argTypes := #[23] }, type := 3, pos := "law.go:29", after := #[{ on := 2, ground := Ground.data }, { on := 1, ground := Ground.chain }], guard := none }) rfl (fun K hK => ?_) AllReadyH.nil
      go_simp
      (go_at_call 9; ((with_reducible refine (held_two F2.out hHeld1).mono ?_); rintro e w' ⟨rfl, hk⟩))
      refine hK.out _ _ hk (fun hHeld3 => ?_)
      clear hK K hHeld1
      (try simp only [Act.put, List.setIfInBounds_toArray, List.set_cons_zero, List.set_cons_succ])
      (refine heldTake (i := 4) (oi := { dst := some 43, op := Op.binOp BinOp.eql 3 (Operand.tmp 40) (Operand.tmp 42) 3, type := 4, pos := "law.go:29", after := #[{ on := 1, ground := Ground.data }, { on := 3, ground := Ground.data }], guard := none }) (v := ?_) rfl (by kernel_rfl) (by kernel_rfl) (by kernel_rfl) (by assumption) ?_ ?_; rotate_left; focus (refine .inl ⟨by kernel_rfl, ?_⟩; intro w hSw; (try dsimp only at hSw); go_simp; (try with_reducible rfl)); (try simp only [Act.put, List.setIfInBounds_toArray, List.set_cons_zero, List.set_cons_succ]))
      (refine heldTake (i := 5) (oi := { dst := some 44, op := Op.move (Operand.tmp 43), type := 4, pos := "law.go:29", after := #[{ on := 4, ground := Ground.data }, { on := 3, ground := Ground.chain }], guard := none }) (v := ?_) rfl (by kernel_rfl) (by kernel_rfl) (by kernel_rfl) (by assumption) ?_ ?_; rotate_left; focus (refine .inl ⟨by kernel_rfl, ?_⟩; intro w hSw; (try dsimp only at hSw); go_simp; (try with_reducible rfl)); (try simp only [Act.put, List.setIfInBounds_toArray, List.set_cons_zero, List.set_cons_succ]))
      (refine heldTake (i := 6) (oi := { dst := some 45, op := Op.fieldAddr 23 (Operand.tmp 3) 0, type := 0, pos := "law.go:29", after := #[{ on := 5, ground := Ground.guard }], guard := some (5, true) }) (v := ?_) rfl (by kernel_rfl) (by kernel_rfl) (by kernel_rfl) (by assumption) ?_ ?_; rotate_left; focus (refine .inl ⟨by kernel_rfl, ?_⟩; intro w hSw; (try dsimp only at hSw); go_simp; (try with_reducible rfl)); (try simp only [Act.put, List.setIfInBounds_toArray, List.set_cons_zero, List.set_cons_succ]))
      (refine heldTake (i := 7) (oi := { dst := some 46, op := Op.load 9 (Operand.tmp 45), type := 9, pos := "law.go:29", after := #[{ on := 6, ground := Ground.data }, { on := 5, ground := Ground.guard }], guard := some (5, true) }) (v := ?_) rfl (by kernel_rfl) (by kernel_rfl) (by kernel_rfl) (by assumption) ?_ ?_; rotate_left; focus (refine .inl ⟨by kernel_rfl, ?_⟩; intro w hSw; (try dsimp only at hSw); go_simp; (try with_reducible rfl)); (try simp only [Act.put, List.setIfInBounds_toArray, List.set_cons_zero, List.set_cons_succ]))
      (refine heldTake (i := 9) (oi := { dst := some 48, op := Op.fieldAddr 23 (Operand.tmp 3) 0, type := 0, pos := "law.go:29", after := #[{ on := 5, ground := Ground.guard }], guard := some (5, true) }) (v := ?_) rfl (by kernel_rfl) (by kernel_rfl) (by kernel_rfl) (by assumption) ?_ ?_; rotate_left; focus (refine .inl ⟨by kernel_rfl, ?_⟩; intro w hSw; (try dsimp only at hSw); go_simp; (try with_reducible rfl)); (try simp only [Act.put, List.setIfInBounds_toArray, List.set_cons_zero, List.set_cons_succ]))
      (refine heldTake (i := 10) (oi := { dst := some 49, op := Op.load 9 (Operand.tmp 48), type := 9, pos := "law.go:29", after := #[{ on := 9, ground := Ground.data }, { on := 5, ground := Ground.guard }], guard := some (5, true) }) (v := ?_) rfl (by kernel_rfl) (by kernel_rfl) (by kernel_rfl) (by assumption) ?_ ?_; rotate_left; focus (refine .inl ⟨by kernel_rfl, ?_⟩; intro w hSw; (try dsimp only at hSw); go_simp; (try with_reducible rfl)); (try simp only [Act.put, List.setIfInBounds_toArray, List.set_cons_zero, List.set_cons_succ]))
      refine wpAnyH_ready (rs := [8]) (by kernel_rfl) (by simp) ?_
      refine AllReadyH.cons (o := { dst := some 47, op := Op.call { callee := Callee.value (Operand.func 10), args := #[Operand.tmp 46], argTypes := #[9] }, type := 26, pos := "law.go:29", after := #[{ on := 7, ground := Ground.data }, { on := 5, ground := Ground.chain }, { on := 5, ground := Ground.guard }], guard := some (5, true) }) rfl (fun K hK => ?_) AllReadyH.nil
      go_simp
      (go_at_call 10; ((with_reducible refine (V1.out _).mono ?_); rintro e w' ⟨rfl, rfl⟩))
      refine hK.out _ _ hHeld3 (fun hHeld8 => ?_)
      clear hK K hHeld3
      (try simp only [Act.put, List.setIfInBounds_toArray, List.set_cons_zero, List.set_cons_succ])
      refine wpAnyH_ready (rs := [11]) (by kernel_rfl) (by simp) ?_
      refine AllReadyH.cons (o := { dst := some 50, op := Op.call { callee := Callee.value (Operand.func 11), args := #[Operand.tmp 49], argTypes := #[9] }, type := 3, pos := "law.go:29", after := #[{ on := 10, ground := Ground.data }, { on := 8, ground := Ground.chain }, { on := 5, ground := Ground.guard }], guard := some (5, true) }) rfl (fun K hK => ?_) AllReadyH.nil
      go_simp
      (go_at_call 11; ((with_reducible refine (V2.out _).mono ?_); rintro e w' ⟨rfl, rfl⟩))
      refine hK.out _ _ hHeld8 (fun hHeld11 => ?_)
      clear hK K hHeld8
      (try simp only [Act.put, List.setIfInBounds_toArray, List.set_cons_zero, List.set_cons_succ])
      (refine heldTake (i := 12) (oi := { dst := some 51, op := Op.binOp BinOp.eql 3 (Operand.tmp 47) (Operand.tmp 50) 3, type := 4, pos := "law.go:29", after := #[{ on := 8, ground := Ground.data }, { on := 11, ground := Ground.data }, { on := 5, ground := Ground.guard }], guard := some (5, true) }) (v := ?_) rfl (by kernel_rfl) (by kernel_rfl) (by kernel_rfl) (by assumption) ?_ ?_; rotate_left; focus (refine .inl ⟨by kernel_rfl, ?_⟩; intro w hSw; (try dsimp only at hSw); go_simp; (try with_reducible rfl)); (try simp only [Act.put, List.setIfInBounds_toArray, List.set_cons_zero, List.set_cons_succ]))
      (refine heldTake (i := 13) (oi := { dst := some 52, op := Op.pick (Operand.tmp 44) (Operand.tmp 51) (Operand.const (Value.bool false)), type := 4, pos := "law.go:29", after := #[{ on := 5, ground := Ground.data }, { on := 12, ground := Ground.data }], guard := none }) (v := ?_) rfl (by kernel_rfl) (by kernel_rfl) (by kernel_rfl) (by assumption) ?_ ?_; rotate_left; focus (refine .inl ⟨by kernel_rfl, ?_⟩; intro w hSw; (try dsimp only at hSw); go_simp; (try with_reducible rfl)); (try simp only [Act.put, List.setIfInBounds_toArray, List.set_cons_zero, List.set_cons_succ]))
      (refine heldTake (i := 14) (oi := { dst := some 53, op := Op.move (Operand.tmp 52), type := 4, pos := "law.go:29", after := #[{ on := 13, ground := Ground.data }, { on := 11, ground := Ground.chain }], guard := none }) (v := ?_) rfl (by kernel_rfl) (by kernel_rfl) (by kernel_rfl) (by assumption) ?_ ?_; rotate_left; focus (refine .inl ⟨by kernel_rfl, ?_⟩; intro w hSw; (try dsimp only at hSw); go_simp; (try with_reducible rfl)); (try simp only [Act.put, List.setIfInBounds_toArray, List.set_cons_zero, List.set_cons_succ]))
      (refine heldTake (i := 15) (oi := { dst := some 54, op := Op.move (Operand.tmp 1), type := 5, pos := "law.go:29", after := #[{ on := 14, ground := Ground.guard }], guard := some (14, true) }) (v := ?_) rfl (by kernel_rfl) (by kernel_rfl) (by kernel_rfl) (by assumption) ?_ ?_; rotate_left; focus (refine .inl ⟨by kernel_rfl, ?_⟩; intro w hSw; (try dsimp only at hSw); go_simp; (try with_reducible rfl)); (try simp only [Act.put, List.setIfInBounds_toArray, List.set_cons_zero, List.set_cons_succ]))
      (refine heldTake (i := 17) (oi := { dst := some 56, op := Op.move (Operand.tmp 1), type := 5, pos := "law.go:29", after := #[{ on := 14, ground := Ground.guard }], guard := some (14, true) }) (v := ?_) rfl (by kernel_rfl) (by kernel_rfl) (by kernel_rfl) (by assumption) ?_ ?_; rotate_left; focus (refine .inl ⟨by kernel_rfl, ?_⟩; intro w hSw; (try dsimp only at hSw); go_simp; (try with_reducible rfl)); (try simp only [Act.put, List.setIfInBounds_toArray, List.set_cons_zero, List.set_cons_succ]))
      (refine heldTake (i := 18) (oi := { dst := some 57, op := Op.convert 5 3 (Operand.tmp 56), type := 3, pos := "law.go:29", after := #[{ on := 17, ground := Ground.data }, { on := 14, ground := Ground.guard }], guard := some (14, true) }) (v := ?_) rfl (by kernel_rfl) (by kernel_rfl) (by kernel_rfl) (by assumption) ?_ ?_; rotate_left; focus (refine .inl ⟨by kernel_rfl, ?_⟩; intro w hSw; (try dsimp only at hSw); go_simp; (try with_reducible rfl)); (try simp only [Act.put, List.setIfInBounds_toArray, List.set_cons_zero, List.set_cons_succ]))
      refine wpAnyH_ready (rs := [16]) (by kernel_rfl) (by simp) ?_
      refine AllReadyH.cons (o := { dst := some 55, op := Op.call { callee := Callee.value (Operand.func 12), args := #[Operand.tmp 54], argTypes := #[5] }, type := 26, pos := "law.go:29", after := #[{ on := 15, ground := Ground.data }, { on := 14, ground := Ground.chain }, { on := 14, ground := Ground.guard }], guard := some (14, true) }) rfl (fun K hK => ?_) AllReadyH.nil
      go_simp
      (go_at_call 12; ((with_reducible refine (Q1.out _).mono ?_); rintro e w' ⟨rfl, rfl⟩))
      refine hK.out _ _ hHeld11 (fun hHeld16 => ?_)
      clear hK K hHeld11
      (try simp only [Act.put, List.setIfInBounds_toArray, List.set_cons_zero, List.set_cons_succ])
      refine wpAnyH_ready (rs := [19]) (by kernel_rfl) (by simp) ?_
      refine AllReadyH.cons (o := { dst := some 58, op := Op.call { callee := Callee.value (Operand.func 13), args := #[Operand.tmp 57], argTypes := #[3] }, type := 3, pos := "law.go:29", after := #[{ on := 18, ground := Ground.data }, { on := 16, ground := Ground.chain }, { on := 14, ground := Ground.guard }], guard := some (14, true) }) rfl (fun K hK => ?_) AllReadyH.nil
      go_simp
      (go_at_call 13; ((with_reducible refine (Q2.out _).mono ?_); rintro e w' ⟨rfl, rfl⟩))
      refine hK.out _ _ hHeld16 (fun hHeld19 => ?_)
      clear hK K hHeld16
      (try simp only [Act.put, List.setIfInBounds_toArray, List.set_cons_zero, List.set_cons_succ])
      (refine heldTake (i := 20) (oi := { dst := some 59, op := Op.binOp BinOp.eql 3 (Operand.tmp 55) (Operand.tmp 58) 3, type := 4, pos := "law.go:29", after := #[{ on := 16, ground := Ground.data }, { on := 19, ground := Ground.data }, { on := 14, ground := Ground.guard }], guard := some (14, true) }) (v := ?_) rfl (by kernel_rfl) (by kernel_rfl) (by kernel_rfl) (by assumption) ?_ ?_; rotate_left; focus (refine .inl ⟨by kernel_rfl, ?_⟩; intro w hSw; (try dsimp only at hSw); go_simp; (try with_reducible rfl)); (try simp only [Act.put, List.setIfInBounds_toArray, List.set_cons_zero, List.set_cons_succ]))
      (refine heldTake (i := 21) (oi := { dst := some 60, op := Op.pick (Operand.tmp 53) (Operand.tmp 59) (Operand.const (Value.bool false)), type := 4, pos := "law.go:29", after := #[{ on := 14, ground := Ground.data }, { on := 20, ground := Ground.data }], guard := none }) (v := ?_) rfl (by kernel_rfl) (by kernel_rfl) (by kernel_rfl) (by assumption) ?_ ?_; rotate_left; focus (refine .inl ⟨by kernel_rfl, ?_⟩; intro w hSw; (try dsimp only at hSw); go_simp; (try with_reducible rfl)); (try simp only [Act.put, List.setIfInBounds_toArray, List.set_cons_zero, List.set_cons_succ]))
      (refine heldTake (i := 22) (oi := { dst := some 61, op := Op.move (Operand.tmp 60), type := 4, pos := "law.go:29", after := #[{ on := 21, ground := Ground.data }, { on := 19, ground := Ground.chain }], guard := none }) (v := ?_) rfl (by kernel_rfl) (by kernel_rfl) (by kernel_rfl) (by assumption) ?_ ?_; rotate_left; focus (refine .inl ⟨by kernel_rfl, ?_⟩; intro w hSw; (try dsimp only at hSw); go_simp; (try with_reducible rfl)); (try simp only [Act.put, List.setIfInBounds_toArray, List.set_cons_zero, List.set_cons_succ]))
      (refine heldTake (i := 23) (oi := { dst := some 62, op := Op.load 23 (Operand.tmp 3), type := 23, pos := "law.go:29", after := #[{ on := 22, ground := Ground.guard }], guard := some (22, true) }) (v := ?_) rfl (by kernel_rfl) (by kernel_rfl) (by kernel_rfl) (by assumption) ?_ ?_; rotate_left; focus (refine .inl ⟨by kernel_rfl, ?_⟩; intro w hSw; (try dsimp only at hSw); go_simp; (try with_reducible rfl)); (try simp only [Act.put, List.setIfInBounds_toArray, List.set_cons_zero, List.set_cons_succ]))
      (refine heldTake (i := 26) (oi := { dst := some 65, op := Op.load 23 (Operand.tmp 3), type := 23, pos := "law.go:29", after := #[{ on := 22, ground := Ground.guard }], guard := some (22, true) }) (v := ?_) rfl (by kernel_rfl) (by kernel_rfl) (by kernel_rfl) (by assumption) ?_ ?_; rotate_left; focus (refine .inl ⟨by kernel_rfl, ?_⟩; intro w hSw; (try dsimp only at hSw); go_simp; (try with_reducible rfl)); (try simp only [Act.put, List.setIfInBounds_toArray, List.set_cons_zero, List.set_cons_succ]))
      refine wpAnyH_ready (rs := [24]) (by kernel_rfl) (by simp) ?_
      refine AllReadyH.cons (o := { dst := some 63, op := Op.call { callee := Callee.value (Operand.func 14), args := #[Operand.tmp 62], argTypes := #[23] }, type := 33, pos := "law.go:29", after := #[{ on := 23, ground := Ground.data }, { on := 22, ground := Ground.chain }, { on := 22, ground := Ground.guard }], guard := some (22, true) }) rfl (fun K hK => ?_) AllReadyH.nil
      go_simp
      (go_at_call 14; ((with_reducible refine (held_bytes E1.out hxl hHeld19).mono ?_); rintro e w2 ⟨A1, c1, rfl, hk, hst, hcv⟩))
      refine hK.out _ _ hk (fun hHeld24 => ?_)
      clear hK K hHeld19
      (try simp only [Act.put, List.setIfInBounds_toArray, List.set_cons_zero, List.set_cons_succ])
      have hHeld24s := And.intro hHeld24 (And.intro hst hcv); clear hHeld24 hk hst hcv; refine held_imp (S' := fun W => (Boxed w (.cells #[.string (S p), .string (S r)] 23) W ∧ W.cell? ⟨w.heap.size, 0, none⟩ = some (.string (S p)) ∧ W.cell? ⟨w.heap.size, 1, none⟩ = some (.string (S r))) ∧ Stays A1 c1 x W ∧ (∀ dst, Tryd.prog.underlying dst = some .string → (convert 33 dst (.slice A1 x.length c1)).run Tryd.prog W = .ok (.string (S x)) W)) (fun _ h => h.1) _ _ _ _ ?_
      (refine heldTake (i := 25) (oi := { dst := some 64, op := Op.convert 33 9 (Operand.tmp 63), type := 9, pos := "law.go:29", after := #[{ on := 24, ground := Ground.data }, { on := 22, ground := Ground.guard }], guard := some (22, true) }) (v := ?_) rfl (by kernel_rfl) (by kernel_rfl) (by kernel_rfl) (by assumption) ?_ ?_; rotate_left; focus (refine .inl ⟨by kernel_rfl, ?_⟩; intro w hSw; (try dsimp only at hSw); go_simp; (try with_reducible rfl)); (try simp only [Act.put, List.setIfInBounds_toArray, List.set_cons_zero, List.set_cons_succ]))
      refine wpAnyH_ready (rs := [27]) (by kernel_rfl) (by simp) ?_
      refine AllReadyH.cons (o := { dst := some 66, op := Op.call { callee := Callee.value (Operand.func 15), args := #[Operand.tmp 65], argTypes := #[23] }, type := 9, pos := "law.go:29", after := #[{ on := 26, ground := Ground.data }, { on := 24, ground := Ground.chain }, { on := 22, ground := Ground.guard }], guard := some (22, true) }) rfl (fun K hK => ?_) AllReadyH.nil
      go_simp
      (go_at_call 15; ((with_reducible refine (held_two2 hxl E2.out hHeld24s).mono ?_); rintro e w' ⟨rfl, hk⟩))
      refine hK.out _ _ hk (fun hHeld27 => ?_)
      clear hK K hHeld24s
      (try simp only [Act.put, List.setIfInBounds_toArray, List.set_cons_zero, List.set_cons_succ])
      (refine heldTake (i := 28) (oi := { dst := some 67, op := Op.binOp BinOp.eql 9 (Operand.tmp 64) (Operand.tmp 66) 9, type := 4, pos := "law.go:29", after := #[{ on := 25, ground := Ground.data }, { on := 27, ground := Ground.data }, { on := 22, ground := Ground.guard }], guard := some (22, true) }) (v := ?_) rfl (by kernel_rfl) (by kernel_rfl) (by kernel_rfl) (by assumption) ?_ ?_; rotate_left; focus (refine .inl ⟨by kernel_rfl, ?_⟩; intro w hSw; (try dsimp only at hSw); go_simp; (try with_reducible rfl)); (try simp only [Act.put, List.setIfInBounds_toArray, List.set_cons_zero, List.set_cons_succ]))
      (refine heldTake (i := 29) (oi := { dst := some 68, op := Op.pick (Operand.tmp 61) (Operand.tmp 67) (Operand.const (Value.bool false)), type := 4, pos := "law.go:29", after := #[{ on := 22, ground := Ground.data }, { on := 28, ground := Ground.data }], guard := none }) (v := ?_) rfl (by kernel_rfl) (by kernel_rfl) (by kernel_rfl) (by assumption) ?_ ?_; rotate_left; focus (refine .inl ⟨by kernel_rfl, ?_⟩; intro w hSw; (try dsimp only at hSw); go_simp; (try with_reducible rfl)); (try simp only [Act.put, List.setIfInBounds_toArray, List.set_cons_zero, List.set_cons_succ]))
      (refine heldTake (i := 30) (oi := { dst := some 69, op := Op.move (Operand.tmp 68), type := 4, pos := "law.go:29", after := #[{ on := 29, ground := Ground.data }, { on := 27, ground := Ground.chain }], guard := none }) (v := ?_) rfl (by kernel_rfl) (by kernel_rfl) (by kernel_rfl) (by assumption) ?_ ?_; rotate_left; focus (refine .inl ⟨by kernel_rfl, ?_⟩; intro w hSw; (try dsimp only at hSw); go_simp; (try with_reducible rfl)); (try simp only [Act.put, List.setIfInBounds_toArray, List.set_cons_zero, List.set_cons_succ]))
      (refine heldTake (i := 31) (oi := { dst := some 70, op := Op.load 23 (Operand.tmp 3), type := 23, pos := "law.go:29", after := #[{ on := 30, ground := Ground.guard }], guard := some (30, true) }) (v := ?_) rfl (by kernel_rfl) (by kernel_rfl) (by kernel_rfl) (by assumption) ?_ ?_; rotate_left; focus (refine .inl ⟨by kernel_rfl, ?_⟩; intro w hSw; (try dsimp only at hSw); go_simp; (try with_reducible rfl)); (try simp only [Act.put, List.setIfInBounds_toArray, List.set_cons_zero, List.set_cons_succ]))
      (refine heldTake (i := 33) (oi := { dst := some 72, op := Op.load 23 (Operand.tmp 3), type := 23, pos := "law.go:29", after := #[{ on := 30, ground := Ground.guard }], guard := some (30, true) }) (v := ?_) rfl (by kernel_rfl) (by kernel_rfl) (by kernel_rfl) (by assumption) ?_ ?_; rotate_left; focus (refine .inl ⟨by kernel_rfl, ?_⟩; intro w hSw; (try dsimp only at hSw); go_simp; (try with_reducible rfl)); (try simp only [Act.put, List.setIfInBounds_toArray, List.set_cons_zero, List.set_cons_succ]))
      refine wpAnyH_ready (rs := [32]) (by kernel_rfl) (by simp) ?_
      refine AllReadyH.cons (o := { dst := some 71, op := Op.call { callee := Callee.value (Operand.func 16), args := #[Operand.tmp 70], argTypes := #[23] }, type := 9, pos := "law.go:29", after := #[{ on := 31, ground := Ground.data }, { on := 30, ground := Ground.chain }, { on := 30, ground := Ground.guard }], guard := some (30, true) }) rfl (fun K hK => ?_) AllReadyH.nil
      go_simp
      (go_at_call 16; ((with_reducible refine (held_tab2 hxl T1.out hT hHeld27).mono ?_); rintro e w' ⟨rfl, hk⟩))
      refine hK.out _ _ hk (fun hHeld32 => ?_)
      clear hK K hHeld27
      (try simp only [Act.put, List.setIfInBounds_toArray, List.set_cons_zero, List.set_cons_succ])
      refine wpAnyH_ready (rs := [34]) (by kernel_rfl) (by simp) ?_
      refine AllReadyH.cons (o := { dst := some 73, op := Op.call { callee := Callee.value (Operand.func 17), args := #[Operand.tmp 72], argTypes := #[23] }, type := 9, pos := "law.go:29", after := #[{ on := 33, ground := Ground.data }, { on := 32, ground := Ground.chain }, { on := 30, ground := Ground.guard }], guard := some (30, true) }) rfl (fun K hK => ?_) AllReadyH.nil
      go_simp
      (go_at_call 17; ((with_reducible refine (held_two2 hxl T2.out hHeld32).mono ?_); rintro e w' ⟨rfl, hk⟩))
      refine hK.out _ _ hk (fun hHeld34 => ?_)
      clear hK K hHeld32
      (try simp only [Act.put, List.setIfInBounds_toArray, List.set_cons_zero, List.set_cons_succ])
      (refine heldTake (i := 35) (oi := { dst := some 74, op := Op.binOp BinOp.eql 9 (Operand.tmp 71) (Operand.tmp 73) 9, type := 4, pos := "law.go:29", after := #[{ on := 32, ground := Ground.data }, { on := 34, ground := Ground.data }, { on := 30, ground := Ground.guard }], guard := some (30, true) }) (v := ?_) rfl (by kernel_rfl) (by kernel_rfl) (by kernel_rfl) (by assumption) ?_ ?_; rotate_left; focus (refine .inl ⟨by kernel_rfl, ?_⟩; intro w hSw; (try dsimp only at hSw); go_simp; (try with_reducible rfl)); (try simp only [Act.put, List.setIfInBounds_toArray, List.set_cons_zero, List.set_cons_succ]))
      (refine heldTake (i := 36) (oi := { dst := some 75, op := Op.pick (Operand.tmp 69) (Operand.tmp 74) (Operand.const (Value.bool false)), type := 4, pos := "law.go:29", after := #[{ on := 30, ground := Ground.data }, { on := 35, ground := Ground.data }], guard := none }) (v := ?_) rfl (by kernel_rfl) (by kernel_rfl) (by kernel_rfl) (by assumption) ?_ ?_; rotate_left; focus (refine .inl ⟨by kernel_rfl, ?_⟩; intro w hSw; (try dsimp only at hSw); go_simp; (try with_reducible rfl)); (try simp only [Act.put, List.setIfInBounds_toArray, List.set_cons_zero, List.set_cons_succ]))
      (refine heldTake (i := 37) (oi := { dst := some 76, op := Op.move (Operand.tmp 75), type := 4, pos := "law.go:29", after := #[{ on := 36, ground := Ground.data }, { on := 34, ground := Ground.chain }], guard := none }) (v := ?_) rfl (by kernel_rfl) (by kernel_rfl) (by kernel_rfl) (by assumption) ?_ ?_; rotate_left; focus (refine .inl ⟨by kernel_rfl, ?_⟩; intro w hSw; (try dsimp only at hSw); go_simp; (try with_reducible rfl)); (try simp only [Act.put, List.setIfInBounds_toArray, List.set_cons_zero, List.set_cons_succ]))
      (refine heldTake (i := 38) (oi := { dst := some 77, op := Op.move (Operand.tmp 1), type := 5, pos := "law.go:29", after := #[{ on := 37, ground := Ground.guard }], guard := some (37, true) }) (v := ?_) rfl (by kernel_rfl) (by kernel_rfl) (by kernel_rfl) (by assumption) ?_ ?_; rotate_left; focus (refine .inl ⟨by kernel_rfl, ?_⟩; intro w hSw; (try dsimp only at hSw); go_simp; (try with_reducible rfl)); (try simp only [Act.put, List.setIfInBounds_toArray, List.set_cons_zero, List.set_cons_succ]))
      (refine heldTake (i := 40) (oi := { dst := some 79, op := Op.move (Operand.tmp 1), type := 5, pos := "law.go:29", after := #[{ on := 37, ground := Ground.guard }], guard := some (37, true) }) (v := ?_) rfl (by kernel_rfl) (by kernel_rfl) (by kernel_rfl) (by assumption) ?_ ?_; rotate_left; focus (refine .inl ⟨by kernel_rfl, ?_⟩; intro w hSw; (try dsimp only at hSw); go_simp; (try with_reducible rfl)); (try simp only [Act.put, List.setIfInBounds_toArray, List.set_cons_zero, List.set_cons_succ]))
      (refine heldTake (i := 41) (oi := { dst := some 80, op := Op.convert 5 3 (Operand.tmp 79), type := 3, pos := "law.go:29", after := #[{ on := 40, ground := Ground.data }, { on := 37, ground := Ground.guard }], guard := some (37, true) }) (v := ?_) rfl (by kernel_rfl) (by kernel_rfl) (by kernel_rfl) (by assumption) ?_ ?_; rotate_left; focus (refine .inl ⟨by kernel_rfl, ?_⟩; intro w hSw; (try dsimp only at hSw); go_simp; (try with_reducible rfl)); (try simp only [Act.put, List.setIfInBounds_toArray, List.set_cons_zero, List.set_cons_succ]))
      refine wpAnyH_ready (rs := [39]) (by kernel_rfl) (by simp) ?_
      refine AllReadyH.cons (o := { dst := some 78, op := Op.call { callee := Callee.value (Operand.func 18), args := #[Operand.tmp 77], argTypes := #[5] }, type := 9, pos := "law.go:29", after := #[{ on := 38, ground := Ground.data }, { on := 37, ground := Ground.chain }, { on := 37, ground := Ground.guard }], guard := some (37, true) }) rfl (fun K hK => ?_) AllReadyH.nil
      go_simp
      (go_at_call 18; ((with_reducible refine (held_tab2 hxl N1.out hT hHeld34).mono ?_); rintro e w' ⟨rfl, hk⟩))
      refine hK.out _ _ hk (fun hHeld39 => ?_)
      clear hK K hHeld34
      (try simp only [Act.put, List.setIfInBounds_toArray, List.set_cons_zero, List.set_cons_succ])
      refine wpAnyH_ready (rs := [42]) (by kernel_rfl) (by simp) ?_
      refine AllReadyH.cons (o := { dst := some 81, op := Op.call { callee := Callee.value (Operand.func 7), args := #[Operand.tmp 80], argTypes := #[3] }, type := 9, pos := "law.go:29", after := #[{ on := 41, ground := Ground.data }, { on := 39, ground := Ground.chain }, { on := 37, ground := Ground.guard }], guard := some (37, true) }) rfl (fun K hK => ?_) AllReadyH.nil
      go_simp
      (go_at_call 7; ((with_reducible refine (held_two2 hxl N2.out hHeld39).mono ?_); rintro e w' ⟨rfl, hk⟩))
      refine hK.out _ _ hk (fun hHeld42 => ?_)
      clear hK K hHeld39
      (try simp only [Act.put, List.setIfInBounds_toArray, List.set_cons_zero, List.set_cons_succ])
      (refine heldTake (i := 43) (oi := { dst := some 82, op := Op.binOp BinOp.eql 9 (Operand.tmp 78) (Operand.tmp 81) 9, type := 4, pos := "law.go:29", after := #[{ on := 39, ground := Ground.data }, { on := 42, ground := Ground.data }, { on := 37, ground := Ground.guard }], guard := some (37, true) }) (v := ?_) rfl (by kernel_rfl) (by kernel_rfl) (by kernel_rfl) (by assumption) ?_ ?_; rotate_left; focus (refine .inl ⟨by kernel_rfl, ?_⟩; intro w hSw; (try dsimp only at hSw); go_simp; (try with_reducible rfl)); (try simp only [Act.put, List.setIfInBounds_toArray, List.set_cons_zero, List.set_cons_succ]))
      (refine heldTake (i := 44) (oi := { dst := some 83, op := Op.pick (Operand.tmp 76) (Operand.tmp 82) (Operand.const (Value.bool false)), type := 4, pos := "law.go:29", after := #[{ on := 37, ground := Ground.data }, { on := 43, ground := Ground.data }], guard := none }) (v := ?_) rfl (by kernel_rfl) (by kernel_rfl) (by kernel_rfl) (by assumption) ?_ ?_; rotate_left; focus (refine .inl ⟨by kernel_rfl, ?_⟩; intro w hSw; (try dsimp only at hSw); go_simp; (try with_reducible rfl)); (try simp only [Act.put, List.setIfInBounds_toArray, List.set_cons_zero, List.set_cons_succ]))
      (refine heldTake (i := 45) (oi := { dst := some 84, op := Op.move (Operand.tmp 83), type := 4, pos := "law.go:29", after := #[{ on := 44, ground := Ground.data }, { on := 42, ground := Ground.chain }], guard := none }) (v := ?_) rfl (by kernel_rfl) (by kernel_rfl) (by kernel_rfl) (by assumption) ?_ ?_; rotate_left; focus (refine .inl ⟨by kernel_rfl, ?_⟩; intro w hSw; (try dsimp only at hSw); go_simp; (try with_reducible rfl)); (try simp only [Act.put, List.setIfInBounds_toArray, List.set_cons_zero, List.set_cons_succ]))
      (refine heldTake (i := 46) (oi := { dst := some 85, op := Op.move (Operand.tmp 2), type := 9, pos := "law.go:29", after := #[{ on := 45, ground := Ground.guard }], guard := some (45, true) }) (v := ?_) rfl (by kernel_rfl) (by kernel_rfl) (by kernel_rfl) (by assumption) ?_ ?_; rotate_left; focus (refine .inl ⟨by kernel_rfl, ?_⟩; intro w hSw; (try dsimp only at hSw); go_simp; (try with_reducible rfl)); (try simp only [Act.put, List.setIfInBounds_toArray, List.set_cons_zero, List.set_cons_succ]))
      (refine heldTake (i := 49) (oi := { dst := some 88, op := Op.move (Operand.tmp 7), type := 3, pos := "law.go:29", after := #[{ on := 45, ground := Ground.guard }], guard := some (45, true) }) (v := ?_) rfl (by kernel_rfl) (by kernel_rfl) (by kernel_rfl) (by assumption) ?_ ?_; rotate_left; focus (refine .inl ⟨by kernel_rfl, ?_⟩; intro w hSw; (try dsimp only at hSw); go_simp; (try with_reducible rfl)); (try simp only [Act.put, List.setIfInBounds_toArray, List.set_cons_zero, List.set_cons_succ]))
      refine wpAnyH_ready (rs := [47]) (by kernel_rfl) (by simp) ?_
      refine AllReadyH.cons (o := { dst := some 86, op := Op.call { callee := Callee.value (Operand.func 19), args := #[Operand.tmp 85], argTypes := #[9] }, type := 5, pos := "law.go:29", after := #[{ on := 46, ground := Ground.data }, { on := 45, ground := Ground.chain }, { on := 45, ground := Ground.guard }], guard := some (45, true) }) rfl (fun K hK => ?_) AllReadyH.nil
      go_simp
      (go_at_call 19; ((with_reducible refine (held_tab2 hxl B1.out hT hHeld42).mono ?_); rintro e w' ⟨rfl, hk⟩))
      refine hK.out _ _ hk (fun hHeld47 => ?_)
      clear hK K hHeld42
      (try simp only [Act.put, List.setIfInBounds_toArray, List.set_cons_zero, List.set_cons_succ])
      (refine heldTake (i := 48) (oi := { dst := some 87, op := Op.convert 5 3 (Operand.tmp 86), type := 3, pos := "law.go:29", after := #[{ on := 47, ground := Ground.data }, { on := 45, ground := Ground.guard }], guard := some (45, true) }) (v := ?_) rfl (by kernel_rfl) (by kernel_rfl) (by kernel_rfl) (by assumption) ?_ ?_; rotate_left; focus (refine .inl ⟨by kernel_rfl, ?_⟩; intro w hSw; (try dsimp only at hSw); go_simp; (try with_reducible rfl)); (try simp only [Act.put, List.setIfInBounds_toArray, List.set_cons_zero, List.set_cons_succ]))
      (refine heldTake (i := 50) (oi := { dst := some 89, op := Op.binOp BinOp.eql 3 (Operand.tmp 87) (Operand.tmp 88) 3, type := 4, pos := "law.go:29", after := #[{ on := 48, ground := Ground.data }, { on := 49, ground := Ground.data }, { on := 45, ground := Ground.guard }], guard := some (45, true) }) (v := ?_) rfl (by kernel_rfl) (by kernel_rfl) (by kernel_rfl) (by assumption) ?_ ?_; rotate_left; focus (refine .inl ⟨by kernel_rfl, ?_⟩; intro w hSw; (try dsimp only at hSw); go_simp; (try with_reducible rfl)); (try simp only [Act.put, List.setIfInBounds_toArray, List.set_cons_zero, List.set_cons_succ]))
      (refine heldTake (i := 51) (oi := { dst := some 90, op := Op.pick (Operand.tmp 84) (Operand.tmp 89) (Operand.const (Value.bool false)), type := 4, pos := "law.go:29", after := #[{ on := 45, ground := Ground.data }, { on := 50, ground := Ground.data }], guard := none }) (v := ?_) rfl (by kernel_rfl) (by kernel_rfl) (by kernel_rfl) (by assumption) ?_ ?_; rotate_left; focus (refine .inl ⟨by kernel_rfl, ?_⟩; intro w hSw; (try dsimp only at hSw); go_simp; (try with_reducible rfl)); (try simp only [Act.put, List.setIfInBounds_toArray, List.set_cons_zero, List.set_cons_succ]))
      (refine heldTake (i := 52) (oi := { dst := some 6, op := Op.assign (Operand.tmp 90), type := 4, pos := "law.go:29", after := #[{ on := 51, ground := Ground.data }, { on := 47, ground := Ground.chain }, { on := 0, ground := Ground.phase }, { on := 1, ground := Ground.phase }, { on := 2, ground := Ground.phase }, { on := 3, ground := Ground.phase }, { on := 4, ground := Ground.phase }, { on := 5, ground := Ground.phase }, { on := 6, ground := Ground.phase }, { on := 7, ground := Ground.phase }, { on := 8, ground := Ground.phase }, { on := 9, ground := Ground.phase }, { on := 10, ground := Ground.phase }, { on := 11, ground := Ground.phase }, { on := 12, ground := Ground.phase }, { on := 13, ground := Ground.phase }, { on := 14, ground := Ground.phase }, { on := 15, ground := Ground.phase }, { on := 16, ground := Ground.phase }, { on := 17, ground := Ground.phase }, { on := 18, ground := Ground.phase }, { on := 19, ground := Ground.phase }, { on := 20, ground := Ground.phase }, { on := 21, ground := Ground.phase }, { on := 22, ground := Ground.phase }, { on := 23, ground := Ground.phase }, { on := 24, ground := Ground.phase }, { on := 25, ground := Ground.phase }, { on := 26, ground := Ground.phase }, { on := 27, ground := Ground.phase }, { on := 28, ground := Ground.phase }, { on := 29, ground := Ground.phase }, { on := 30, ground := Ground.phase }, { on := 31, ground := Ground.phase }, { on := 32, ground := Ground.phase }, { on := 33, ground := Ground.phase }, { on := 34, ground := Ground.phase }, { on := 35, ground := Ground.phase }, { on := 36, ground := Ground.phase }, { on := 37, ground := Ground.phase }, { on := 38, ground := Ground.phase }, { on := 39, ground := Ground.phase }, { on := 40, ground := Ground.phase }, { on := 41, ground := Ground.phase }, { on := 42, ground := Ground.phase }, { on := 43, ground := Ground.phase }, { on := 44, ground := Ground.phase }, { on := 45, ground := Ground.phase }, { on := 46, ground := Ground.phase }, { on := 47, ground := Ground.phase }, { on := 48, ground := Ground.phase }, { on := 49, ground := Ground.phase }, { on := 50, ground := Ground.phase }, { on := 51, ground := Ground.phase }], guard := none }) (v := ?_) rfl (by kernel_rfl) (by kernel_rfl) (by kernel_rfl) (by assumption) ?_ ?_; rotate_left; focus (refine .inl ⟨by kernel_rfl, ?_⟩; intro w hSw; (try dsimp only at hSw); go_simp; (try with_reducible rfl)); (try simp only [Act.put, List.setIfInBounds_toArray, List.set_cons_zero, List.set_cons_succ]))
      refine wpAnyH_done (by kernel_rfl) ?_ _
      refine NoPanic.normal ?_
      have hLast := hHeld47
      clear hHeld47
      go_wp2
      go_ret
      exact ⟨rfl, Boxed.end hLast.1.1⟩
    · have hc : (((m + 1 : Nat) : Nat) : Int) = (m : Int) + 1 := by omega
      have arm : ∀ W, Calls Tryd.prog 7 #[.int .i64 ((m : Int) + 1)] W fun e w' => e = .returned (.string (S (nameZ ((m : Int) + 1)))) ∧ Below W.heap.size W w' := fun W => refName_any _ W (by omega) (by omega)
      have HN := Lib.hid arm
      have nb := name_byte s ((m : Int) + 1) (by omega)
      have hit := aboveZ_hit (s := s) (k := m)
      have miss := aboveZ_miss (s := s) (k := m)
      rw [hc] at hit miss
      clear arm hc
      obtain ⟨x, hx⟩ : ∃ x, x = nameZ ((m : Int) + 1) := ⟨_, rfl⟩
      rw [← hx] at HN nb
      clear hx
      by_cases hby : byteZ s = (m : Int) + 1
      · obtain ⟨hn, hq⟩ := nb.2 hby
        have e1 : ((S x).toList == (S s).toList) = true := by rw [S_beq]; simpa using hn
        have e2 : (!(S s).toList == [63]) = true := by rw [S_toList]; simpa using hq
        have HZ := Lib.hid (hit hby)
        clear hn hq hby nb hit miss
        go_wp2_with (go_at_call 7; go_must ((with_reducible refine (HN.out _).mono ?_); rintro e w2 ⟨rfl, hb⟩; have H2 := Lib.hid hb; clear hb))
        go_roundw
        case rel => exact ⟨m, by omega, by go_num, by rw [HZ.out], HB.out.on H2.out⟩
        case measure => simp [intOf]
      · have HZ := Lib.hid (miss hby)
        by_cases hn : x = s
        · have hq : s = [63] := Classical.byContradiction fun h => hby (nb.1 ⟨hn, h⟩)
          have e1 : ((S x).toList == (S s).toList) = true := by rw [S_beq]; simpa using hn
          have e2 : (!(S s).toList == [63]) = false := by rw [S_toList]; simpa using hq
          clear hn hq hby nb hit miss
          go_wp2_with (go_at_call 7; go_must ((with_reducible refine (HN.out _).mono ?_); rintro e w2 ⟨rfl, hb⟩; have H2 := Lib.hid hb; clear hb))
          go_roundw
          case rel => exact ⟨m, by omega, by go_num, by rw [HZ.out], HB.out.on H2.out⟩
          case measure => simp [intOf]
        · have e1 : ((S x).toList == (S s).toList) = false := by rw [S_beq]; simpa using hn
          clear hn hby nb hit miss
          go_wp2_with (go_at_call 7; go_must ((with_reducible refine (HN.out _).mono ?_); rintro e w2 ⟨rfl, hb⟩; have H2 := Lib.hid hb; clear hb))
          go_roundw
          case rel => exact ⟨m, by omega, by go_num, by rw [HZ.out], HB.out.on H2.out⟩
          case measure => simp [intOf]

/-- What is too long is passed by. -/
theorem funcs_long (p r : List UInt8) (b : Int) (s : List UInt8) (w : World) (hT : Tab w) (h : 1100 < p.length ∨ 300 < r.length ∨ 300 < s.length) :
    Calls Tryd.prog 3 #[.agg #[.string (S p), .string (S r)], .int .u8 b, .string (S s)] w fun e w' => e = .returned (.bool true) ∧ Below w.heap.size w w' := by
  have sp := S_size p
  have sr := S_size r
  have ss := S_size s
  have HA := Lib.hid (awake_any (w.alloc (.cells #[.string (S p), .string (S r)] 23)) (hT.alloc _))
  by_cases h1 : 1100 < p.length
  · have d1 : 1100 < (S p).size := by omega
    clear sp sr ss
    go_enter Tryd.func3, Tryd.ntmps3
    go_wp2_with (go_at_call 6; go_must (refine HA.out.mono ?_; rintro e w1 ⟨rfl, hb⟩; have HK := Lib.hid (Boxed.on (w := w) (show Boxed w _ (w.alloc _) from Below.refl _ _) hb); have c0 := Boxed.row HK.out 0; have c1 := Boxed.row HK.out 1; clear hb))
    go_ret
    exact ⟨rfl, Boxed.end HK.out⟩
  have d1 : decide ((1100 : Int) < ((S p).size : Int)) = false := by simp; omega
  by_cases h2 : 300 < r.length
  · have d2 : 300 < (S r).size := by omega
    clear sp sr ss
    go_enter Tryd.func3, Tryd.ntmps3
    go_wp2_with (go_at_call 6; go_must (refine HA.out.mono ?_; rintro e w1 ⟨rfl, hb⟩; have HK := Lib.hid (Boxed.on (w := w) (show Boxed w _ (w.alloc _) from Below.refl _ _) hb); have c0 := Boxed.row HK.out 0; have c1 := Boxed.row HK.out 1; clear hb))
    go_ret
    exact ⟨rfl, Boxed.end HK.out⟩
  have d2 : decide ((300 : Int) < ((S r).size : Int)) = false := by simp; omega
  have d3 : 300 < (S s).size := by omega
  clear sp sr ss
  go_enter Tryd.func3, Tryd.ntmps3
  go_wp2_with (go_at_call 6; go_must (refine HA.out.mono ?_; rintro e w1 ⟨rfl, hb⟩; have HK := Lib.hid (Boxed.on (w := w) (show Boxed w _ (w.alloc _) from Below.refl _ _) hb); have c0 := Boxed.row HK.out 0; have c1 := Boxed.row HK.out 1; clear hb))
  go_ret
  exact ⟨rfl, Boxed.end HK.out⟩
theorem funcs_all (p r s : ByteArray) (b : Int) (w : World) (hT : Tab w) (b0 : 0 ≤ b) (b1 : b ≤ 255) :
    Calls Tryd.prog 3 #[.agg #[.string p, .string r], .int .u8 b, .string s] w fun e w' => e = .returned (.bool true) ∧ Below w.heap.size w w' := by
  obtain ⟨p, rfl⟩ : ∃ l, p = S l := ⟨_, (S_of p).symm⟩
  obtain ⟨r, rfl⟩ : ∃ l, r = S l := ⟨_, (S_of r).symm⟩
  obtain ⟨s, rfl⟩ : ∃ l, s = S l := ⟨_, (S_of s).symm⟩
  by_cases h : 1100 < p.length ∨ 300 < r.length ∨ 300 < s.length
  · exact funcs_long p r b s w hT h
  · exact funcs_any p r b s w hT b0 b1 (by omega) (by omega) (by omega)
end Go.Proofs.YtlhjgjplnaoieaaDoor
