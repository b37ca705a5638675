/- creelref10.Put. -/
import Derived.Test.YtdogjinjbnlgdaaDoorQz11
import Derived.Test.YtdogjinjbnlgdaaDoorQz15
namespace Go.Proofs.YtdogjinjbnlgdaaDoor
open Go.RowKit Go.Lib
set_option linter.unusedVariables false
set_option maxRecDepth 100000

theorem S_app3 (a b c : List UInt8) : S a ++ S b ++ S c = S (a ++ b ++ c) := by rw [S_append, S_append]
/-- How an import's bytes begin. -/
noncomputable def headP (x : Im) : List UInt8 := nmL x.mod ++ nmL x.nam ++ [x.kind]
set_option maxHeartbeats 4000000 in
theorem rput_im (x : Im) (w : World) (h1 : x.mod.length ≤ 100000) (h2 : x.nam.length ≤ 100000) :
    Calls Tryd.prog 14 #[imV x] w (Strs (iputL x) w) := by
  have hB0 := bx_start w x
  have hn1 := nmL_len h1 (by omega)
  have hn2 := nmL_len h2 (by omega)
  have hd := desL_len x
  have hx : iputL x = headP x ++ desL x := rfl
  have hp : headP x = nmL x.mod ++ nmL x.nam ++ [x.kind] := rfl
  have HN1 := Lib.hid (fun w => rname_im x.mod w h1)
  have HN2 := Lib.hid (fun w => rname_im x.nam w h2)
  have hhl : (headP x).length ≤ 300000 := by rw [hp]; simp only [List.length_append, List.length_singleton]; omega
  generalize nmL x.mod = y1 at *
  generalize nmL x.nam = y2 at *
  have sy1 := S_size y1
  have sy2 := S_size y2
  have q1 : ¬ 9223372036854775807 < (S y1).size + (S y2).size := by omega
  have q2 : ¬ 9223372036854775807 < (S y1).size + (S y2).size + (S [x.kind]).size := by have := S_size [x.kind]; rw [List.length_singleton] at this; omega
  rw [hx]
  obtain ⟨P, hP⟩ : ∃ P, P = headP x := ⟨_, rfl⟩
  have HP := Lib.hid (hP.trans hp)
  have HPs := Lib.hid (show S y1 ++ S y2 ++ S [x.kind] = S P by rw [S_app3, HP.out])
  rw [← hP] at hhl ⊢
  obtain ⟨D, hD⟩ : ∃ D, D = desL x := ⟨_, rfl⟩
  have HDD := Lib.hid hD
  rw [← hD] at hd ⊢
  clear hx hp hP sy1 sy2 hn1 hn2 h1 h2 hD
  go_enter Tryd.func14, Tryd.ntmps14
  go_upto_region 1 with fail
  generalize w.alloc (.cells (imC x) 28) = W0 at *
  go_cut [3] (fun s W => s = .string (S P) ∧ Bx w w.heap.size x W)
  case first =>
    refine wp_region_noPanic ?_
    refine wp_region_held_drew (S := fun W => Bx w w.heap.size x W) (by kernel_rfl) (bx_on hB0 (Below.refl _ _).drew) (fun hHeld => ?_)
    clear hB0
    (refine heldTake (i := 0) (oi := { dst := some 4, op := Op.fieldAddr 28 (Operand.tmp 1) 0, type := 0, pos := "ref.go:60", after := #[], guard := none }) (v := ?_) rfl (by kernel_rfl) (by kernel_rfl) (by kernel_rfl) (by assumption) ?_ ?_; rotate_left; focus (refine .inl ⟨by kernel_rfl, ?_⟩; intro w hSw; (try dsimp only at hSw); go_simp; (try with_reducible rfl)); (try simp only [Act.put, List.setIfInBounds_toArray, List.set_cons_zero, List.set_cons_succ]))
    (refine heldTake (i := 1) (oi := { dst := some 5, op := Op.load 9 (Operand.tmp 4), type := 9, pos := "ref.go:60", after := #[{ on := 0, ground := Ground.data }], guard := none }) (v := ?_) rfl (by kernel_rfl) (by kernel_rfl) (by kernel_rfl) (by assumption) ?_ ?_; rotate_left; focus (refine .inl ⟨by kernel_rfl, ?_⟩; intro w hSw; (try dsimp only at hSw); go_simp; (try with_reducible rfl)); (try simp only [Act.put, List.setIfInBounds_toArray, List.set_cons_zero, List.set_cons_succ]))
    (refine heldTake (i := 3) (oi := { dst := some 7, op := Op.fieldAddr 28 (Operand.tmp 1) 1, type := 0, pos := "ref.go:60", after := #[], guard := none }) (v := ?_) rfl (by kernel_rfl) (by kernel_rfl) (by kernel_rfl) (by assumption) ?_ ?_; rotate_left; focus (refine .inl ⟨by kernel_rfl, ?_⟩; intro w hSw; (try dsimp only at hSw); go_simp; (try with_reducible rfl)); (try simp only [Act.put, List.setIfInBounds_toArray, List.set_cons_zero, List.set_cons_succ]))
    (refine heldTake (i := 4) (oi := { dst := some 8, op := Op.load 9 (Operand.tmp 7), type := 9, pos := "ref.go:60", after := #[{ on := 3, ground := Ground.data }], guard := none }) (v := ?_) rfl (by kernel_rfl) (by kernel_rfl) (by kernel_rfl) (by assumption) ?_ ?_; rotate_left; focus (refine .inl ⟨by kernel_rfl, ?_⟩; intro w hSw; (try dsimp only at hSw); go_simp; (try with_reducible rfl)); (try simp only [Act.put, List.setIfInBounds_toArray, List.set_cons_zero, List.set_cons_succ]))
    (refine heldTake (i := 7) (oi := { dst := some 11, op := Op.fieldAddr 28 (Operand.tmp 1) 2, type := 0, pos := "ref.go:60", after := #[], guard := none }) (v := ?_) rfl (by kernel_rfl) (by kernel_rfl) (by kernel_rfl) (by assumption) ?_ ?_; rotate_left; focus (refine .inl ⟨by kernel_rfl, ?_⟩; intro w hSw; (try dsimp only at hSw); go_simp; (try with_reducible rfl)); (try simp only [Act.put, List.setIfInBounds_toArray, List.set_cons_zero, List.set_cons_succ]))
    (refine heldTake (i := 8) (oi := { dst := some 12, op := Op.load 5 (Operand.tmp 11), type := 5, pos := "ref.go:60", after := #[{ on := 7, ground := Ground.data }], guard := none }) (v := ?_) rfl (by kernel_rfl) (by kernel_rfl) (by kernel_rfl) (by assumption) ?_ ?_; rotate_left; focus (refine .inl ⟨by kernel_rfl, ?_⟩; intro w hSw; (try dsimp only at hSw); go_simp; (try with_reducible rfl)); (try simp only [Act.put, List.setIfInBounds_toArray, List.set_cons_zero, List.set_cons_succ]))
    refine wpAnyH_ready (rs := [2, 9]) (by kernel_rfl) (by simp) ?_
    refine (AllReadyH.cons (o := { dst := some 6, op := Op.call { callee := Callee.value (Operand.func 42), args := #[Operand.tmp 5], argTypes := #[9] }, type := 9, pos := "ref.go:60", after := #[{ on := 1, ground := Ground.data }], guard := none }) rfl (fun K hK => ?_) (AllReadyH.cons (o := { dst := some 13, op := Op.buildSlice 31 1 #[(0, Operand.tmp 12)], type := 31, pos := "ref.go:60", after := #[{ on := 8, ground := Ground.data }], guard := none }) rfl (fun K hK => ?_) AllReadyH.nil))
    · go_simp
      (go_at_call 42; (with_reducible refine (HN1.out _).mono ?_); rintro e w2 ⟨rfl, hb2⟩; have HB2 := Lib.hid hb2; clear hb2)
      refine hK.out _ _ (bx_on hHeld HB2.out) (fun hHeld2 => ?_)
      clear hK K hHeld
      (try simp only [Act.put, List.setIfInBounds_toArray, List.set_cons_zero, List.set_cons_succ])
      refine wpAnyH_ready (rs := [5, 9]) (by kernel_rfl) (by simp) ?_
      refine (AllReadyH.cons (o := { dst := some 9, op := Op.call { callee := Callee.value (Operand.func 42), args := #[Operand.tmp 8], argTypes := #[9] }, type := 9, pos := "ref.go:60", after := #[{ on := 4, ground := Ground.data }, { on := 2, ground := Ground.chain }], guard := none }) rfl (fun K hK => ?_) (AllReadyH.cons (o := { dst := some 13, op := Op.buildSlice 31 1 #[(0, Operand.tmp 12)], type := 31, pos := "ref.go:60", after := #[{ on := 8, ground := Ground.data }], guard := none }) rfl (fun K hK => ?_) AllReadyH.nil))
      · go_simp
        (go_at_call 42; (with_reducible refine (HN2.out _).mono ?_); rintro e w5 ⟨rfl, hb5⟩; have HB5 := Lib.hid hb5; clear hb5)
        refine hK.out _ _ (bx_on hHeld2 HB5.out) (fun hHeld5 => ?_)
        clear hK K hHeld2
        (try simp only [Act.put, List.setIfInBounds_toArray, List.set_cons_zero, List.set_cons_succ])
        (refine heldTake (i := 6) (oi := { dst := some 10, op := Op.binOp BinOp.add 9 (Operand.tmp 6) (Operand.tmp 9) 9, type := 9, pos := "ref.go:60", after := #[{ on := 2, ground := Ground.data }, { on := 5, ground := Ground.data }], guard := none }) (v := ?_) rfl (by kernel_rfl) (by kernel_rfl) (by kernel_rfl) (by assumption) ?_ ?_; rotate_left; focus (refine .inl ⟨by kernel_rfl, ?_⟩; intro w hSw; (try dsimp only at hSw); go_simp; (try with_reducible rfl)); (try simp only [Act.put, List.setIfInBounds_toArray, List.set_cons_zero, List.set_cons_succ]))
        refine wpAnyH_ready (rs := [9]) (by kernel_rfl) (by simp) ?_
        refine (AllReadyH.cons (o := { dst := some 13, op := Op.buildSlice 31 1 #[(0, Operand.tmp 12)], type := 31, pos := "ref.go:60", after := #[{ on := 8, ground := Ground.data }], guard := none }) rfl (fun K hK => ?_) AllReadyH.nil)
        refine step_build1 rfl _ rfl x.kind rfl ?_; intro g9 wa9 hg9 hb9 hp9; have HB9 := Lib.hid hb9; have HP9 := Lib.hid hp9; clear hb9 hp9
        refine hK.out _ _ (bx_on hHeld5 HB9.out) (fun hHeld9 => ?_)
        clear hK K hHeld5
        (try simp only [Act.put, List.setIfInBounds_toArray, List.set_cons_zero, List.set_cons_succ])
        refine wpAnyH_ready (rs := [10]) (by kernel_rfl) (by simp) ?_
        refine (AllReadyH.cons (o := { dst := some 14, op := Op.convert 31 9 (Operand.tmp 13), type := 9, pos := "ref.go:60", after := #[{ on := 9, ground := Ground.data }], guard := none }) rfl (fun K hK => ?_) AllReadyH.nil)
        go_simp; refine upon_str (l := [x.kind]) (HP9.out) ?_; have HB10 := Lib.hid (Below.refl 0 w)
        refine hK.out _ _ hHeld9 (fun hHeld10 => ?_)
        clear hK K hHeld9
        (try simp only [Act.put, List.setIfInBounds_toArray, List.set_cons_zero, List.set_cons_succ])
        (refine heldTake (i := 11) (oi := { dst := some 15, op := Op.binOp BinOp.add 9 (Operand.tmp 10) (Operand.tmp 14) 9, type := 9, pos := "ref.go:60", after := #[{ on := 6, ground := Ground.data }, { on := 10, ground := Ground.data }], guard := none }) (v := ?_) rfl (by kernel_rfl) (by kernel_rfl) (by kernel_rfl) (by assumption) ?_ ?_; rotate_left; focus (refine .inl ⟨by kernel_rfl, ?_⟩; intro w hSw; (try dsimp only at hSw); go_simp; (try with_reducible rfl)); (try simp only [Act.put, List.setIfInBounds_toArray, List.set_cons_zero, List.set_cons_succ]))
        (refine heldTake (i := 12) (oi := { dst := some 3, op := Op.assign (Operand.tmp 15), type := 9, pos := "ref.go:60", after := #[{ on := 11, ground := Ground.data }, { on := 5, ground := Ground.chain }, { on := 0, ground := Ground.phase }, { on := 1, ground := Ground.phase }, { on := 2, ground := Ground.phase }, { on := 3, ground := Ground.phase }, { on := 4, ground := Ground.phase }, { on := 5, ground := Ground.phase }, { on := 6, ground := Ground.phase }, { on := 7, ground := Ground.phase }, { on := 8, ground := Ground.phase }, { on := 9, ground := Ground.phase }, { on := 10, ground := Ground.phase }, { on := 11, ground := Ground.phase }], guard := none }) (v := ?_) rfl (by kernel_rfl) (by kernel_rfl) (by kernel_rfl) (by assumption) ?_ ?_; rotate_left; focus (refine .inl ⟨by kernel_rfl, ?_⟩; intro w hSw; (try dsimp only at hSw); go_simp; (try with_reducible rfl)); (try simp only [Act.put, List.setIfInBounds_toArray, List.set_cons_zero, List.set_cons_succ]))
        refine wpAnyH_done (by kernel_rfl) ?_ _
        refine NoPanic.normal ?_
        have hLast := hHeld10
        clear hHeld10
        go_wp2
        go_meet
        exact ⟨congrArg Value.string HPs.out, hLast⟩
      · refine step_build1 rfl _ rfl x.kind rfl ?_; intro g9 wa9 hg9 hb9 hp9; have HB9 := Lib.hid hb9; have HP9 := Lib.hid hp9; clear hb9 hp9
        refine hK.out _ _ (bx_on hHeld2 HB9.out) (fun hHeld9 => ?_)
        clear hK K hHeld2
        (try simp only [Act.put, List.setIfInBounds_toArray, List.set_cons_zero, List.set_cons_succ])
        refine wpAnyH_ready (rs := [5, 10]) (by kernel_rfl) (by simp) ?_
        refine (AllReadyH.cons (o := { dst := some 9, op := Op.call { callee := Callee.value (Operand.func 42), args := #[Operand.tmp 8], argTypes := #[9] }, type := 9, pos := "ref.go:60", after := #[{ on := 4, ground := Ground.data }, { on := 2, ground := Ground.chain }], guard := none }) rfl (fun K hK => ?_) (AllReadyH.cons (o := { dst := some 14, op := Op.convert 31 9 (Operand.tmp 13), type := 9, pos := "ref.go:60", after := #[{ on := 9, ground := Ground.data }], guard := none }) rfl (fun K hK => ?_) AllReadyH.nil))
        · go_simp
          (go_at_call 42; (with_reducible refine (HN2.out _).mono ?_); rintro e w5 ⟨rfl, hb5⟩; have HB5 := Lib.hid hb5; clear hb5)
          refine hK.out _ _ (bx_on hHeld9 HB5.out) (fun hHeld5 => ?_)
          clear hK K hHeld9
          (try simp only [Act.put, List.setIfInBounds_toArray, List.set_cons_zero, List.set_cons_succ])
          (refine heldTake (i := 6) (oi := { dst := some 10, op := Op.binOp BinOp.add 9 (Operand.tmp 6) (Operand.tmp 9) 9, type := 9, pos := "ref.go:60", after := #[{ on := 2, ground := Ground.data }, { on := 5, ground := Ground.data }], guard := none }) (v := ?_) rfl (by kernel_rfl) (by kernel_rfl) (by kernel_rfl) (by assumption) ?_ ?_; rotate_left; focus (refine .inl ⟨by kernel_rfl, ?_⟩; intro w hSw; (try dsimp only at hSw); go_simp; (try with_reducible rfl)); (try simp only [Act.put, List.setIfInBounds_toArray, List.set_cons_zero, List.set_cons_succ]))
          refine wpAnyH_ready (rs := [10]) (by kernel_rfl) (by simp) ?_
          refine (AllReadyH.cons (o := { dst := some 14, op := Op.convert 31 9 (Operand.tmp 13), type := 9, pos := "ref.go:60", after := #[{ on := 9, ground := Ground.data }], guard := none }) rfl (fun K hK => ?_) AllReadyH.nil)
          go_simp; refine upon_str (l := [x.kind]) (((HP9.out).below HB5.out)) ?_; have HB10 := Lib.hid (Below.refl 0 w)
          refine hK.out _ _ hHeld5 (fun hHeld10 => ?_)
          clear hK K hHeld5
          (try simp only [Act.put, List.setIfInBounds_toArray, List.set_cons_zero, List.set_cons_succ])
          (refine heldTake (i := 11) (oi := { dst := some 15, op := Op.binOp BinOp.add 9 (Operand.tmp 10) (Operand.tmp 14) 9, type := 9, pos := "ref.go:60", after := #[{ on := 6, ground := Ground.data }, { on := 10, ground := Ground.data }], guard := none }) (v := ?_) rfl (by kernel_rfl) (by kernel_rfl) (by kernel_rfl) (by assumption) ?_ ?_; rotate_left; focus (refine .inl ⟨by kernel_rfl, ?_⟩; intro w hSw; (try dsimp only at hSw); go_simp; (try with_reducible rfl)); (try simp only [Act.put, List.setIfInBounds_toArray, List.set_cons_zero, List.set_cons_succ]))
          (refine heldTake (i := 12) (oi := { dst := some 3, op := Op.assign (Operand.tmp 15), type := 9, pos := "ref.go:60", after := #[{ on := 11, ground := Ground.data }, { on := 5, ground := Ground.chain }, { on := 0, ground := Ground.phase }, { on := 1, ground := Ground.phase }, { on := 2, ground := Ground.phase }, { on := 3, ground := Ground.phase }, { on := 4, ground := Ground.phase }, { on := 5, ground := Ground.phase }, { on := 6, ground := Ground.phase }, { on := 7, ground := Ground.phase }, { on := 8, ground := Ground.phase }, { on := 9, ground := Ground.phase }, { on := 10, ground := Ground.phase }, { on := 11, ground := Ground.phase }], guard := none }) (v := ?_) rfl (by kernel_rfl) (by kernel_rfl) (by kernel_rfl) (by assumption) ?_ ?_; rotate_left; focus (refine .inl ⟨by kernel_rfl, ?_⟩; intro w hSw; (try dsimp only at hSw); go_simp; (try with_reducible rfl)); (try simp only [Act.put, List.setIfInBounds_toArray, List.set_cons_zero, List.set_cons_succ]))
          refine wpAnyH_done (by kernel_rfl) ?_ _
          refine NoPanic.normal ?_
          have hLast := hHeld10
          clear hHeld10
          go_wp2
          go_meet
          exact ⟨congrArg Value.string HPs.out, hLast⟩
        · go_simp; refine upon_str (l := [x.kind]) (HP9.out) ?_; have HB10 := Lib.hid (Below.refl 0 w)
          refine hK.out _ _ hHeld9 (fun hHeld10 => ?_)
          clear hK K hHeld9
          (try simp only [Act.put, List.setIfInBounds_toArray, List.set_cons_zero, List.set_cons_succ])
          refine wpAnyH_ready (rs := [5]) (by kernel_rfl) (by simp) ?_
          refine (AllReadyH.cons (o := { dst := some 9, op := Op.call { callee := Callee.value (Operand.func 42), args := #[Operand.tmp 8], argTypes := #[9] }, type := 9, pos := "ref.go:60", after := #[{ on := 4, ground := Ground.data }, { on := 2, ground := Ground.chain }], guard := none }) rfl (fun K hK => ?_) AllReadyH.nil)
          go_simp
          (go_at_call 42; (with_reducible refine (HN2.out _).mono ?_); rintro e w5 ⟨rfl, hb5⟩; have HB5 := Lib.hid hb5; clear hb5)
          refine hK.out _ _ (bx_on hHeld10 HB5.out) (fun hHeld5 => ?_)
          clear hK K hHeld10
          (try simp only [Act.put, List.setIfInBounds_toArray, List.set_cons_zero, List.set_cons_succ])
          (refine heldTake (i := 6) (oi := { dst := some 10, op := Op.binOp BinOp.add 9 (Operand.tmp 6) (Operand.tmp 9) 9, type := 9, pos := "ref.go:60", after := #[{ on := 2, ground := Ground.data }, { on := 5, ground := Ground.data }], guard := none }) (v := ?_) rfl (by kernel_rfl) (by kernel_rfl) (by kernel_rfl) (by assumption) ?_ ?_; rotate_left; focus (refine .inl ⟨by kernel_rfl, ?_⟩; intro w hSw; (try dsimp only at hSw); go_simp; (try with_reducible rfl)); (try simp only [Act.put, List.setIfInBounds_toArray, List.set_cons_zero, List.set_cons_succ]))
          (refine heldTake (i := 11) (oi := { dst := some 15, op := Op.binOp BinOp.add 9 (Operand.tmp 10) (Operand.tmp 14) 9, type := 9, pos := "ref.go:60", after := #[{ on := 6, ground := Ground.data }, { on := 10, ground := Ground.data }], guard := none }) (v := ?_) rfl (by kernel_rfl) (by kernel_rfl) (by kernel_rfl) (by assumption) ?_ ?_; rotate_left; focus (refine .inl ⟨by kernel_rfl, ?_⟩; intro w hSw; (try dsimp only at hSw); go_simp; (try with_reducible rfl)); (try simp only [Act.put, List.setIfInBounds_toArray, List.set_cons_zero, List.set_cons_succ]))
          (refine heldTake (i := 12) (oi := { dst := some 3, op := Op.assign (Operand.tmp 15), type := 9, pos := "ref.go:60", after := #[{ on := 11, ground := Ground.data }, { on := 5, ground := Ground.chain }, { on := 0, ground := Ground.phase }, { on := 1, ground := Ground.phase }, { on := 2, ground := Ground.phase }, { on := 3, ground := Ground.phase }, { on := 4, ground := Ground.phase }, { on := 5, ground := Ground.phase }, { on := 6, ground := Ground.phase }, { on := 7, ground := Ground.phase }, { on := 8, ground := Ground.phase }, { on := 9, ground := Ground.phase }, { on := 10, ground := Ground.phase }, { on := 11, ground := Ground.phase }], guard := none }) (v := ?_) rfl (by kernel_rfl) (by kernel_rfl) (by kernel_rfl) (by assumption) ?_ ?_; rotate_left; focus (refine .inl ⟨by kernel_rfl, ?_⟩; intro w hSw; (try dsimp only at hSw); go_simp; (try with_reducible rfl)); (try simp only [Act.put, List.setIfInBounds_toArray, List.set_cons_zero, List.set_cons_succ]))
          refine wpAnyH_done (by kernel_rfl) ?_ _
          refine NoPanic.normal ?_
          have hLast := hHeld5
          clear hHeld5
          go_wp2
          go_meet
          exact ⟨congrArg Value.string HPs.out, hLast⟩
    · refine step_build1 rfl _ rfl x.kind rfl ?_; intro g9 wa9 hg9 hb9 hp9; have HB9 := Lib.hid hb9; have HP9 := Lib.hid hp9; clear hb9 hp9
      refine hK.out _ _ (bx_on hHeld HB9.out) (fun hHeld9 => ?_)
      clear hK K hHeld
      (try simp only [Act.put, List.setIfInBounds_toArray, List.set_cons_zero, List.set_cons_succ])
      refine wpAnyH_ready (rs := [2, 10]) (by kernel_rfl) (by simp) ?_
      refine (AllReadyH.cons (o := { dst := some 6, op := Op.call { callee := Callee.value (Operand.func 42), args := #[Operand.tmp 5], argTypes := #[9] }, type := 9, pos := "ref.go:60", after := #[{ on := 1, ground := Ground.data }], guard := none }) rfl (fun K hK => ?_) (AllReadyH.cons (o := { dst := some 14, op := Op.convert 31 9 (Operand.tmp 13), type := 9, pos := "ref.go:60", after := #[{ on := 9, ground := Ground.data }], guard := none }) rfl (fun K hK => ?_) AllReadyH.nil))
      · go_simp
        (go_at_call 42; (with_reducible refine (HN1.out _).mono ?_); rintro e w2 ⟨rfl, hb2⟩; have HB2 := Lib.hid hb2; clear hb2)
        refine hK.out _ _ (bx_on hHeld9 HB2.out) (fun hHeld2 => ?_)
        clear hK K hHeld9
        (try simp only [Act.put, List.setIfInBounds_toArray, List.set_cons_zero, List.set_cons_succ])
        refine wpAnyH_ready (rs := [5, 10]) (by kernel_rfl) (by simp) ?_
        refine (AllReadyH.cons (o := { dst := some 9, op := Op.call { callee := Callee.value (Operand.func 42), args := #[Operand.tmp 8], argTypes := #[9] }, type := 9, pos := "ref.go:60", after := #[{ on := 4, ground := Ground.data }, { on := 2, ground := Ground.chain }], guard := none }) rfl (fun K hK => ?_) (AllReadyH.cons (o := { dst := some 14, op := Op.convert 31 9 (Operand.tmp 13), type := 9, pos := "ref.go:60", after := #[{ on := 9, ground := Ground.data }], guard := none }) rfl (fun K hK => ?_) AllReadyH.nil))
        · go_simp
          (go_at_call 42; (with_reducible refine (HN2.out _).mono ?_); rintro e w5 ⟨rfl, hb5⟩; have HB5 := Lib.hid hb5; clear hb5)
          refine hK.out _ _ (bx_on hHeld2 HB5.out) (fun hHeld5 => ?_)
          clear hK K hHeld2
          (try simp only [Act.put, List.setIfInBounds_toArray, List.set_cons_zero, List.set_cons_succ])
          (refine heldTake (i := 6) (oi := { dst := some 10, op := Op.binOp BinOp.add 9 (Operand.tmp 6) (Operand.tmp 9) 9, type := 9, pos := "ref.go:60", after := #[{ on := 2, ground := Ground.data }, { on := 5, ground := Ground.data }], guard := none }) (v := ?_) rfl (by kernel_rfl) (by kernel_rfl) (by kernel_rfl) (by assumption) ?_ ?_; rotate_left; focus (refine .inl ⟨by kernel_rfl, ?_⟩; intro w hSw; (try dsimp only at hSw); go_simp; (try with_reducible rfl)); (try simp only [Act.put, List.setIfInBounds_toArray, List.set_cons_zero, List.set_cons_succ]))
          refine wpAnyH_ready (rs := [10]) (by kernel_rfl) (by simp) ?_
          refine (AllReadyH.cons (o := { dst := some 14, op := Op.convert 31 9 (Operand.tmp 13), type := 9, pos := "ref.go:60", after := #[{ on := 9, ground := Ground.data }], guard := none }) rfl (fun K hK => ?_) AllReadyH.nil)
          go_simp; refine upon_str (l := [x.kind]) (((((HP9.out).below HB2.out)).below HB5.out)) ?_; have HB10 := Lib.hid (Below.refl 0 w)
          refine hK.out _ _ hHeld5 (fun hHeld10 => ?_)
          clear hK K hHeld5
          (try simp only [Act.put, List.setIfInBounds_toArray, List.set_cons_zero, List.set_cons_succ])
          (refine heldTake (i := 11) (oi := { dst := some 15, op := Op.binOp BinOp.add 9 (Operand.tmp 10) (Operand.tmp 14) 9, type := 9, pos := "ref.go:60", after := #[{ on := 6, ground := Ground.data }, { on := 10, ground := Ground.data }], guard := none }) (v := ?_) rfl (by kernel_rfl) (by kernel_rfl) (by kernel_rfl) (by assumption) ?_ ?_; rotate_left; focus (refine .inl ⟨by kernel_rfl, ?_⟩; intro w hSw; (try dsimp only at hSw); go_simp; (try with_reducible rfl)); (try simp only [Act.put, List.setIfInBounds_toArray, List.set_cons_zero, List.set_cons_succ]))
          (refine heldTake (i := 12) (oi := { dst := some 3, op := Op.assign (Operand.tmp 15), type := 9, pos := "ref.go:60", after := #[{ on := 11, ground := Ground.data }, { on := 5, ground := Ground.chain }, { on := 0, ground := Ground.phase }, { on := 1, ground := Ground.phase }, { on := 2, ground := Ground.phase }, { on := 3, ground := Ground.phase }, { on := 4, ground := Ground.phase }, { on := 5, ground := Ground.phase }, { on := 6, ground := Ground.phase }, { on := 7, ground := Ground.phase }, { on := 8, ground := Ground.phase }, { on := 9, ground := Ground.phase }, { on := 10, ground := Ground.phase }, { on := 11, ground := Ground.phase }], guard := none }) (v := ?_) rfl (by kernel_rfl) (by kernel_rfl) (by kernel_rfl) (by assumption) ?_ ?_; rotate_left; focus (refine .inl ⟨by kernel_rfl, ?_⟩; intro w hSw; (try dsimp only at hSw); go_simp; (try with_reducible rfl)); (try simp only [Act.put, List.setIfInBounds_toArray, List.set_cons_zero, List.set_cons_succ]))
          refine wpAnyH_done (by kernel_rfl) ?_ _
          refine NoPanic.normal ?_
          have hLast := hHeld10
          clear hHeld10
          go_wp2
          go_meet
          exact ⟨congrArg Value.string HPs.out, hLast⟩
        · go_simp; refine upon_str (l := [x.kind]) (((HP9.out).below HB2.out)) ?_; have HB10 := Lib.hid (Below.refl 0 w)
          refine hK.out _ _ hHeld2 (fun hHeld10 => ?_)
          clear hK K hHeld2
          (try simp only [Act.put, List.setIfInBounds_toArray, List.set_cons_zero, List.set_cons_succ])
          refine wpAnyH_ready (rs := [5]) (by kernel_rfl) (by simp) ?_
          refine (AllReadyH.cons (o := { dst := some 9, op := Op.call { callee := Callee.value (Operand.func 42), args := #[Operand.tmp 8], argTypes := #[9] }, type := 9, pos := "ref.go:60", after := #[{ on := 4, ground := Ground.data }, { on := 2, ground := Ground.chain }], guard := none }) rfl (fun K hK => ?_) AllReadyH.nil)
          go_simp
          (go_at_call 42; (with_reducible refine (HN2.out _).mono ?_); rintro e w5 ⟨rfl, hb5⟩; have HB5 := Lib.hid hb5; clear hb5)
          refine hK.out _ _ (bx_on hHeld10 HB5.out) (fun hHeld5 => ?_)
          clear hK K hHeld10
          (try simp only [Act.put, List.setIfInBounds_toArray, List.set_cons_zero, List.set_cons_succ])
          (refine heldTake (i := 6) (oi := { dst := some 10, op := Op.binOp BinOp.add 9 (Operand.tmp 6) (Operand.tmp 9) 9, type := 9, pos := "ref.go:60", after := #[{ on := 2, ground := Ground.data }, { on := 5, ground := Ground.data }], guard := none }) (v := ?_) rfl (by kernel_rfl) (by kernel_rfl) (by kernel_rfl) (by assumption) ?_ ?_; rotate_left; focus (refine .inl ⟨by kernel_rfl, ?_⟩; intro w hSw; (try dsimp only at hSw); go_simp; (try with_reducible rfl)); (try simp only [Act.put, List.setIfInBounds_toArray, List.set_cons_zero, List.set_cons_succ]))
          (refine heldTake (i := 11) (oi := { dst := some 15, op := Op.binOp BinOp.add 9 (Operand.tmp 10) (Operand.tmp 14) 9, type := 9, pos := "ref.go:60", after := #[{ on := 6, ground := Ground.data }, { on := 10, ground := Ground.data }], guard := none }) (v := ?_) rfl (by kernel_rfl) (by kernel_rfl) (by kernel_rfl) (by assumption) ?_ ?_; rotate_left; focus (refine .inl ⟨by kernel_rfl, ?_⟩; intro w hSw; (try dsimp only at hSw); go_simp; (try with_reducible rfl)); (try simp only [Act.put, List.setIfInBounds_toArray, List.set_cons_zero, List.set_cons_succ]))
          (refine heldTake (i := 12) (oi := { dst := some 3, op := Op.assign (Operand.tmp 15), type := 9, pos := "ref.go:60", after := #[{ on := 11, ground := Ground.data }, { on := 5, ground := Ground.chain }, { on := 0, ground := Ground.phase }, { on := 1, ground := Ground.phase }, { on := 2, ground := Ground.phase }, { on := 3, ground := Ground.phase }, { on := 4, ground := Ground.phase }, { on := 5, ground := Ground.phase }, { on := 6, ground := Ground.phase }, { on := 7, ground := Ground.phase }, { on := 8, ground := Ground.phase }, { on := 9, ground := Ground.phase }, { on := 10, ground := Ground.phase }, { on := 11, ground := Ground.phase }], guard := none }) (v := ?_) rfl (by kernel_rfl) (by kernel_rfl) (by kernel_rfl) (by assumption) ?_ ?_; rotate_left; focus (refine .inl ⟨by kernel_rfl, ?_⟩; intro w hSw; (try dsimp only at hSw); go_simp; (try with_reducible rfl)); (try simp only [Act.put, List.setIfInBounds_toArray, List.set_cons_zero, List.set_cons_succ]))
          refine wpAnyH_done (by kernel_rfl) ?_ _
          refine NoPanic.normal ?_
          have hLast := hHeld5
          clear hHeld5
          go_wp2
          go_meet
          exact ⟨congrArg Value.string HPs.out, hLast⟩
      · go_simp; refine upon_str (l := [x.kind]) (HP9.out) ?_; have HB10 := Lib.hid (Below.refl 0 w)
        refine hK.out _ _ hHeld9 (fun hHeld10 => ?_)
        clear hK K hHeld9
        (try simp only [Act.put, List.setIfInBounds_toArray, List.set_cons_zero, List.set_cons_succ])
        refine wpAnyH_ready (rs := [2]) (by kernel_rfl) (by simp) ?_
        refine (AllReadyH.cons (o := { dst := some 6, op := Op.call { callee := Callee.value (Operand.func 42), args := #[Operand.tmp 5], argTypes := #[9] }, type := 9, pos := "ref.go:60", after := #[{ on := 1, ground := Ground.data }], guard := none }) rfl (fun K hK => ?_) AllReadyH.nil)
        go_simp
        (go_at_call 42; (with_reducible refine (HN1.out _).mono ?_); rintro e w2 ⟨rfl, hb2⟩; have HB2 := Lib.hid hb2; clear hb2)
        refine hK.out _ _ (bx_on hHeld10 HB2.out) (fun hHeld2 => ?_)
        clear hK K hHeld10
        (try simp only [Act.put, List.setIfInBounds_toArray, List.set_cons_zero, List.set_cons_succ])
        refine wpAnyH_ready (rs := [5]) (by kernel_rfl) (by simp) ?_
        refine (AllReadyH.cons (o := { dst := some 9, op := Op.call { callee := Callee.value (Operand.func 42), args := #[Operand.tmp 8], argTypes := #[9] }, type := 9, pos := "ref.go:60", after := #[{ on := 4, ground := Ground.data }, { on := 2, ground := Ground.chain }], guard := none }) rfl (fun K hK => ?_) AllReadyH.nil)
        go_simp
        (go_at_call 42; (with_reducible refine (HN2.out _).mono ?_); rintro e w5 ⟨rfl, hb5⟩; have HB5 := Lib.hid hb5; clear hb5)
        refine hK.out _ _ (bx_on hHeld2 HB5.out) (fun hHeld5 => ?_)
        clear hK K hHeld2
        (try simp only [Act.put, List.setIfInBounds_toArray, List.set_cons_zero, List.set_cons_succ])
        (refine heldTake (i := 6) (oi := { dst := some 10, op := Op.binOp BinOp.add 9 (Operand.tmp 6) (Operand.tmp 9) 9, type := 9, pos := "ref.go:60", after := #[{ on := 2, ground := Ground.data }, { on := 5, ground := Ground.data }], guard := none }) (v := ?_) rfl (by kernel_rfl) (by kernel_rfl) (by kernel_rfl) (by assumption) ?_ ?_; rotate_left; focus (refine .inl ⟨by kernel_rfl, ?_⟩; intro w hSw; (try dsimp only at hSw); go_simp; (try with_reducible rfl)); (try simp only [Act.put, List.setIfInBounds_toArray, List.set_cons_zero, List.set_cons_succ]))
        (refine heldTake (i := 11) (oi := { dst := some 15, op := Op.binOp BinOp.add 9 (Operand.tmp 10) (Operand.tmp 14) 9, type := 9, pos := "ref.go:60", after := #[{ on := 6, ground := Ground.data }, { on := 10, ground := Ground.data }], guard := none }) (v := ?_) rfl (by kernel_rfl) (by kernel_rfl) (by kernel_rfl) (by assumption) ?_ ?_; rotate_left; focus (refine .inl ⟨by kernel_rfl, ?_⟩; intro w hSw; (try dsimp only at hSw); go_simp; (try with_reducible rfl)); (try simp only [Act.put, List.setIfInBounds_toArray, List.set_cons_zero, List.set_cons_succ]))
        (refine heldTake (i := 12) (oi := { dst := some 3, op := Op.assign (Operand.tmp 15), type := 9, pos := "ref.go:60", after := #[{ on := 11, ground := Ground.data }, { on := 5, ground := Ground.chain }, { on := 0, ground := Ground.phase }, { on := 1, ground := Ground.phase }, { on := 2, ground := Ground.phase }, { on := 3, ground := Ground.phase }, { on := 4, ground := Ground.phase }, { on := 5, ground := Ground.phase }, { on := 6, ground := Ground.phase }, { on := 7, ground := Ground.phase }, { on := 8, ground := Ground.phase }, { on := 9, ground := Ground.phase }, { on := 10, ground := Ground.phase }, { on := 11, ground := Ground.phase }], guard := none }) (v := ?_) rfl (by kernel_rfl) (by kernel_rfl) (by kernel_rfl) (by assumption) ?_ ?_; rotate_left; focus (refine .inl ⟨by kernel_rfl, ?_⟩; intro w hSw; (try dsimp only at hSw); go_simp; (try with_reducible rfl)); (try simp only [Act.put, List.setIfInBounds_toArray, List.set_cons_zero, List.set_cons_succ]))
        refine wpAnyH_done (by kernel_rfl) ?_ _
        refine NoPanic.normal ?_
        have hLast := hHeld5
        clear hHeld5
        go_wp2
        go_meet
        exact ⟨congrArg Value.string HPs.out, hLast⟩
  case rest =>
    obtain ⟨rfl, hbx⟩ := hcut
    have hBX := hbx
    obtain ⟨_, c0, c1, c2, c3, c4, c5, c6, c7, c8⟩ := hbx
    have HBX := Lib.hid hBX
    clear hBX hB0 HN1 HN2 q1 q2
    have sP := S_size P
    have hDD := HDD.out
    unfold desL at hDD
    by_cases k0 : x.kind.toNat = 0
    · rw [if_pos k0] at hDD
      have HC := Lib.hid (fun w => count_any (x.typ.toNat : Int) w (by omega) (by have := u32_le x.typ; omega))
      have wt : IntKind.i64.wrap (x.typ.toNat : Int) = x.typ.toNat := by rw [IntKind.wrap_i64]; have := u32_le x.typ; omega
      have b0 : ((x.kind.toNat : Int) == 0) = true := be_of (by simp; omega)
      generalize lebL (x.typ.toNat : Int) = y at *
      rw [hDD] at hd
      (try rw [List.length_append, List.length_singleton] at hd)
      have sy := S_size y
      have q : ¬ 9223372036854775807 < (S P).size + (S y).size := by omega
      have HS := Lib.hid (show S P ++ S y = S (P ++ D) by rw [hDD, S_append])
      clear sy sP k0 hDD hd
      go_wp2_with (go_at_call 43; go_must ((with_reducible refine (HC.out _).mono ?_); rintro e w1 ⟨rfl, hb⟩; have HB := Lib.hid (bx_on HBX.out hb); clear hb))
      go_ret
      exact ⟨congrArg (fun b => Ending.returned (Value.string b)) HS.out, HB.out.1.2⟩
    rw [if_neg k0] at hDD
    have b0 : ((x.kind.toNat : Int) == 0) = false := be_of (by simp; omega)
    by_cases k1 : x.kind.toNat = 1
    · rw [if_pos k1] at hDD
      have HC := Lib.hid (fun w => refElim_any x.mn.toNat x.mx.toNat x.bd w (by omega) (u32_le _) (by omega) (u32_le _))
      have b1 : ((x.kind.toNat : Int) == 1) = true := be_of (by simp; omega)
      generalize encLim x.mn.toNat x.mx.toNat x.bd = y at *
      rw [hDD] at hd
      (try rw [List.length_append, List.length_singleton] at hd)
      have sy := S_size y
      have q : ¬ 9223372036854775807 < (S P).size + 1 + (S y).size := by omega
      have q' : ¬ 9223372036854775807 < (S P).size + 1 := by omega
      have q'' : ¬ 9223372036854775807 < (S P ++ S [112]).size + (S y).size := by rw [S_append, S_size, List.length_append, List.length_singleton]; omega
      have HS := Lib.hid (show S P ++ ({ data := #[112] } : ByteArray) ++ S y = S (P ++ D) by rw [hDD, show ({ data := #[112] } : ByteArray) = S [112] from rfl, S_app3, List.append_assoc])
      clear sy sP k0 k1 hDD hd
      go_wp2_with (go_at_call 44; go_must ((with_reducible refine (HC.out _).mono ?_); rintro e w1 ⟨rfl, hb⟩; have HB := Lib.hid (bx_on HBX.out hb); clear hb))
      go_ret
      exact ⟨congrArg (fun b => Ending.returned (Value.string b)) HS.out, HB.out.1.2⟩
    rw [if_neg k1] at hDD
    have b1 : ((x.kind.toNat : Int) == 1) = false := be_of (by simp; omega)
    by_cases k2 : x.kind.toNat = 2
    · rw [if_pos k2] at hDD
      have HC := Lib.hid (fun w => refElim_any x.mn.toNat x.mx.toNat x.bd w (by omega) (u32_le _) (by omega) (u32_le _))
      have b2 : ((x.kind.toNat : Int) == 2) = true := be_of (by simp; omega)
      generalize encLim x.mn.toNat x.mx.toNat x.bd = y at *
      rw [hDD] at hd
      (try rw [List.length_append, List.length_singleton] at hd)
      have sy := S_size y
      have q : ¬ 9223372036854775807 < (S P).size + (S y).size := by omega
      have HS := Lib.hid (show S P ++ S y = S (P ++ D) by rw [hDD, S_append])
      clear sy sP k0 k1 k2 hDD hd
      go_wp2_with (go_at_call 44; go_must ((with_reducible refine (HC.out _).mono ?_); rintro e w1 ⟨rfl, hb⟩; have HB := Lib.hid (bx_on HBX.out hb); clear hb))
      go_ret
      exact ⟨congrArg (fun b => Ending.returned (Value.string b)) HS.out, HB.out.1.2⟩
    rw [if_neg k2] at hDD
    have b2 : ((x.kind.toNat : Int) == 2) = false := be_of (by simp; omega)
    have HC := Lib.hid (fun w => refEncG_any x.gt.toNat x.gm w (by omega) (u8_le _))
    generalize encG x.gt.toNat x.gm = y at *
    rw [hDD] at hd
    (try rw [List.length_append, List.length_singleton] at hd)
    have sy := S_size y
    have q : ¬ 9223372036854775807 < (S P).size + (S y).size := by omega
    have HS := Lib.hid (show S P ++ S y = S (P ++ D) by rw [hDD, S_append])
    clear sy sP k0 k1 k2 hDD hd
    go_wp2_with (go_at_call 45; go_must ((with_reducible refine (HC.out _).mono ?_); rintro e w1 ⟨rfl, hb⟩; have HB := Lib.hid (bx_on HBX.out hb); clear hb))
    go_ret
    exact ⟨congrArg (fun b => Ending.returned (Value.string b)) HS.out, HB.out.1.2⟩
end Go.Proofs.YtdogjinjbnlgdaaDoor
