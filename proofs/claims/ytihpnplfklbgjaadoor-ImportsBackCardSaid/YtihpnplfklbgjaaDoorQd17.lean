/- creelref10.Put. -/
import Derived.Test.YtihpnplfklbgjaaDoorQd09
import Derived.Test.YtihpnplfklbgjaaDoorQd10
import Derived.Test.YtihpnplfklbgjaaDoorQd16
namespace Go.Proofs.YtihpnplfklbgjaaDoor
open Go.RowKit Go.Lib
set_option linter.unusedVariables false
set_option maxRecDepth 100000

theorem S_app3 (a b c : List UInt8) : S a ++ S b ++ S c = S (a ++ b ++ c) := by rw [S_append, S_append]
/-- How an import's bytes begin. -/
noncomputable def headP (x : Im) : List UInt8 := nmL x.mod ++ nmL x.nam ++ [x.kind]
set_option maxHeartbeats 4000000 in
theorem rput_im (x : Im) (w : World) (h1 : x.mod.length ≤ 100000) (h2 : x.nam.length ≤ 100000) :
    Calls Tryd.prog 21 #[imV x] w (Strs (iputL x) w) := by
  have hB0 := bx_start w x
  have hn1 := nmL_len h1 (by omega)
  have hn2 := nmL_len h2 (by omega)
  have hd := desL_len x
  have hx : iputL x = headP x ++ desL x := rfl
  have hp : headP x = nmL x.mod ++ nmL x.nam ++ [x.kind] := rfl
  have HN1 := Lib.hid (fun w => rname_im x.mod w h1)
  have HN2 := Lib.hid (fun w => rname_im x.nam w h2)
  have hhl : (headP x).length ≤ 300000 := by rw [hp]; simp only [List.length_append, List.length_singleton]; omega
  generalize nmL x.mod = y1 at *
  generalize nmL x.nam = y2 at *
  have sy1 := S_size y1
  have sy2 := S_size y2
  have q1 : ¬ 9223372036854775807 < (S y1).size + (S y2).size := by omega
  have q2 : ¬ 9223372036854775807 < (S y1).size + (S y2).size + (S [x.kind]).size := by have := S_size [x.kind]; rw [List.length_singleton] at this; omega
  rw [hx]
  obtain ⟨P, hP⟩ : ∃ P, P = headP x := ⟨_, rfl⟩
  have HP := Lib.hid (hP.trans hp)
  have HPs := Lib.hid (show S y1 ++ S y2 ++ S [x.kind] = S P by rw [S_app3, HP.out])
  rw [← hP] at hhl ⊢
  obtain ⟨D, hD⟩ : ∃ D, D = desL x := ⟨_, rfl⟩
  have HDD := Lib.hid hD
  rw [← hD] at hd ⊢
  clear hx hp hP sy1 sy2 hn1 hn2 h1 h2 hD
  go_enter Tryd.func21, Tryd.ntmps21
  go_upto_region 1 with fail
  generalize w.alloc (.cells (imC x) 52) = W0 at *
  go_cut [3] (fun s W => s = .string (S P) ∧ Bx w w.heap.size x W)
  case first =>
    refine wp_region_noPanic ?_
    refine wp_region_held_drew (S := fun W => Bx w w.heap.size x W) (by kernel_rfl) (bx_on hB0 (Below.refl _ _).drew) (fun hHeld => ?_)
    clear hB0
    (refine heldTake (i := 0) (oi := { dst := some 4, op := Op.fieldAddr 52 (Operand.tmp 1) 0, type := 0, pos := "ref.go:60", after := #[], guard := none }) (v := ?_) rfl (by kernel_rfl) (by kernel_rfl) (by kernel_rfl) (by assumption) ?_ ?_; rotate_left; focus (refine .inl ⟨by kernel_rfl, ?_⟩; intro w hSw; (try dsimp only at hSw); go_simp; (try with_reducible rfl)); (try simp only [Act.put, List.setIfInBounds_toArray, List.set_cons_zero, List.set_cons_succ]))
    (refine heldTake (i := 1) (oi := { dst := some 5, op := Op.load 9 (Operand.tmp 4), type := 9, pos := "ref.go:60", after := #[{ on := 0, ground := Ground.data }], guard := none }) (v := ?_) rfl (by kernel_rfl) (by kernel_rfl) (by kernel_rfl) (by assumption) ?_ ?_; rotate_left; focus (refine .inl ⟨by kernel_rfl, ?_⟩; intro w hSw; (try dsimp only at hSw); go_simp; (try with_reducible rfl)); (try simp only [Act.put, List.setIfInBounds_toArray, List.set_cons_zero, List.set_cons_succ]))
    (refine heldTake (i := 3) (oi := { dst := some 7, op := Op.fieldAddr 52 (Operand.tmp 1) 1, type := 0, pos := "ref.go:60", after := #[], guard := none }) (v := ?_) rfl (by kernel_rfl) (by kernel_rfl) (by kernel_rfl) (by assumption) ?_ ?_; rotate_left; focus (refine .inl ⟨by kernel_rfl, ?_⟩; intro w hSw; (try dsimp only at hSw); go_simp; (try with_reducible rfl)); (try simp only [Act.put, List.setIfInBounds_toArray, List.set_cons_zero, List.set_cons_succ]))
    (refine heldTake (i := 4) (oi := { dst := some 8, op := Op.load 9 (Operand.tmp 7), type := 9, pos := "ref.go:60", after := #[{ on := 3, ground := Ground.data }], guard := none }) (v := ?_) rfl (by kernel_rfl) (by kernel_rfl) (by kernel_rfl) (by assumption) ?_ ?_; rotate_left; focus (refine .inl ⟨by kernel_rfl, ?_⟩; intro w hSw; (try dsimp only at hSw); go_simp; (try with_reducible rfl)); (try simp only [Act.put, List.setIfInBounds_toArray, List.set_cons_zero, List.set_cons_succ]))
    (refine heldTake (i := 7) (oi := { dst := some 11, op := Op.fieldAddr 52 (Operand.tmp 1) 2, type := 0, pos := "ref.go:60", after := #[], guard := none }) (v := ?_) rfl (by kernel_rfl) (by kernel_rfl) (by kernel_rfl) (by assumption) ?_ ?_; rotate_left; focus (refine .inl ⟨by kernel_rfl, ?_⟩; intro w hSw; (try dsimp only at hSw); go_simp; (try with_reducible rfl)); (try simp only [Act.put, List.setIfInBounds_toArray, List.set_cons_zero, List.set_cons_succ]))
    (refine heldTake (i := 8) (oi := { dst := some 12, op := Op.load 5 (Operand.tmp 11), type := 5, pos := "ref.go:60", after := #[{ on := 7, ground := Ground.data }], guard := none }) (v := ?_) rfl (by kernel_rfl) (by kernel_rfl) (by kernel_rfl) (by assumption) ?_ ?_; rotate_left; focus (refine .inl ⟨by kernel_rfl, ?_⟩; intro w hSw; (try dsimp only at hSw); go_simp; (try with_reducible rfl)); (try simp only [Act.put, List.setIfInBounds_toArray, List.set_cons_zero, List.set_cons_succ]))
    refine wpAnyH_ready (rs := [2, 9]) (by kernel_rfl) (by simp) ?_
    refine (AllReadyH.cons (o := { dst := some 6, op := Op.call { callee := Callee.value (Operand.func 60), args := #[Operand.tmp 5], argTypes := #[9] }, type := 9, pos := "ref.go:60", after := #[{ on := 1, ground := Ground.data }], guard := none }) rfl (fun K hK => ?_) (AllReadyH.cons (o := { dst := some 13, op := Op.buildSlice 29 1 #[(0, Operand.tmp 12)], type := 29, pos := "ref.go:60", after := #[{ on := 8, ground := Ground.data }], guard := none }) rfl (fun K hK => ?_) AllReadyH.nil))
    · go_simp
      (go_at_call 60; (with_reducible refine (HN1.out _).mono ?_); rintro e w2 ⟨rfl, hb2⟩; have HB2 := Lib.hid hb2; clear hb2)
      refine hK.out _ _ (bx_on hHeld HB2.out) (fun hHeld2 => ?_)
      clear hK K hHeld
      (try simp only [Act.put, List.setIfInBounds_toArray, List.set_cons_zero, List.set_cons_succ])
      refine wpAnyH_ready (rs := [5, 9]) (by kernel_rfl) (by simp) ?_
      refine (AllReadyH.cons (o := { dst := some 9, op := Op.call { callee := Callee.value (Operand.func 60), args := #[Operand.tmp 8], argTypes := #[9] }, type := 9, pos := "ref.go:60", after := #[{ on := 4, ground := Ground.data }, { on := 2, ground := Ground.chain }], guard := none }) rfl (fun K hK => ?_) (AllReadyH.cons (o := { dst := some 13, op := Op.buildSlice 29 1 #[(0, Operand.tmp 12)], type := 29, pos := "ref.go:60", after := #[{ on := 8, ground := Ground.data }], guard := none }) rfl (fun K hK => ?_) AllReadyH.nil))
      · go_simp
        (go_at_call 60; (with_reducible refine (HN2.out _).mono ?_); rintro e w5 ⟨rfl, hb5⟩; have HB5 := Lib.hid hb5; clear hb5)
        refine hK.out _ _ (bx_on hHeld2 HB5.out) (fun hHeld5 => ?_)
        clear hK K hHeld2
        (try simp only [Act.put, List.setIfInBounds_toArray, List.set_cons_zero, List.set_cons_succ])
        (refine heldTake (i := 6) (oi := { dst := some 10, op := Op.binOp BinOp.add 9 (Operand.tmp 6) (Operand.tmp 9) 9, type := 9, pos := "ref.go:60", after := #[{ on := 2, ground := Ground.data }, { on := 5, ground := Ground.data }], guard := none }) (v := ?_) rfl (by kernel_rfl) (by kernel_rfl) (by kernel_rfl) (by assumption) ?_ ?_; rotate_left; focus (refine .inl ⟨by kernel_rfl, ?_⟩; intro w hSw; (try dsimp only at hSw); go_simp; (try with_reducible rfl)); (try simp only [Act.put, List.setIfInBounds_toArray, List.set_cons_zero, List.set_cons_succ]))
        refine wpAnyH_ready (rs := [9]) (by kernel_rfl) (by simp) ?_
        refine (AllReadyH.cons (o := { dst := some 13, op := Op.buildSlice 29 1 #[(0, Operand.tmp 12)], type := 29, pos := "ref.go:60", after := #[{ on := 8, ground := Ground.data }], guard := none }) rfl (fun K hK => ?_) AllReadyH.nil)
        refine step_build1 rfl _ rfl x.kind rfl ?_; intro g9 wa9 hg9 hb9 hp9; have HB9 := Lib.hid hb9; have HP9 := Lib.hid hp9; clear hb9 hp9
        refine hK.out _ _ (bx_on hHeld5 HB9.out) (fun hHeld9 => ?_)
        clear hK K hHeld5
        (try simp only [Act.put, List.setIfInBounds_toArray, List.set_cons_zero, List.set_cons_succ])
        refine wpAnyH_ready (rs := [10]) (by kernel_rfl) (by simp) ?_
        refine (AllReadyH.cons (o := { dst := some 14, op := Op.convert 29 9 (Operand.tmp 13), type := 9, pos := "ref.go:60", after := #[{ on := 9, ground := Ground.data }], guard := none }) rfl (fun K hK => ?_) AllReadyH.nil)
        go_simp; refine upon_str (l := [x.kind]) (HP9.out) ?_; have HB10 := Lib.hid (Below.refl 0 w)
        refine hK.out _ _ hHeld9 (fun hHeld10 => ?_)
        clear hK K hHeld9
        (try simp only [Act.put, List.setIfInBounds_toArray, List.set_cons_zero, List.set_cons_succ])
        (refine heldTake (i := 11) (oi := { dst := some 15, op := Op.binOp BinOp.add 9 (Operand.tmp 10) (Operand.tmp 14) 9, type := 9, pos := "ref.go:60", after := #[{ on := 6, ground := Ground.data }, { on := 10, ground := Ground.data }], guard := none }) (v := ?_) rfl (by kernel_rfl) (by kernel_rfl) (by kernel_rfl) (by assumption) ?_ ?_; rotate_left; focus (refine .inl ⟨by kernel_rfl, ?_⟩; intro w hSw; (try dsimp only at hSw); go_simp; (try with_reducible rfl)); (try simp only [Act.put, List.setIfInBounds_toArray, List.set_cons_zero, List.set_cons_succ]))
        (refine heldTake (i := 12) (oi := { dst := some 3, op := Op.assign (Operand.tmp 15), type := 9, pos := "ref.go:60", after := #[{ on := 11, ground := Ground.data }, { on := 5, ground := Ground.chain }, { on := 0, ground := Ground.phase }, { on := 1, ground := Ground.phase }, { on := 2, ground := Ground.phase }, { on := 3, ground := Ground.phase }, { on := 4, ground := Ground.phase }, { on := 5, ground := Ground.phase }, { on := 6, ground := Ground.phase }, { on := 7, ground := Ground.phase }, { on := 8, ground := Ground.phase }, { on := 9, ground := Ground.phase }, { on := 10, ground := Ground.phase }, { on := 11, ground := Ground.phase }], guard := none }) (v := ?_) rfl (by kernel_rfl) (by kernel_rfl) (by kernel_rfl) (by assumption) ?_ ?_; rotate_left; focus (refine .inl ⟨by kernel_rfl, ?_⟩; intro w hSw; (try dsimp only at hSw); go_simp; (try with_reducible rfl)); (try simp only [Act.put, List.setIfInBounds_toArray, List.set_cons_zero, List.set_cons_succ]))
        refine wpAnyH_done (by kernel_rfl) ?_ _
        refine NoPanic.normal ?_
        have hLast := hHeld10
        clear hHeld10
        go_wp2
        go_meet
        exact ⟨congrArg Value.string HPs.out, hLast⟩
      · refine step_build1 rfl _ rfl x.kind rfl ?_; intro g9 wa9 hg9 hb9 hp9; have HB9 := Lib.hid hb9; have HP9 := Lib.hid hp9; clear hb9 hp9
        refine hK.out _ _ (bx_on hHeld2 HB9.out) (fun hHeld9 => ?_)
        clear hK K hHeld2
        (try simp only [Act.put, List.setIfInBounds_toArray, List.set_cons_zero, List.set_cons_succ])
        refine wpAnyH_ready (rs := [5, 10]) (by kernel_rfl) (by simp) ?_
        refine (AllReadyH.cons (o := { dst := some 9, op := Op.call { callee := Callee.value (Operand.func 60), args := #[Operand.tmp 8], argTypes := #[9] }, type := 9, pos := "ref.go:60", after := #[{ on := 4, ground := Ground.data }, { on := 2, ground := Ground.chain }], guard := none }) rfl (fun K hK => ?_) (AllReadyH.cons (o := { dst := some 14, op := Op.convert 29 9 (Operand.tmp 13), type := 9, pos := "ref.go:60", after := #[{ on := 9, ground := Ground.data }], guard := none }) rfl (fun K hK => ?_) AllReadyH.nil))
        · go_simp
          (go_at_call 60; (with_reducible refine (HN2.out _).mono ?_); rintro e w5 ⟨rfl, hb5⟩; have HB5 := Lib.hid hb5; clear hb5)
          refine hK.out _ _ (bx_on hHeld9 HB5.out) (fun hHeld5 => ?_)
          clear hK K hHeld9
          (try simp only [Act.put, List.setIfInBounds_toArray, List.set_cons_zero, List.set_cons_succ])
          (refine heldTake (i := 6) (oi := { dst := some 10, op := Op.binOp BinOp.add 9 (Operand.tmp 6) (Operand.tmp 9) 9, type := 9, pos := "ref.go:60", after := #[{ on := 2, ground := Ground.data }, { on := 5, ground := Ground.data }], guard := none }) (v := ?_) rfl (by kernel_rfl) (by kernel_rfl) (by kernel_rfl) (by assumption) ?_ ?_; rotate_left; focus (refine .inl ⟨by kernel_rfl, ?_⟩; intro w hSw; (try dsimp only at hSw); go_simp; (try with_reducible rfl)); (try simp only [Act.put, List.setIfInBounds_toArray, List.set_cons_zero, List.set_cons_succ]))
          refine wpAnyH_ready (rs := [10]) (by kernel_rfl) (by simp) ?_
          refine (AllReadyH.cons (o := { dst := some 14, op := Op.convert 29 9 (Operand.tmp 13), type := 9, pos := "ref.go:60", after := #[{ on := 9, ground := Ground.data }], guard := none }) rfl (fun K hK => ?_) AllReadyH.nil)
          go_simp; refine upon_str (l := [x.kind]) (((HP9.out).below HB5.out)) ?_; have HB10 := Lib.hid (Below.refl 0 w)
          refine hK.out _ _ hHeld5 (fun hHeld10 => ?_)
          clear hK K hHeld5
          (try simp only [Act.put, List.setIfInBounds_toArray, List.set_cons_zero, List.set_cons_succ])
          (refine heldTake (i := 11) (oi := { dst := some 15, op := Op.binOp BinOp.add 9 (Operand.tmp 10) (Operand.tmp 14) 9, type := 9, pos := "ref.go:60", after := #[{ on := 6, ground := Ground.data }, { on := 10, ground := Ground.data }], guard := none }) (v := ?_) rfl (by kernel_rfl) (by kernel_rfl) (by kernel_rfl) (by assumption) ?_ ?_; rotate_left; focus (refine .inl ⟨by kernel_rfl, ?_⟩; intro w hSw; (try dsimp only at hSw); go_simp; (try with_reducible rfl)); (try simp only [Act.put, List.setIfInBounds_toArray, List.set_cons_zero, List.set_cons_succ]))
          (refine heldTake (i := 12) (oi := { dst := some 3, op := Op.assign (Operand.tmp 15), type := 9, pos := "ref.go:60", after := #[{ on := 11, ground := Ground.data }, { on := 5, ground := Ground.chain }, { on := 0, ground := Ground.phase }, { on := 1, ground := Ground.phase }, { on := 2, ground := Ground.phase }, { on := 3, ground := Ground.phase }, { on := 4, ground := Ground.phase }, { on := 5, ground := Ground.phase }, { on := 6, ground := Ground.phase }, { on := 7, ground := Ground.phase }, { on := 8, ground := Ground.phase }, { on := 9, ground := Ground.phase }, { on := 10, ground := Ground.phase }, { on := 11, ground := Ground.phase }], guard := none }) (v := ?_) rfl (by kernel_rfl) (by kernel_rfl) (by kernel_rfl) (by assumption) ?_ ?_; rotate_left; focus (refine .inl ⟨by kernel_rfl, ?_⟩; intro w hSw; (try dsimp only at hSw); go_simp; (try with_reducible rfl)); (try simp only [Act.put, List.setIfInBounds_toArray, List.set_cons_zero, List.set_cons_succ]))
          refine wpAnyH_done (by kernel_rfl) ?_ _
          refine NoPanic.normal ?_
          have hLast := hHeld10
          clear hHeld10
          go_wp2
          go_meet
          exact ⟨congrArg Value.string HPs.out, hLast⟩
        · go_simp; refine upon_str (l := [x.kind]) (HP9.out) ?_; have HB10 := Lib.hid (Below.refl 0 w)
          refine hK.out _ _ hHeld9 (fun hHeld10 => ?_)
          clear hK K hHeld9
          (try simp only [Act.put, List.setIfInBounds_toArray, List.set_cons_zero, List.set_cons_succ])
          refine wpAnyH_ready (rs := [5]) (by kernel_rfl) (by simp) ?_
          refine (AllReadyH.cons (o := { dst := some 9, op := Op.call { callee := Callee.value (Operand.func 60), args := #[Operand.tmp 8], argTypes := #[9] }, type := 9, pos := "ref.go:60", after := #[{ on := 4, ground := Ground.data }, { on := 2, ground := Ground.chain }], guard := none }) rfl (fun K hK => ?_) AllReadyH.nil)
          go_simp
          (go_at_call 60; (with_reducible refine (HN2.out _).mono ?_); rintro e w5 ⟨rfl, hb5⟩; have HB5 := Lib.hid hb5; clear hb5)
          refine hK.out _ _ (bx_on hHeld10 HB5.out) (fun hHeld5 => ?_)
          clear hK K hHeld10
          (try simp only [Act.put, List.setIfInBounds_toArray, List.set_cons_zero, List.set_cons_succ])
          (refine heldTake (i := 6) (oi := { dst := some 10, op := Op.binOp BinOp.add 9 (Operand.tmp 6) (Operand.tmp 9) 9, type := 9, pos := "ref.go:60", after := #[{ on := 2, ground := Ground.data }, { on := 5, ground := Ground.data }], guard := none }) (v := ?_) rfl (by kernel_rfl) (by kernel_rfl) (by kernel_rfl) (by assumption) ?_ ?_; rotate_left; focus (refine .inl ⟨by kernel_rfl, ?_⟩; intro w hSw; (try dsimp only at hSw); go_simp; (try with_reducible rfl)); (try simp only [Act.put, List.setIfInBounds_toArray, List.set_cons_zero, List.set_cons_succ]))
          (refine heldTake (i := 11) (oi := { dst := some 15, op := Op.binOp BinOp.add 9 (Operand.tmp 10) (Operand.tmp 14) 9, type := 9, pos := "ref.go:60", after := #[{ on := 6, ground := Ground.data }, { on := 10, ground := Ground.data }], guard := none }) (v := ?_) rfl (by kernel_rfl) (by kernel_rfl) (by kernel_rfl) (by assumption) ?_ ?_; rotate_left; focus (refine .inl ⟨by kernel_rfl, ?_⟩; intro w hSw; (try dsimp only at hSw); go_simp; (try with_reducible rfl)); (try simp only [Act.put, List.setIfInBounds_toArray, List.set_cons_zero, List.set_cons_succ]))
          (refine heldTake (i := 12) (oi := { dst := some 3, op := Op.assign (Operand.tmp 15), type := 9, pos := "ref.go:60", after := #[{ on := 11, ground := Ground.data }, { on := 5, ground := Ground.chain }, { on := 0, ground := Ground.phase }, { on := 1, ground := Ground.phase }, { on := 2, ground := Ground.phase }, { on := 3, ground := Ground.phase }, { on := 4, ground := Ground.phase }, { on := 5, ground := Ground.phase }, { on := 6, ground := Ground.phase }, { on := 7, ground := Ground.phase }, { on := 8, ground := Ground.phase }, { on := 9, ground := Ground.phase }, { on := 10, ground := Ground.phase }, { on := 11, ground := Ground.phase }], guard := none }) (v := ?_) rfl (by kernel_rfl) (by kernel_rfl) (by kernel_rfl) (by assumption) ?_ ?_; rotate_left; focus (refine .inl ⟨by kernel_rfl, ?_⟩; intro w hSw; (try dsimp only at hSw); go_simp; (try with_reducible rfl)); (try simp only [Act.put, List.setIfInBounds_toArray, List.set_cons_zero, List.set_cons_succ]))
          refine wpAnyH_done (by kernel_rfl) ?_ _
          refine NoPanic.normal ?_
          have hLast := hHeld5
          clear hHeld5
          go_wp2
          go_meet
          exact ⟨congrArg Value.string HPs.out, hLast⟩
    · refine step_build1 rfl _ rfl x.kind rfl ?_; intro g9 wa9 hg9 hb9 hp9; have HB9 := Lib.hid hb9; have HP9 := Lib.hid hp9; clear hb9 hp9
      refine hK.out _ _ (bx_on hHeld HB9.out) (fun hHeld9 => ?_)
      clear hK K hHeld
      (try simp only [Act.put, List.setIfInBounds_toArray, List.set_cons_zero, List.set_cons_succ])
      refine wpAnyH_ready (rs := [2, 10]) (by kernel_rfl) (by simp) ?_
      refine (AllReadyH.cons (o := { dst := some 6, op := Op.call { callee := Callee.value (Operand.func 60), args := #[Operand.tmp 5], argTypes := #[9] }, type := 9, pos := "ref.go:60", after := #[{ on := 1, ground := Ground.data }], guard := none }) rfl (fun K hK => ?_) (AllReadyH.cons (o := { dst := some 14, op := Op.convert 29 9 (Operand.tmp 13), type := 9, pos := "ref.go:60", after := #[{ on := 9, ground := Ground.data }], guard := none }) rfl (fun K hK => ?_) AllReadyH.nil))
      · go_simp
        (go_at_call 60; (with_reducible refine (HN1.out _).mono ?_); rintro e w2 ⟨rfl, hb2⟩; have HB2 := Lib.hid hb2; clear hb2)
        refine hK.out _ _ (bx_on hHeld9 HB2.out) (fun hHeld2 => ?_)
        clear hK K hHeld9
        (try simp only [Act.put, List.setIfInBounds_toArray, List.set_cons_zero, List.set_cons_succ])
        refine wpAnyH_ready (rs := [5, 10]) (by kernel_rfl) (by simp) ?_
        refine (AllReadyH.cons (o := { dst := some 9, op := Op.call { callee := Callee.value (Operand.func 60), args := #[Operand.tmp 8], argTypes := #[9] }, type := 9, pos := "ref.go:60", after := #[{ on := 4, ground := Ground.data }, { on := 2, ground := Ground.chain }], guard := none }) rfl (fun K hK => ?_) (AllReadyH.cons (o := { dst := some 14, op := Op.convert 29 9 (Operand.tmp 13), type := 9, pos := "ref.go:60", after := #[{ on := 9, ground := Ground.data }], guard := none }) rfl (fun K hK => ?_) AllReadyH.nil))
        · go_simp
          (go_at_call 60; (with_reducible refine (HN2.out _).mono ?_); rintro e w5 ⟨rfl, hb5⟩; have HB5 := Lib.hid hb5; clear hb5)
          refine hK.out _ _ (bx_on hHeld2 HB5.out) (fun hHeld5 => ?_)
          clear hK K hHeld2
          (try simp only [Act.put, List.setIfInBounds_toArray, List.set_cons_zero, List.set_cons_succ])
          (refine heldTake (i := 6) (oi := { dst := some 10, op := Op.binOp BinOp.add 9 (Operand.tmp 6) (Operand.tmp 9) 9, type := 9, pos := "ref.go:60", after := #[{ on := 2, ground := Ground.data }, { on := 5, ground := Ground.data }], guard := none }) (v := ?_) rfl (by kernel_rfl) (by kernel_rfl) (by kernel_rfl) (by assumption) ?_ ?_; rotate_left; focus (refine .inl ⟨by kernel_rfl, ?_⟩; intro w hSw; (try dsimp only at hSw); go_simp; (try with_reducible rfl)); (try simp only [Act.put, List.setIfInBounds_toArray, List.set_cons_zero, List.set_cons_succ]))
          refine wpAnyH_ready (rs := [10]) (by kernel_rfl) (by simp) ?_
          refine (AllReadyH.cons (o := { dst := some 14, op := Op.convert 29 9 (Operand.tmp 13), type := 9, pos := "ref.go:60", after := #[{ on := 9, ground := Ground.data }], guard := none }) rfl (fun K hK => ?_) AllReadyH.nil)
          go_simp; refine upon_str (l := [x.kind]) (((((HP9.out).below HB2.out)).below HB5.out)) ?_; have HB10 := Lib.hid (Below.refl 0 w)
          refine hK.out _ _ hHeld5 (fun hHeld10 => ?_)
          clear hK K hHeld5
          (try simp only [Act.put, List.setIfInBounds_toArray, List.set_cons_zero, List.set_cons_succ])
          (refine heldTake (i := 11) (oi := { dst := some 15, op := Op.binOp BinOp.add 9 (Operand.tmp 10) (Operand.tmp 14) 9, type := 9, pos := "ref.go:60", after := #[{ on := 6, ground := Ground.data }, { on := 10, ground := Ground.data }], guard := none }) (v := ?_) rfl (by kernel_rfl) (by kernel_rfl) (by kernel_rfl) (by assumption) ?_ ?_; rotate_left; focus (refine .inl ⟨by kernel_rfl, ?_⟩; intro w hSw; (try dsimp only at hSw); go_simp; (try with_reducible rfl)); (try simp only [Act.put, List.setIfInBounds_toArray, List.set_cons_zero, List.set_cons_succ]))
          (refine heldTake (i := 12) (oi := { dst := some 3, op := Op.assign (Operand.tmp 15), type := 9, pos := "ref.go:60", after := #[{ on := 11, ground := Ground.data }, { on := 5, ground := Ground.chain }, { on := 0, ground := Ground.phase }, { on := 1, ground := Ground.phase }, { on := 2, ground := Ground.phase }, { on := 3, ground := Ground.phase }, { on := 4, ground := Ground.phase }, { on := 5, ground := Ground.phase }, { on := 6, ground := Ground.phase }, { on := 7, ground := Ground.phase }, { on := 8, ground := Ground.phase }, { on := 9, ground := Ground.phase }, { on := 10, ground := Ground.phase }, { on := 11, ground := Ground.phase }], guard := none }) (v := ?_) rfl (by kernel_rfl) (by kernel_rfl) (by kernel_rfl) (by assumption) ?_ ?_; rotate_left; focus (refine .inl ⟨by kernel_rfl, ?_⟩; intro w hSw; (try dsimp only at hSw); go_simp; (try with_reducible rfl)); (try simp only [Act.put, List.setIfInBounds_toArray, List.set_cons_zero, List.set_cons_succ]))
          refine wpAnyH_done (by kernel_rfl) ?_ _
          refine NoPanic.normal ?_
          have hLast := hHeld10
          clear hHeld10
          go_wp2
          go_meet
          exact ⟨congrArg Value.string HPs.out, hLast⟩
        · go_simp; refine upon_str (l := [x.kind]) (((HP9.out).below HB2.out)) ?_; have HB10 := Lib.hid (Below.refl 0 w)
          refine hK.out _ _ hHeld2 (fun hHeld10 => ?_)
          clear hK K hHeld2
          (try simp only [Act.put, List.setIfInBounds_toArray, List.set_cons_zero, List.set_cons_succ])
          refine wpAnyH_ready (rs := [5]) (by kernel_rfl) (by simp) ?_
          refine (AllReadyH.cons (o := { dst := some 9, op := Op.call { callee := Callee.value (Operand.func 60), args := #[Operand.tmp 8], argTypes := #[9] }, type := 9, pos := "ref.go:60", after := #[{ on := 4, ground := Ground.data }, { on := 2, ground := Ground.chain }], guard := none }) rfl (fun K hK => ?_) AllReadyH.nil)
          go_simp
          (go_at_call 60; (with_reducible refine (HN2.out _).mono ?_); rintro e w5 ⟨rfl, hb5⟩; have HB5 := Lib.hid hb5; clear hb5)
          refine hK.out _ _ (bx_on hHeld10 HB5.out) (fun hHeld5 => ?_)
          clear hK K hHeld10
          (try simp only [Act.put, List.setIfInBounds_toArray, List.set_cons_zero, List.set_cons_succ])
          (refine heldTake (i := 6) (oi := { dst := some 10, op := Op.binOp BinOp.add 9 (Operand.tmp 6) (Operand.tmp 9) 9, type := 9, pos := "ref.go:60", after := #[{ on := 2, ground := Ground.data }, { on := 5, ground := Ground.data }], guard := none }) (v := ?_) rfl (by kernel_rfl) (by kernel_rfl) (by kernel_rfl) (by assumption) ?_ ?_; rotate_left; focus (refine .inl ⟨by kernel_rfl, ?_⟩; intro w hSw; (try dsimp only at hSw); go_simp; (try with_reducible rfl)); (try simp only [Act.put, List.setIfInBounds_toArray, List.set_cons_zero, List.set_cons_succ]))
          (refine heldTake (i := 11) (oi := { dst := some 15, op := Op.binOp BinOp.add 9 (Operand.tmp 10) (Operand.tmp 14) 9, type := 9, pos := "ref.go:60", after := #[{ on := 6, ground := Ground.data }, { on := 10, ground := Ground.data }], guard := none }) (v := ?_) rfl (by kernel_rfl) (by kernel_rfl) (by kernel_rfl) (by assumption) ?_ ?_; rotate_left; focus (refine .inl ⟨by kernel_rfl, ?_⟩; intro w hSw; (try dsimp only at hSw); go_simp; (try with_reducible rfl)); (try simp only [Act.put, List.setIfInBounds_toArray, List.set_cons_zero, List.set_cons_succ]))
          (refine heldTake (i := 12) (oi := { dst := some 3, op := Op.assign (Operand.tmp 15), type := 9, pos := "ref.go:60", after := #[{ on := 11, ground := Ground.data }, { on := 5, ground := Ground.chain }, { on := 0, ground := Ground.phase }, { on := 1, ground := Ground.phase }, { on := 2, ground := Ground.phase }, { on := 3, ground := Ground.phase }, { on := 4, ground := Ground.phase }, { on := 5, ground := Ground.phase }, { on := 6, ground := Ground.phase }, { on := 7, ground := Ground.phase }, { on := 8, ground := Ground.phase }, { on := 9, ground := Ground.phase }, { on := 10, ground := Ground.phase }, { on := 11, ground := Ground.phase }], guard := none }) (v := ?_) rfl (by kernel_rfl) (by kernel_rfl) (by kernel_rfl) (by assumption) ?_ ?_; rotate_left; focus (refine .inl ⟨by kernel_rfl, ?_⟩; intro w hSw; (try dsimp only at hSw); go_simp; (try with_reducible rfl)); (try simp only [Act.put, List.setIfInBounds_toArray, List.set_cons_zero, List.set_cons_succ]))
          refine wpAnyH_done (by kernel_rfl) ?_ _
          refine NoPanic.normal ?_
          have hLast := hHeld5
          clear hHeld5
          go_wp2
          go_meet
          exact ⟨congrArg Value.string HPs.out, hLast⟩
      · go_simp; refine upon_str (l := [x.kind]) (HP9.out) ?_; have HB10 := Lib.hid (Below.refl 0 w)
        refine hK.out _ _ hHeld9 (fun hHeld10 => ?_)
        clear hK K hHeld9
        (try simp only [Act.put, List.setIfInBounds_toArray, List.set_cons_zero, List.set_cons_succ])
        refine wpAnyH_ready (rs := [2]) (by kernel_rfl) (by simp) ?_
        refine (AllReadyH.cons (o := { dst := some 6, op := Op.call { callee := Callee.value (Operand.func 60), args := #[Operand.tmp 5], argTypes := #[9] }, type := 9, pos := "ref.go:60", after := #[{ on := 1, ground := Ground.data }], guard := none }) rfl (fun K hK => ?_) AllReadyH.nil)
        go_simp
        (go_at_call 60; (with_reducible refine (HN1.out _).mono ?_); rintro e w2 ⟨rfl, hb2⟩; have HB2 := Lib.hid hb2; clear hb2)
        refine hK.out _ _ (bx_on hHeld10 HB2.out) (fun hHeld2 => ?_)
        clear hK K hHeld10
        (try simp only [Act.put, List.setIfInBounds_toArray, List.set_cons_zero, List.set_cons_succ])
        refine wpAnyH_ready (rs := [5]) (by kernel_rfl) (by simp) ?_
        refine (AllReadyH.cons (o := { dst := some 9, op := Op.call { callee := Callee.value (Operand.func 60), args := #[Operand.tmp 8], argTypes := #[9] }, type := 9, pos := "ref.go:60", after := #[{ on := 4, ground := Ground.data }, { on := 2, ground := Ground.chain }], guard := none }) rfl (fun K hK => ?_) AllReadyH.nil)
        go_simp
        (go_at_call 60; (with_reducible refine (HN2.out _).mono ?_); rintro e w5 ⟨rfl, hb5⟩; have HB5 := Lib.hid hb5; clear hb5)
        refine hK.out _ _ (bx_on hHeld2 HB5.out) (fun hHeld5 => ?_)
        clear hK K hHeld2
        (try simp only [Act.put, List.setIfInBounds_toArray, List.set_cons_zero, List.set_cons_succ])
        (refine heldTake (i := 6) (oi := { dst := some 10, op := Op.binOp BinOp.add 9 (Operand.tmp 6) (Operand.tmp 9) 9, type := 9, pos := "ref.go:60", after := #[{ on := 2, ground := Ground.data }, { on := 5, ground := Ground.data }], guard := none }) (v := ?_) rfl (by kernel_rfl) (by kernel_rfl) (by kernel_rfl) (by assumption) ?_ ?_; rotate_left; focus (refine .inl ⟨by kernel_rfl, ?_⟩; intro w hSw; (try dsimp only at hSw); go_simp; (try with_reducible rfl)); (try simp only [Act.put, List.setIfInBounds_toArray, List.set_cons_zero, List.set_cons_succ]))
        (refine heldTake (i := 11) (oi := { dst := some 15, op := Op.binOp BinOp.add 9 (Operand.tmp 10) (Operand.tmp 14) 9, type := 9, pos := "ref.go:60", after := #[{ on := 6, ground := Ground.data }, { on := 10, ground := Ground.data }], guard := none }) (v := ?_) rfl (by kernel_rfl) (by kernel_rfl) (by kernel_rfl) (by assumption) ?_ ?_; rotate_left; focus (refine .inl ⟨by kernel_rfl, ?_⟩; intro w hSw; (try dsimp only at hSw); go_simp; (try with_reducible rfl)); (try simp only [Act.put, List.setIfInBounds_toArray, List.set_cons_zero, List.set_cons_succ]))
        (refine heldTake (i := 12) (oi := { dst := some 3, op := Op.assign (Operand.tmp 15), type := 9, pos := "ref.go:60", after := #[{ on := 11, ground := Ground.data }, { on := 5, ground := Ground.chain }, { on := 0, ground := Ground.phase }, { on := 1, ground := Ground.phase }, { on := 2, ground := Ground.phase }, { on := 3, ground := Ground.phase }, { on := 4, ground := Ground.phase }, { on := 5, ground := Ground.phase }, { on := 6, ground := Ground.phase }, { on := 7, ground := Ground.phase }, { on := 8, ground := Ground.phase }, { on := 9, ground := Ground.phase }, { on := 10, ground := Ground.phase }, { on := 11, ground := Ground.phase }], guard := none }) (v := ?_) rfl (by kernel_rfl) (by kernel_rfl) (by kernel_rfl) (by assumption) ?_ ?_; rotate_left; focus (refine .inl ⟨by kernel_rfl, ?_⟩; intro w hSw; (try dsimp only at hSw); go_simp; (try with_reducible rfl)); (try simp only [Act.put, List.setIfInBounds_toArray, List.set_cons_zero, List.set_cons_succ]))
        refine wpAnyH_done (by kernel_rfl) ?_ _
        refine NoPanic.normal ?_
        have hLast := hHeld5
        clear hHeld5
        go_wp2
        go_meet
        exact ⟨congrArg Value.string HPs.out, hLast⟩
  case rest =>
    obtain ⟨rfl, hbx⟩ := hcut
    have hBX := hbx
    obtain ⟨_, c0, c1, c2, c3, c4, c5, c6, c7, c8⟩ := hbx
    have HBX := Lib.hid hBX
    clear hBX hB0 HN1 HN2 q1 q2
    have sP := S_size P
    have hDD := HDD.out
    unfold desL at hDD
    by_cases k0 : x.kind.toNat = 0
    · rw [if_pos k0] at hDD
      have HC := Lib.hid (fun w => count_any (x.typ.toNat : Int) w (by omega) (by have := u32_le x.typ; omega))
      have wt : IntKind.i64.wrap (x.typ.toNat : Int) = x.typ.toNat := by rw [IntKind.wrap_i64]; have := u32_le x.typ; omega
      have b0 : ((x.kind.toNat : Int) == 0) = true := be_of (by simp; omega)
      generalize lebL (x.typ.toNat : Int) = y at *
      rw [hDD] at hd
      (try rw [List.length_append, List.length_singleton] at hd)
      have sy := S_size y
      have q : ¬ 9223372036854775807 < (S P).size + (S y).size := by omega
      have HS := Lib.hid (show S P ++ S y = S (P ++ D) by rw [hDD, S_append])
      clear sy sP k0 hDD hd
      go_wp2_with (go_at_call 56; go_must ((with_reducible refine (HC.out _).mono ?_); rintro e w1 ⟨rfl, hb⟩; have HB := Lib.hid (bx_on HBX.out hb); clear hb))
      go_ret
      exact ⟨congrArg (fun b => Ending.returned (Value.string b)) HS.out, HB.out.1.2⟩
    rw [if_neg k0] at hDD
    have b0 : ((x.kind.toNat : Int) == 0) = false := be_of (by simp; omega)
    by_cases k1 : x.kind.toNat = 1
    · rw [if_pos k1] at hDD
      have HC := Lib.hid (fun w => refElim_any x.mn.toNat x.mx.toNat x.bd w (by omega) (u32_le _) (by omega) (u32_le _))
      have b1 : ((x.kind.toNat : Int) == 1) = true := be_of (by simp; omega)
      generalize encLim x.mn.toNat x.mx.toNat x.bd = y at *
      rw [hDD] at hd
      (try rw [List.length_append, List.length_singleton] at hd)
      have sy := S_size y
      have q : ¬ 9223372036854775807 < (S P).size + 1 + (S y).size := by omega
      have q' : ¬ 9223372036854775807 < (S P).size + 1 := by omega
      have q'' : ¬ 9223372036854775807 < (S P ++ S [112]).size + (S y).size := by rw [S_append, S_size, List.length_append, List.length_singleton]; omega
      have HS := Lib.hid (show S P ++ ({ data := #[112] } : ByteArray) ++ S y = S (P ++ D) by rw [hDD, show ({ data := #[112] } : ByteArray) = S [112] from rfl, S_app3, List.append_assoc])
      clear sy sP k0 k1 hDD hd
      go_wp2_with (go_at_call 61; go_must ((with_reducible refine (HC.out _).mono ?_); rintro e w1 ⟨rfl, hb⟩; have HB := Lib.hid (bx_on HBX.out hb); clear hb))
      go_ret
      exact ⟨congrArg (fun b => Ending.returned (Value.string b)) HS.out, HB.out.1.2⟩
    rw [if_neg k1] at hDD
    have b1 : ((x.kind.toNat : Int) == 1) = false := be_of (by simp; omega)
    by_cases k2 : x.kind.toNat = 2
    · rw [if_pos k2] at hDD
      have HC := Lib.hid (fun w => refElim_any x.mn.toNat x.mx.toNat x.bd w (by omega) (u32_le _) (by omega) (u32_le _))
      have b2 : ((x.kind.toNat : Int) == 2) = true := be_of (by simp; omega)
      generalize encLim x.mn.toNat x.mx.toNat x.bd = y at *
      rw [hDD] at hd
      (try rw [List.length_append, List.length_singleton] at hd)
      have sy := S_size y
      have q : ¬ 9223372036854775807 < (S P).size + (S y).size := by omega
      have HS := Lib.hid (show S P ++ S y = S (P ++ D) by rw [hDD, S_append])
      clear sy sP k0 k1 k2 hDD hd
      go_wp2_with (go_at_call 61; go_must ((with_reducible refine (HC.out _).mono ?_); rintro e w1 ⟨rfl, hb⟩; have HB := Lib.hid (bx_on HBX.out hb); clear hb))
      go_ret
      exact ⟨congrArg (fun b => Ending.returned (Value.string b)) HS.out, HB.out.1.2⟩
    rw [if_neg k2] at hDD
    have b2 : ((x.kind.toNat : Int) == 2) = false := be_of (by simp; omega)
    have HC := Lib.hid (fun w => refEncG_any x.gt.toNat x.gm w (by omega) (u8_le _))
    generalize encG x.gt.toNat x.gm = y at *
    rw [hDD] at hd
    (try rw [List.length_append, List.length_singleton] at hd)
    have sy := S_size y
    have q : ¬ 9223372036854775807 < (S P).size + (S y).size := by omega
    have HS := Lib.hid (show S P ++ S y = S (P ++ D) by rw [hDD, S_append])
    clear sy sP k0 k1 k2 hDD hd
    go_wp2_with (go_at_call 62; go_must ((with_reducible refine (HC.out _).mono ?_); rintro e w1 ⟨rfl, hb⟩; have HB := Lib.hid (bx_on HBX.out hb); clear hb))
    go_ret
    exact ⟨congrArg (fun b => Ending.returned (Value.string b)) HS.out, HB.out.1.2⟩
end Go.Proofs.YtihpnplfklbgjaaDoor

/- The walk of ImportsBack. -/
namespace Go.Proofs.YtihpnplfklbgjaaDoor
open Go.RowKit
set_option linter.unusedVariables false
set_option maxRecDepth 100000

theorem take_one {l : List Im} {k : Nat} {x : Im} (h : l[k]? = some x) : l.take (k + 1) = l.take k ++ [x] := by rw [List.take_add_one, h]; rfl
/-- What the law keeps once the list is read. -/
structure BK (w : World) (l : List Im) (base : Nat) (A2 : Option Addr) (c2 : Nat) (B : Nat) (Ab : Option Addr) (y : List UInt8) (W : World) : Prop where
  bel : Below w.heap.size w W
  r : RowM W base (.slice A2 l.length c2) l
  ly : Lies W B Ab (cells (nums y))
  o : B ≤ W.heap.size
theorem BK.grown {w W W' : World} {l : List Im} {base B c2 q : Nat} {A2 Ab : Option Addr} {y : List UInt8} (h : BK w l base A2 c2 B Ab y W) (hg : W.grownBy W' (some q)) (h1 : w.heap.size ≤ q) (h2 : q < base) (h3 : B ≤ q) : BK w l base A2 c2 B Ab y W' :=
  ⟨below_new h.bel hg h1, h.r.past hg h2, h.ly.grown hg h.o (fun g e => by injection e with e; omega), Nat.le_trans h.o hg.size⟩
theorem BK.below {w W W' : World} {l : List Im} {base B c2 : Nat} {A2 Ab : Option Addr} {y : List UInt8} (h : BK w l base A2 c2 B Ab y W) (hb : Below W.heap.size W W') : BK w l base A2 c2 B Ab y W' :=
  ⟨h.bel.trans (hb.mono h.bel.size), h.r.later hb, h.ly.below hb h.o, Nat.le_trans h.o hb.size⟩
/-- One of the input's and the one that was read, as a walk reads them; both lists. -/
abbrev TwoIm (w : World) (A A2 : Option Addr) (l : List Im) (b off b2 off2 k : Nat) (x : Im) (W : World) : Prop := (Below w.heap.size w W ∧ Ims W A l ∧ Ims W A2 l) ∧
  (W.cell? ⟨b, off + k * 9, none⟩ = some (.string (S x.mod)) ∧ W.cell? ⟨b, off + k * 9 + 1, none⟩ = some (.string (S x.nam)) ∧ W.cell? ⟨b, off + k * 9 + 2, none⟩ = some (.int .u8 x.kind.toNat) ∧ W.cell? ⟨b, off + k * 9 + 3, none⟩ = some (.int .u32 x.typ.toNat) ∧
    W.cell? ⟨b, off + k * 9 + 4, none⟩ = some (.int .u32 x.mn.toNat) ∧ W.cell? ⟨b, off + k * 9 + 5, none⟩ = some (.int .u32 x.mx.toNat) ∧ W.cell? ⟨b, off + k * 9 + 6, none⟩ = some (.bool x.bd) ∧ W.cell? ⟨b, off + k * 9 + 7, none⟩ = some (.int .u8 x.gt.toNat) ∧ W.cell? ⟨b, off + k * 9 + 8, none⟩ = some (.bool x.gm)) ∧
  (W.cell? ⟨b2, off2 + k * 9, none⟩ = some (.string (S x.mod)) ∧ W.cell? ⟨b2, off2 + k * 9 + 1, none⟩ = some (.string (S x.nam)) ∧ W.cell? ⟨b2, off2 + k * 9 + 2, none⟩ = some (.int .u8 x.kind.toNat) ∧ W.cell? ⟨b2, off2 + k * 9 + 3, none⟩ = some (.int .u32 x.typ.toNat) ∧
    W.cell? ⟨b2, off2 + k * 9 + 4, none⟩ = some (.int .u32 x.mn.toNat) ∧ W.cell? ⟨b2, off2 + k * 9 + 5, none⟩ = some (.int .u32 x.mx.toNat) ∧ W.cell? ⟨b2, off2 + k * 9 + 6, none⟩ = some (.bool x.bd) ∧ W.cell? ⟨b2, off2 + k * 9 + 7, none⟩ = some (.int .u8 x.gt.toNat) ∧ W.cell? ⟨b2, off2 + k * 9 + 8, none⟩ = some (.bool x.gm))
section
variable {w W W' : World} {A A2 : Option Addr} {l : List Im} {b off b2 off2 k : Nat} {x : Im}
theorem imTwo_of (h1 : Below w.heap.size w W) (h2 : Ims W A l) (h3 : Ims W A2 l) (hA : A = some ⟨b, off, none⟩) (hA2 : A2 = some ⟨b2, off2, none⟩) (hx : l[k]? = some x) : TwoIm w A A2 l b off b2 off2 k x W := by
  obtain ⟨c1, o1, e1, _, p⟩ := h2.nine hx
  obtain ⟨c2, o2, e2, _, q⟩ := h3.nine hx
  rw [hA] at e1
  rw [hA2] at e2
  injection e1 with e1
  injection e2 with e2
  injection e1 with a1 a2
  injection e2 with a3 a4
  subst a1; subst a2; subst a3; subst a4
  exact ⟨⟨h1, h2, h3⟩, p, q⟩
theorem imTwo_on (h : TwoIm w A A2 l b off b2 off2 k x W) (hA : A = some ⟨b, off, none⟩) (hA2 : A2 = some ⟨b2, off2, none⟩) (hx : l[k]? = some x) (hb : Below W.heap.size W W') : TwoIm w A A2 l b off b2 off2 k x W' :=
  imTwo_of (h.1.1.trans (hb.mono h.1.1.size)) (h.1.2.1.below hb) (h.1.2.2.below hb) hA hA2 hx
end
set_option maxHeartbeats 8000000 in
theorem lawB {w : World} {A : Option Addr} {c : Nat} {l : List Im} (hl : Ims w A l) (hT : TabsU w) (nl : (l.length : Int) ≤ 9223372036854775807) :
    Calls Tryd.prog 5 #[.slice A l.length c] w fun e w' => e = .returned (.bool true) ∧ Below w.heap.size w w' := by
  have HAW := Lib.hid (awake_im w hT)
  have HL := Lib.hid hl
  have HTw := Lib.hid hT
  clear hl hT
  by_cases g1 : 20 < l.length
  · have t1 : decide ((20 : Int) < (l.length : Int)) = true := decide_eq_true (by omega)
    clear g1
    go_enter Tryd.func5, Tryd.ntmps5
    go_wp2_with (go_at_call 18; go_must ((with_reducible refine HAW.out.mono ?_); rintro e w1 ⟨rfl, hb⟩; have H1 := Lib.hid hb; clear hb))
    go_ret
    exact ⟨rfl, H1.out⟩
  have t1 : decide ((20 : Int) < (l.length : Int)) = false := decide_eq_false (by omega)
  have HRC := Lib.hid (fun W => rcount_im l.length W (by omega))
  have hlb := lebL_len (l.length : Int) (by omega)
  obtain ⟨hd, hhd⟩ : ∃ hd, hd = lebL (l.length : Int) := ⟨_, rfl⟩
  rw [← hhd] at HRC hlb
  have HAL := Lib.hid (show allL l = hd ++ iputsL l by rw [hhd]; rfl)
  obtain ⟨n, hn⟩ : ∃ n, n = l.length := ⟨_, rfl⟩
  have HN := Lib.hid hn
  have HE := Lib.hid (show l.take n = l by rw [hn, List.take_length])
  have h20 : n ≤ 20 := by omega
  rw [← hn] at t1 HRC ⊢
  clear hn hhd g1 nl
  unfold Strs at HRC
  go_enter Tryd.func5, Tryd.ntmps5
  go_wp2_with (first
    | (go_at_call 18; go_must ((with_reducible refine HAW.out.mono ?_); rintro e w1 ⟨rfl, hb⟩; have H1 := Lib.hid hb; clear hb))
    | (go_at_call 19; go_must ((with_reducible refine (HRC.out _).mono ?_); rintro e w2 ⟨rfl, hb⟩; have H2 := Lib.hid (H1.out.trans (hb.mono H1.out.size)); clear hb)))
  go_loopw [3, 4, 5] (fun code want i wr => ∃ (k : Nat) (t : List UInt8), k ≤ n ∧ i = .int .i64 k ∧ code = .int .i64 (errL (l.take k)) ∧ want = .string (S t) ∧ t.length ≤ 10 + k * 843 ∧ (errL (l.take k) = 0 → t = hd ++ iputsL (l.take k)) ∧ ShortI (l.take k) ∧ Below w.heap.size w wr) (fun _ _ i _ => n - (intOf i).toNat)
  case atStart => exact ⟨0, hd, Nat.zero_le _, rfl, rfl, rfl, by omega, (fun _ => by simp [iputsL]), (fun x hx => by cases hx), H2.out⟩
  case round =>
    obtain ⟨k, t, hk, rfl, rfl, rfl, htl, htb, hsh, hb⟩ := hrel
    have hz1 := hb.size
    by_cases hlt : k < n
    · obtain ⟨x, hx⟩ : ∃ x, l[k]? = some x := ⟨_, List.getElem?_eq_getElem (by rw [← HN.out]; exact hlt)⟩
      obtain ⟨b, off, rfl, hbl, m0, m1, m2, m3, m4, m5, m6, m7, m8⟩ := (HL.out.below hb).nine hx
      have s1 := S_size x.mod
      have s2 := S_size x.nam
      have HBA := Lib.hid (hb.alloc hz1 (.cells (imC x) 52))
      have hstep := errL_snoc hx
      have hpsn := iputsL_snoc hx
      by_cases b1 : 400 < x.mod.length
      · have t2 : decide ((400 : Int) < (x.mod.length : Int)) = true := decide_eq_true (by omega)
        clear b1 htb hsh hb hx hstep hpsn htl s2
        go_wp2
        go_ret
        exact ⟨rfl, HBA.out⟩
      have t2 : decide ((400 : Int) < (x.mod.length : Int)) = false := decide_eq_false (by omega)
      by_cases b2 : 400 < x.nam.length
      · have t3 : decide ((400 : Int) < (x.nam.length : Int)) = true := decide_eq_true (by omega)
        clear b1 b2 htb hsh hb hx hstep hpsn htl
        go_wp2
        go_ret
        exact ⟨rfl, HBA.out⟩
      have t3 : decide ((400 : Int) < (x.nam.length : Int)) = false := decide_eq_false (by omega)
      have HSH : Hid (ShortI (l.take (k + 1))) := Lib.hid fun q hq => by
        rw [take_one hx] at hq
        rcases List.mem_append.1 hq with hq | hq
        · exact hsh q hq
        · rw [List.mem_singleton] at hq; subst hq; omega
      have hil := iputL_len (x := x) (n := 400) (by omega) (by omega) (by omega)
      have HRR := Lib.hid (rright_im x (wr.alloc (.cells (imC x) 52)) (by omega) (by omega))
      have HRP := Lib.hid (fun W => rput_im x W (by omega) (by omega))
      have HW := Lib.hid (Whole.made wr 52 (imC x))
      unfold Strs at HRP
      by_cases e0 : errL (l.take k) = 0
      · rw [if_neg (by simpa using e0)] at hstep
        have ht := htb e0
        have d0 : (errL (l.take k) == 0) = true := by simpa using e0
        obtain ⟨q, hq⟩ : ∃ q, q = errL (l.take k) := ⟨_, rfl⟩
        rw [← hq] at d0 ⊢
        by_cases z0 : rZ x = 0
        · rw [z0] at HRR hstep
          have HSTEP := Lib.hid hstep
          have HTT := Lib.hid ht
          have HPS := Lib.hid hpsn
          obtain ⟨y, hy⟩ : ∃ y, y = iputL x := ⟨_, rfl⟩
          rw [← hy] at HRP hil HPS
          have st := S_size t
          have sy := S_size y
          have q1 : ¬ 9223372036854775807 < (S t).size + (S y).size := by omega
          clear b1 b2 htb hsh hb hx hstep hpsn e0 hq ht hy z0 st sy
          go_wp2_with (first
            | (go_at_call 20; go_must ((with_reducible refine HRR.out.mono ?_); rintro e w3 ⟨rfl, hb⟩; have H3 := Lib.hid (HBA.out.trans (hb.mono HBA.out.size)); obtain ⟨c0, c1, c2, c3, c4, c5, c6, c7, c8⟩ := (HW.out.below hb).im; clear hb))
            | (go_at_call 21; go_must ((with_reducible refine (HRP.out _).mono ?_); rintro e w4 ⟨rfl, hb⟩; have H4 := Lib.hid (H3.out.trans (hb.mono H3.out.size)); clear hb)))
          go_roundw
          case rel => exact ⟨k + 1, t ++ y, by omega, by go_num, by rw [HSTEP.out], by rw [S_append], by rw [List.length_append]; omega, fun _ => by rw [HPS.out, HTT.out, List.append_assoc], HSH.out, H4.out⟩
          case measure => simp [intOf]; omega
        · have HSTEP := Lib.hid hstep
          have HZN := Lib.hid z0
          have d1 : (rZ x == 0) = false := by simpa using z0
          obtain ⟨z, hz⟩ : ∃ z, z = rZ x := ⟨_, rfl⟩
          rw [← hz] at HRR HSTEP HZN d1
          clear b1 b2 htb hsh hb hx hstep hpsn e0 hq ht z0 hz HRP
          go_wp2_with (go_at_call 20; go_must ((with_reducible refine HRR.out.mono ?_); rintro e w3 ⟨rfl, hb⟩; have H3 := Lib.hid (HBA.out.trans (hb.mono HBA.out.size)); clear hb))
          go_roundw
          case rel => exact ⟨k + 1, t, by omega, by go_num, by rw [HSTEP.out], rfl, by omega, fun e => absurd (HSTEP.out.symm.trans e) HZN.out, HSH.out, H3.out⟩
          case measure => simp [intOf]; omega
      · rw [if_pos e0] at hstep
        have HSTEP := Lib.hid hstep
        have HCN := Lib.hid e0
        have d0 : (errL (l.take k) == 0) = false := by simpa using e0
        obtain ⟨q, hq⟩ : ∃ q, q = errL (l.take k) := ⟨_, rfl⟩
        rw [← hq] at d0 HSTEP HCN ⊢
        clear b1 b2 htb hsh hb hx hstep hpsn e0 hq HRP HRR
        go_wp2
        go_roundw
        case rel => exact ⟨k + 1, t, by omega, by go_num, by rw [HSTEP.out], rfl, by omega, fun e => absurd (HSTEP.out.symm.trans e) HCN.out, HSH.out, HBA.out⟩
        case measure => simp [intOf]; omega
    · obtain rfl : k = n := by omega
      rw [HE.out] at htb hsh ⊢
      have HB := Lib.hid hb
      have hpa := putall_im (c := c) (HL.out.below hb) (HTw.out.below hb) hsh (by rw [← HN.out]; omega)
      rw [← HN.out] at hpa
      unfold PuttedAll at hpa
      by_cases e0 : errL l = 0
      · have ht := (htb e0).trans HAL.out.symm
        rw [if_pos e0, e0] at hpa
        have HGA := Lib.hid (fun W p (h : Sc W p (allL l) 0) (hT : TbN p W) => getall_im h hT rfl e0 (by rw [← HN.out]; omega))
        rw [e0]
        have htl2 : (allL l).length ≤ 1000000 := by rw [← ht]; omega
        rw [ht]
        obtain ⟨y, hy⟩ : ∃ y, y = allL l := ⟨_, rfl⟩
        rw [← hy] at hpa HGA htl2 ⊢
        have HPA := Lib.hid hpa
        clear hpa htb hsh hb e0 ht hy htl hlt
        go_upto_region 20 with (first
          | (go_at_call 22; go_must ((with_reducible refine HPA.out.mono ?_); intro e w3 hq; obtain ⟨v, rfl, hr, hb⟩ := hq; obtain ⟨Ab, cb, rfl, hpc⟩ := hr.pc; have H3 := Lib.hid (HB.out.trans (hb.mono HB.out.size)); have HP3 := Lib.hid hpc; clear hb hr hpc))
          | (go_at_call 12; go_must ((with_reducible refine (over_all HP3.out.lies htl2).mono ?_); intro e w7 hq; obtain ⟨p, rfl, hpp, hs, hb⟩ := hq; have HS7 := Lib.hid hs; have HB37 := Lib.hid hb; have HB7 := Lib.hid (H3.out.trans (hb.mono H3.out.size)); clear hs hb)))
        have h7p := HS7.out.lt
        have h3z := H3.out.size
        have HS8 := Lib.hid (HS7.out.alloc (.cells #[.pointer (some ⟨p, 0, none⟩)] 34))
        have HPT := Lib.hid (Whole.made w7 34 #[.pointer (some ⟨p, 0, none⟩)])
        have HB8 := Lib.hid (HB7.out.trans ((below_box w7 (.cells #[.pointer (some ⟨p, 0, none⟩)] 34)).mono HB7.out.size))
        have HL8 := Lib.hid (HP3.out.lies.below (HB37.out.trans ((below_box w7 (.cells #[.pointer (some ⟨p, 0, none⟩)] 34)).mono HB37.out.size)) (Nat.le_refl _))
        have h8 : w3.heap.size ≤ (w7.alloc (.cells #[.pointer (some ⟨p, 0, none⟩)] 34)).heap.size := Nat.le_trans HB37.out.size (below_box w7 _).size
        have h87 : w7.heap.size < (w7.alloc (.cells #[.pointer (some ⟨p, 0, none⟩)] 34)).heap.size := HPT.out.lt
        clear HAW H1 H2 HB HPA H3 HP3 HB37 HB7 HS7
        generalize w7.alloc (.cells #[.pointer (some ⟨p, 0, none⟩)] 34) = W8 at *
        generalize w7.heap.size = b6 at *
        have HV := Lib.hid (valueM_ok (T := fun v W => v.2.1 = l.length ∧ BK w l (W8.heap.size + 4) v.1 v.2.2 w3.heap.size Ab y W) (cfI2 #[.pointer (some ⟨b6, 0, none⟩)]) (q := p) (w := W8) (by omega)
          (fun q W W' b h1 h2 h3 hg => ⟨h3.1, h3.2.grown hg (by omega) (by omega) (by omega)⟩)
          (fun W hb hsz => by
            have hS := HS8.out.below hb
            have hB := HB8.out.trans (hb.mono HB8.out.size)
            refine (clos2 (p := p) (l := y) (xs := l) (HPT.out.below hb) (HGA.out W p hS (TbN.of HTw.out hB (by omega) (Nat.le_of_lt hS.lt)))).mono ?_
            rintro e w' ⟨v, rfl, hr, hs, hg⟩
            obtain ⟨A2, c2, rfl⟩ := hr.slice
            exact ⟨(A2, l.length, c2), rfl, ⟨rfl, below_new hB hg (by omega), hr.mono hsz, (HL8.out.below hb h8).grown hg (Nat.le_trans h8 hb.size) (fun g e => by injection e with e; omega), Nat.le_trans h8 (Nat.le_trans hb.size hg.size)⟩, hg⟩))
        clear HGA HS8 HPT HL8
        go_upto_region 21 with (go_at_call 23; go_must ((with_reducible refine HV.out.mono ?_); rintro e w9 ⟨⟨A2, n2, c2⟩, rfl, ⟨hn2, hbk⟩, hg⟩; have HN2 := Lib.hid hn2; clear hn2; have HBK := Lib.hid (hbk.below (below_box w9 (.cells #[.int .i64 0, .int .i64 0] 37))); have k0 := (Whole.made w9 37 #[.int .i64 0, .int .i64 0]).cell 0; clear hbk hg))
        simp only [List.getElem?_toArray, List.getElem?_cons_zero] at k0
        have hn3 : n2 = k := HN2.out.trans HN.out.symm
        clear HN2
        subst hn3
        generalize w9.alloc (.cells #[.int .i64 0, .int .i64 0] 37) = W10 at *
        have hcv := str_any HBK.out.ly cb 9 Tryd.underlying9
        have HI := Lib.hid (HL.out.below HBK.out.bel)
        have HJ := Lib.hid HBK.out.r.ims
        have HSm := Lib.hid (fun x W => show Calls Tryd.prog 26 #[imV x, imV x] W fun e w' => e = .returned (.bool true) ∧ Below W.heap.size W w' from by have h2 := refSame_im x x W; rw [decide_eq_true rfl] at h2; exact h2)
        clear HV HB8
        go_wp2
        clear hcv k0
        go_loopw [12] (fun i wr => ∃ j : Nat, j ≤ n2 ∧ i = .int .i64 j ∧ Below w.heap.size w wr ∧ Ims wr A l ∧ Ims wr A2 l) (fun i _ => n2 - (intOf i).toNat)
        case atStart => exact ⟨0, Nat.zero_le _, rfl, HBK.out.bel, HI.out, HJ.out⟩
        case round =>
          obtain ⟨j, hj, rfl, hb, hi, hjj⟩ := hrel
          by_cases hlt : j < n2
          · obtain ⟨x, hx⟩ : ∃ x, l[j]? = some x := ⟨_, List.getElem?_eq_getElem (by rw [← HN.out]; exact hlt)⟩
            obtain ⟨b, off, hA, _⟩ := hi.nine hx
            obtain ⟨b2, off2, hA2, _⟩ := hjj.nine hx
            have hS0 := imTwo_of hb hi hjj hA hA2 hx
            have HS0 := Lib.hid (imTwo_on hS0 hA hA2 hx (Below.refl _ _).drew)
            have HON := Lib.hid (fun W W' (h : TwoIm w A A2 l b off b2 off2 j x W) (hb : Below W.heap.size W W') => imTwo_on h hA hA2 hx hb)
            subst hA; subst hA2
            clear hx hb hi hjj hS0
            go_upto_region 26 with fail
            refine wp_region_noPanic ?_
            refine wp_region_held_drew (S := fun W => TwoIm w (some ⟨b, off, none⟩) (some ⟨b2, off2, none⟩) l b off b2 off2 j x W) (by kernel_rfl) HS0.out (fun hHeld => ?_)
            (refine heldTake (i := 0) (oi := { dst := some 99, op := Op.move (Operand.tmp 10), type := 45, pos := "law.go:96", after := #[], guard := none }) (v := ?_) rfl (by kernel_rfl) (by kernel_rfl) (by kernel_rfl) (by assumption) ?_ ?_; rotate_left; focus (refine .inl ⟨by kernel_rfl, ?_⟩; intro w hSw; (try dsimp only at hSw); go_simp; (try with_reducible rfl)); (try simp only [Act.put, List.setIfInBounds_toArray, List.set_cons_zero, List.set_cons_succ]))
            (refine heldTake (i := 1) (oi := { dst := some 100, op := Op.move (Operand.tmp 12), type := 3, pos := "law.go:96", after := #[], guard := none }) (v := ?_) rfl (by kernel_rfl) (by kernel_rfl) (by kernel_rfl) (by assumption) ?_ ?_; rotate_left; focus (refine .inl ⟨by kernel_rfl, ?_⟩; intro w hSw; (try dsimp only at hSw); go_simp; (try with_reducible rfl)); (try simp only [Act.put, List.setIfInBounds_toArray, List.set_cons_zero, List.set_cons_succ]))
            (refine heldTake (i := 2) (oi := { dst := some 101, op := Op.indexAddr 45 (Operand.tmp 99) (Operand.tmp 100), type := 0, pos := "law.go:96", after := #[{ on := 0, ground := Ground.data }, { on := 1, ground := Ground.data }], guard := none }) (v := ?_) rfl (by kernel_rfl) (by kernel_rfl) (by kernel_rfl) (by assumption) ?_ ?_; rotate_left; focus (refine .inl ⟨by kernel_rfl, ?_⟩; intro w hSw; (try dsimp only at hSw); go_simp; (try with_reducible rfl)); (try simp only [Act.put, List.setIfInBounds_toArray, List.set_cons_zero, List.set_cons_succ]))
            (refine heldTake (i := 3) (oi := { dst := some 102, op := Op.load 52 (Operand.tmp 101), type := 52, pos := "law.go:96", after := #[{ on := 2, ground := Ground.data }], guard := none }) (v := ?_) rfl (by kernel_rfl) (by kernel_rfl) (by kernel_rfl) (by assumption) ?_ ?_; rotate_left; focus (refine .inl ⟨by kernel_rfl, ?_⟩; intro w hSw; (try dsimp only at hSw); go_simp; (try with_reducible rfl)); (try simp only [Act.put, List.setIfInBounds_toArray, List.set_cons_zero, List.set_cons_succ]))
            (refine heldTake (i := 4) (oi := { dst := some 103, op := Op.move (Operand.tmp 0), type := 45, pos := "law.go:96", after := #[], guard := none }) (v := ?_) rfl (by kernel_rfl) (by kernel_rfl) (by kernel_rfl) (by assumption) ?_ ?_; rotate_left; focus (refine .inl ⟨by kernel_rfl, ?_⟩; intro w hSw; (try dsimp only at hSw); go_simp; (try with_reducible rfl)); (try simp only [Act.put, List.setIfInBounds_toArray, List.set_cons_zero, List.set_cons_succ]))
            (refine heldTake (i := 5) (oi := { dst := some 104, op := Op.move (Operand.tmp 12), type := 3, pos := "law.go:96", after := #[], guard := none }) (v := ?_) rfl (by kernel_rfl) (by kernel_rfl) (by kernel_rfl) (by assumption) ?_ ?_; rotate_left; focus (refine .inl ⟨by kernel_rfl, ?_⟩; intro w hSw; (try dsimp only at hSw); go_simp; (try with_reducible rfl)); (try simp only [Act.put, List.setIfInBounds_toArray, List.set_cons_zero, List.set_cons_succ]))
            (refine heldTake (i := 6) (oi := { dst := some 105, op := Op.indexAddr 45 (Operand.tmp 103) (Operand.tmp 104), type := 0, pos := "law.go:96", after := #[{ on := 4, ground := Ground.data }, { on := 5, ground := Ground.data }], guard := none }) (v := ?_) rfl (by kernel_rfl) (by kernel_rfl) (by kernel_rfl) (by assumption) ?_ ?_; rotate_left; focus (refine .inl ⟨by kernel_rfl, ?_⟩; intro w hSw; (try dsimp only at hSw); go_simp; (try with_reducible rfl)); (try simp only [Act.put, List.setIfInBounds_toArray, List.set_cons_zero, List.set_cons_succ]))
            (refine heldTake (i := 7) (oi := { dst := some 106, op := Op.load 52 (Operand.tmp 105), type := 52, pos := "law.go:96", after := #[{ on := 6, ground := Ground.data }], guard := none }) (v := ?_) rfl (by kernel_rfl) (by kernel_rfl) (by kernel_rfl) (by assumption) ?_ ?_; rotate_left; focus (refine .inl ⟨by kernel_rfl, ?_⟩; intro w hSw; (try dsimp only at hSw); go_simp; (try with_reducible rfl)); (try simp only [Act.put, List.setIfInBounds_toArray, List.set_cons_zero, List.set_cons_succ]))
            refine wpAnyH_ready (rs := [8]) (by kernel_rfl) (by simp) ?_
            refine AllReadyH.cons (o := { dst := some 107, op := Op.call { callee := Callee.value (Operand.func 26), args := #[Operand.tmp 102, Operand.tmp 106], argTypes := #[52, 52] }, type := 4, pos := "law.go:96", after := #[{ on := 3, ground := Ground.data }, { on := 7, ground := Ground.data }], guard := none }) rfl (fun K hK => ?_) AllReadyH.nil
            go_simp
            (go_at_call 26; (with_reducible refine (HSm.out x _).mono ?_); rintro e w11 ⟨rfl, hb⟩; have hk11 := HON.out _ _ hHeld hb; clear hb)
            refine hK.out _ _ hk11 (fun hHeld8 => ?_)
            clear hK K hHeld
            (try simp only [Act.put, List.setIfInBounds_toArray, List.set_cons_zero, List.set_cons_succ])
            (refine heldTake (i := 9) (oi := { dst := some 108, op := Op.unOp UnOp.not 4 (Operand.tmp 107), type := 4, pos := "law.go:96", after := #[{ on := 8, ground := Ground.data }], guard := none }) (v := ?_) rfl (by kernel_rfl) (by kernel_rfl) (by kernel_rfl) (by assumption) ?_ ?_; rotate_left; focus (refine .inl ⟨by kernel_rfl, ?_⟩; intro w hSw; (try dsimp only at hSw); go_simp; (try with_reducible rfl)); (try simp only [Act.put, List.setIfInBounds_toArray, List.set_cons_zero, List.set_cons_succ]))
            refine wpAnyH_done (by kernel_rfl) ?_ _
            refine NoPanic.normal ?_
            have hLast := hHeld8
            clear hHeld8
            obtain ⟨⟨hb3, hi3, hj3⟩, _⟩ := hLast
            have HB3 := Lib.hid hb3
            have HI3 := Lib.hid hi3
            have HJ3 := Lib.hid hj3
            clear hb3 hi3 hj3
            go_wp2
            go_roundw
            case rel => exact ⟨j + 1, by omega, by go_num, HB3.out, HI3.out, HJ3.out⟩
            case measure => simp [intOf]; omega
          · obtain rfl : j = n2 := by omega
            have HB3 := Lib.hid hb
            clear hb hi hjj
            go_wp2
            go_ret
            exact ⟨rfl, HB3.out⟩
      · rw [if_neg e0] at hpa
        have d0 : (errL l != 0) = true := zb_of (by simpa using e0)
        obtain ⟨z, hz⟩ : ∃ z, z = errL l := ⟨_, rfl⟩
        rw [← hz] at hpa d0 ⊢
        have HPA := Lib.hid hpa
        clear hpa htb hsh hb e0 hz hlt
        go_wp2_with (go_at_call 22; go_must ((with_reducible refine HPA.out.mono ?_); intro e w3 hq; obtain ⟨v, rfl, hr, hb⟩ := hq; obtain ⟨Ab, cb, rfl, _⟩ := hr.pc; have H3 := Lib.hid (HB.out.trans (hb.mono HB.out.size)); clear hb hr))
        go_ret
        exact ⟨rfl, H3.out⟩
end Go.Proofs.YtihpnplfklbgjaaDoor
