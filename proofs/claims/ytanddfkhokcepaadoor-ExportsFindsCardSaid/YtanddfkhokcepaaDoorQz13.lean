/- creelref10.Put. -/
import Derived.Test.YtanddfkhokcepaaDoorQz10
import Derived.Test.YtanddfkhokcepaaDoorQz08
import Derived.Test.YtanddfkhokcepaaDoorQz12
import Derived.ProofKit
import Derived.Test.YtanddfkhokcepaaDoorQz01
namespace Go.Proofs.YtanddfkhokcepaaDoor
open Go.RowKit Go.Lib
set_option linter.unusedVariables false
set_option maxRecDepth 100000

theorem S_app3 (a b c : List UInt8) : S a ++ S b ++ S c = S (a ++ b ++ c) := by rw [S_append, S_append]
/-- How an import's bytes begin. -/
noncomputable def headP (x : Im) : List UInt8 := nmL x.mod ++ nmL x.nam ++ [x.kind]
set_option maxHeartbeats 4000000 in
theorem rput_im (x : Im) (w : World) (h1 : x.mod.length ≤ 100000) (h2 : x.nam.length ≤ 100000) :
    Calls Tryd.prog 26 #[imV x] w (Strs (iputL x) w) := by
  have hB0 := bx_start w x
  have hn1 := nmL_len h1 (by omega)
  have hn2 := nmL_len h2 (by omega)
  have hd := desL_len x
  have hx : iputL x = headP x ++ desL x := rfl
  have hp : headP x = nmL x.mod ++ nmL x.nam ++ [x.kind] := rfl
  have HN1 := Lib.hid (fun w => rname_im x.mod w h1)
  have HN2 := Lib.hid (fun w => rname_im x.nam w h2)
  have hhl : (headP x).length ≤ 300000 := by rw [hp]; simp only [List.length_append, List.length_singleton]; omega
  generalize nmL x.mod = y1 at *
  generalize nmL x.nam = y2 at *
  have sy1 := S_size y1
  have sy2 := S_size y2
  have q1 : ¬ 9223372036854775807 < (S y1).size + (S y2).size := by omega
  have q2 : ¬ 9223372036854775807 < (S y1).size + (S y2).size + (S [x.kind]).size := by have := S_size [x.kind]; rw [List.length_singleton] at this; omega
  rw [hx]
  obtain ⟨P, hP⟩ : ∃ P, P = headP x := ⟨_, rfl⟩
  have HP := Lib.hid (hP.trans hp)
  have HPs := Lib.hid (show S y1 ++ S y2 ++ S [x.kind] = S P by rw [S_app3, HP.out])
  rw [← hP] at hhl ⊢
  obtain ⟨D, hD⟩ : ∃ D, D = desL x := ⟨_, rfl⟩
  have HDD := Lib.hid hD
  rw [← hD] at hd ⊢
  clear hx hp hP sy1 sy2 hn1 hn2 h1 h2 hD
  go_enter Tryd.func26, Tryd.ntmps26
  go_upto_region 1 with fail
  generalize w.alloc (.cells (imC x) 49) = W0 at *
  go_cut [3] (fun s W => s = .string (S P) ∧ Bx w w.heap.size x W)
  case first =>
    refine wp_region_noPanic ?_
    refine wp_region_held_drew (S := fun W => Bx w w.heap.size x W) (by kernel_rfl) (bx_on hB0 (Below.refl _ _).drew) (fun hHeld => ?_)
    clear hB0
    (refine heldTake (i := 0) (oi := { dst := some 4, op := Op.fieldAddr 49 (Operand.tmp 1) 0, type := 0, pos := "ref.go:60", after := #[], guard := none }) (v := ?_) rfl (by kernel_rfl) (by kernel_rfl) (by kernel_rfl) (by assumption) ?_ ?_; rotate_left; focus (refine .inl ⟨by kernel_rfl, ?_⟩; intro w hSw; (try dsimp only at hSw); go_simp; (try with_reducible rfl)); (try simp only [Act.put, List.setIfInBounds_toArray, List.set_cons_zero, List.set_cons_succ]))
    (refine heldTake (i := 1) (oi := { dst := some 5, op := Op.load 9 (Operand.tmp 4), type := 9, pos := "ref.go:60", after := #[{ on := 0, ground := Ground.data }], guard := none }) (v := ?_) rfl (by kernel_rfl) (by kernel_rfl) (by kernel_rfl) (by assumption) ?_ ?_; rotate_left; focus (refine .inl ⟨by kernel_rfl, ?_⟩; intro w hSw; (try dsimp only at hSw); go_simp; (try with_reducible rfl)); (try simp only [Act.put, List.setIfInBounds_toArray, List.set_cons_zero, List.set_cons_succ]))
    (refine heldTake (i := 3) (oi := { dst := some 7, op := Op.fieldAddr 49 (Operand.tmp 1) 1, type := 0, pos := "ref.go:60", after := #[], guard := none }) (v := ?_) rfl (by kernel_rfl) (by kernel_rfl) (by kernel_rfl) (by assumption) ?_ ?_; rotate_left; focus (refine .inl ⟨by kernel_rfl, ?_⟩; intro w hSw; (try dsimp only at hSw); go_simp; (try with_reducible rfl)); (try simp only [Act.put, List.setIfInBounds_toArray, List.set_cons_zero, List.set_cons_succ]))
    (refine heldTake (i := 4) (oi := { dst := some 8, op := Op.load 9 (Operand.tmp 7), type := 9, pos := "ref.go:60", after := #[{ on := 3, ground := Ground.data }], guard := none }) (v := ?_) rfl (by kernel_rfl) (by kernel_rfl) (by kernel_rfl) (by assumption) ?_ ?_; rotate_left; focus (refine .inl ⟨by kernel_rfl, ?_⟩; intro w hSw; (try dsimp only at hSw); go_simp; (try with_reducible rfl)); (try simp only [Act.put, List.setIfInBounds_toArray, List.set_cons_zero, List.set_cons_succ]))
    (refine heldTake (i := 7) (oi := { dst := some 11, op := Op.fieldAddr 49 (Operand.tmp 1) 2, type := 0, pos := "ref.go:60", after := #[], guard := none }) (v := ?_) rfl (by kernel_rfl) (by kernel_rfl) (by kernel_rfl) (by assumption) ?_ ?_; rotate_left; focus (refine .inl ⟨by kernel_rfl, ?_⟩; intro w hSw; (try dsimp only at hSw); go_simp; (try with_reducible rfl)); (try simp only [Act.put, List.setIfInBounds_toArray, List.set_cons_zero, List.set_cons_succ]))
    (refine heldTake (i := 8) (oi := { dst := some 12, op := Op.load 5 (Operand.tmp 11), type := 5, pos := "ref.go:60", after := #[{ on := 7, ground := Ground.data }], guard := none }) (v := ?_) rfl (by kernel_rfl) (by kernel_rfl) (by kernel_rfl) (by assumption) ?_ ?_; rotate_left; focus (refine .inl ⟨by kernel_rfl, ?_⟩; intro w hSw; (try dsimp only at hSw); go_simp; (try with_reducible rfl)); (try simp only [Act.put, List.setIfInBounds_toArray, List.set_cons_zero, List.set_cons_succ]))
    refine wpAnyH_ready (rs := [2, 9]) (by kernel_rfl) (by simp) ?_
    refine (AllReadyH.cons (o := { dst := some 6, op := Op.call { callee := Callee.value (Operand.func 83), args := #[Operand.tmp 5], argTypes := #[9] }, type := 9, pos := "ref.go:60", after := #[{ on := 1, ground := Ground.data }], guard := none }) rfl (fun K hK => ?_) (AllReadyH.cons (o := { dst := some 13, op := Op.buildSlice 25 1 #[(0, Operand.tmp 12)], type := 25, pos := "ref.go:60", after := #[{ on := 8, ground := Ground.data }], guard := none }) rfl (fun K hK => ?_) AllReadyH.nil))
    · go_simp
      (go_at_call 83; (with_reducible refine (HN1.out _).mono ?_); rintro e w2 ⟨rfl, hb2⟩; have HB2 := Lib.hid hb2; clear hb2)
      refine hK.out _ _ (bx_on hHeld HB2.out) (fun hHeld2 => ?_)
      clear hK K hHeld
      (try simp only [Act.put, List.setIfInBounds_toArray, List.set_cons_zero, List.set_cons_succ])
      refine wpAnyH_ready (rs := [5, 9]) (by kernel_rfl) (by simp) ?_
      refine (AllReadyH.cons (o := { dst := some 9, op := Op.call { callee := Callee.value (Operand.func 83), args := #[Operand.tmp 8], argTypes := #[9] }, type := 9, pos := "ref.go:60", after := #[{ on := 4, ground := Ground.data }, { on := 2, ground := Ground.chain }], guard := none }) rfl (fun K hK => ?_) (AllReadyH.cons (o := { dst := some 13, op := Op.buildSlice 25 1 #[(0, Operand.tmp 12)], type := 25, pos := "ref.go:60", after := #[{ on := 8, ground := Ground.data }], guard := none }) rfl (fun K hK => ?_) AllReadyH.nil))
      · go_simp
        (go_at_call 83; (with_reducible refine (HN2.out _).mono ?_); rintro e w5 ⟨rfl, hb5⟩; have HB5 := Lib.hid hb5; clear hb5)
        refine hK.out _ _ (bx_on hHeld2 HB5.out) (fun hHeld5 => ?_)
        clear hK K hHeld2
        (try simp only [Act.put, List.setIfInBounds_toArray, List.set_cons_zero, List.set_cons_succ])
        (refine heldTake (i := 6) (oi := { dst := some 10, op := Op.binOp BinOp.add 9 (Operand.tmp 6) (Operand.tmp 9) 9, type := 9, pos := "ref.go:60", after := #[{ on := 2, ground := Ground.data }, { on := 5, ground := Ground.data }], guard := none }) (v := ?_) rfl (by kernel_rfl) (by kernel_rfl) (by kernel_rfl) (by assumption) ?_ ?_; rotate_left; focus (refine .inl ⟨by kernel_rfl, ?_⟩; intro w hSw; (try dsimp only at hSw); go_simp; (try with_reducible rfl)); (try simp only [Act.put, List.setIfInBounds_toArray, List.set_cons_zero, List.set_cons_succ]))
        refine wpAnyH_ready (rs := [9]) (by kernel_rfl) (by simp) ?_
        refine (AllReadyH.cons (o := { dst := some 13, op := Op.buildSlice 25 1 #[(0, Operand.tmp 12)], type := 25, pos := "ref.go:60", after := #[{ on := 8, ground := Ground.data }], guard := none }) rfl (fun K hK => ?_) AllReadyH.nil)
        refine step_build1 rfl _ rfl x.kind rfl ?_; intro g9 wa9 hg9 hb9 hp9; have HB9 := Lib.hid hb9; have HP9 := Lib.hid hp9; clear hb9 hp9
        refine hK.out _ _ (bx_on hHeld5 HB9.out) (fun hHeld9 => ?_)
        clear hK K hHeld5
        (try simp only [Act.put, List.setIfInBounds_toArray, List.set_cons_zero, List.set_cons_succ])
        refine wpAnyH_ready (rs := [10]) (by kernel_rfl) (by simp) ?_
        refine (AllReadyH.cons (o := { dst := some 14, op := Op.convert 25 9 (Operand.tmp 13), type := 9, pos := "ref.go:60", after := #[{ on := 9, ground := Ground.data }], guard := none }) rfl (fun K hK => ?_) AllReadyH.nil)
        go_simp; refine upon_str (l := [x.kind]) (HP9.out) ?_; have HB10 := Lib.hid (Below.refl 0 w)
        refine hK.out _ _ hHeld9 (fun hHeld10 => ?_)
        clear hK K hHeld9
        (try simp only [Act.put, List.setIfInBounds_toArray, List.set_cons_zero, List.set_cons_succ])
        (refine heldTake (i := 11) (oi := { dst := some 15, op := Op.binOp BinOp.add 9 (Operand.tmp 10) (Operand.tmp 14) 9, type := 9, pos := "ref.go:60", after := #[{ on := 6, ground := Ground.data }, { on := 10, ground := Ground.data }], guard := none }) (v := ?_) rfl (by kernel_rfl) (by kernel_rfl) (by kernel_rfl) (by assumption) ?_ ?_; rotate_left; focus (refine .inl ⟨by kernel_rfl, ?_⟩; intro w hSw; (try dsimp only at hSw); go_simp; (try with_reducible rfl)); (try simp only [Act.put, List.setIfInBounds_toArray, List.set_cons_zero, List.set_cons_succ]))
        (refine heldTake (i := 12) (oi := { dst := some 3, op := Op.assign (Operand.tmp 15), type := 9, pos := "ref.go:60", after := #[{ on := 11, ground := Ground.data }, { on := 5, ground := Ground.chain }, { on := 0, ground := Ground.phase }, { on := 1, ground := Ground.phase }, { on := 2, ground := Ground.phase }, { on := 3, ground := Ground.phase }, { on := 4, ground := Ground.phase }, { on := 5, ground := Ground.phase }, { on := 6, ground := Ground.phase }, { on := 7, ground := Ground.phase }, { on := 8, ground := Ground.phase }, { on := 9, ground := Ground.phase }, { on := 10, ground := Ground.phase }, { on := 11, ground := Ground.phase }], guard := none }) (v := ?_) rfl (by kernel_rfl) (by kernel_rfl) (by kernel_rfl) (by assumption) ?_ ?_; rotate_left; focus (refine .inl ⟨by kernel_rfl, ?_⟩; intro w hSw; (try dsimp only at hSw); go_simp; (try with_reducible rfl)); (try simp only [Act.put, List.setIfInBounds_toArray, List.set_cons_zero, List.set_cons_succ]))
        refine wpAnyH_done (by kernel_rfl) ?_ _
        refine NoPanic.normal ?_
        have hLast := hHeld10
        clear hHeld10
        go_wp2
        go_meet
        exact ⟨congrArg Value.string HPs.out, hLast⟩
      · refine step_build1 rfl _ rfl x.kind rfl ?_; intro g9 wa9 hg9 hb9 hp9; have HB9 := Lib.hid hb9; have HP9 := Lib.hid hp9; clear hb9 hp9
        refine hK.out _ _ (bx_on hHeld2 HB9.out) (fun hHeld9 => ?_)
        clear hK K hHeld2
        (try simp only [Act.put, List.setIfInBounds_toArray, List.set_cons_zero, List.set_cons_succ])
        refine wpAnyH_ready (rs := [5, 10]) (by kernel_rfl) (by simp) ?_
        refine (AllReadyH.cons (o := { dst := some 9, op := Op.call { callee := Callee.value (Operand.func 83), args := #[Operand.tmp 8], argTypes := #[9] }, type := 9, pos := "ref.go:60", after := #[{ on := 4, ground := Ground.data }, { on := 2, ground := Ground.chain }], guard := none }) rfl (fun K hK => ?_) (AllReadyH.cons (o := { dst := some 14, op := Op.convert 25 9 (Operand.tmp 13), type := 9, pos := "ref.go:60", after := #[{ on := 9, ground := Ground.data }], guard := none }) rfl (fun K hK => ?_) AllReadyH.nil))
        · go_simp
          (go_at_call 83; (with_reducible refine (HN2.out _).mono ?_); rintro e w5 ⟨rfl, hb5⟩; have HB5 := Lib.hid hb5; clear hb5)
          refine hK.out _ _ (bx_on hHeld9 HB5.out) (fun hHeld5 => ?_)
          clear hK K hHeld9
          (try simp only [Act.put, List.setIfInBounds_toArray, List.set_cons_zero, List.set_cons_succ])
          (refine heldTake (i := 6) (oi := { dst := some 10, op := Op.binOp BinOp.add 9 (Operand.tmp 6) (Operand.tmp 9) 9, type := 9, pos := "ref.go:60", after := #[{ on := 2, ground := Ground.data }, { on := 5, ground := Ground.data }], guard := none }) (v := ?_) rfl (by kernel_rfl) (by kernel_rfl) (by kernel_rfl) (by assumption) ?_ ?_; rotate_left; focus (refine .inl ⟨by kernel_rfl, ?_⟩; intro w hSw; (try dsimp only at hSw); go_simp; (try with_reducible rfl)); (try simp only [Act.put, List.setIfInBounds_toArray, List.set_cons_zero, List.set_cons_succ]))
          refine wpAnyH_ready (rs := [10]) (by kernel_rfl) (by simp) ?_
          refine (AllReadyH.cons (o := { dst := some 14, op := Op.convert 25 9 (Operand.tmp 13), type := 9, pos := "ref.go:60", after := #[{ on := 9, ground := Ground.data }], guard := none }) rfl (fun K hK => ?_) AllReadyH.nil)
          go_simp; refine upon_str (l := [x.kind]) (((HP9.out).below HB5.out)) ?_; have HB10 := Lib.hid (Below.refl 0 w)
          refine hK.out _ _ hHeld5 (fun hHeld10 => ?_)
          clear hK K hHeld5
          (try simp only [Act.put, List.setIfInBounds_toArray, List.set_cons_zero, List.set_cons_succ])
          (refine heldTake (i := 11) (oi := { dst := some 15, op := Op.binOp BinOp.add 9 (Operand.tmp 10) (Operand.tmp 14) 9, type := 9, pos := "ref.go:60", after := #[{ on := 6, ground := Ground.data }, { on := 10, ground := Ground.data }], guard := none }) (v := ?_) rfl (by kernel_rfl) (by kernel_rfl) (by kernel_rfl) (by assumption) ?_ ?_; rotate_left; focus (refine .inl ⟨by kernel_rfl, ?_⟩; intro w hSw; (try dsimp only at hSw); go_simp; (try with_reducible rfl)); (try simp only [Act.put, List.setIfInBounds_toArray, List.set_cons_zero, List.set_cons_succ]))
          (refine heldTake (i := 12) (oi := { dst := some 3, op := Op.assign (Operand.tmp 15), type := 9, pos := "ref.go:60", after := #[{ on := 11, ground := Ground.data }, { on := 5, ground := Ground.chain }, { on := 0, ground := Ground.phase }, { on := 1, ground := Ground.phase }, { on := 2, ground := Ground.phase }, { on := 3, ground := Ground.phase }, { on := 4, ground := Ground.phase }, { on := 5, ground := Ground.phase }, { on := 6, ground := Ground.phase }, { on := 7, ground := Ground.phase }, { on := 8, ground := Ground.phase }, { on := 9, ground := Ground.phase }, { on := 10, ground := Ground.phase }, { on := 11, ground := Ground.phase }], guard := none }) (v := ?_) rfl (by kernel_rfl) (by kernel_rfl) (by kernel_rfl) (by assumption) ?_ ?_; rotate_left; focus (refine .inl ⟨by kernel_rfl, ?_⟩; intro w hSw; (try dsimp only at hSw); go_simp; (try with_reducible rfl)); (try simp only [Act.put, List.setIfInBounds_toArray, List.set_cons_zero, List.set_cons_succ]))
          refine wpAnyH_done (by kernel_rfl) ?_ _
          refine NoPanic.normal ?_
          have hLast := hHeld10
          clear hHeld10
          go_wp2
          go_meet
          exact ⟨congrArg Value.string HPs.out, hLast⟩
        · go_simp; refine upon_str (l := [x.kind]) (HP9.out) ?_; have HB10 := Lib.hid (Below.refl 0 w)
          refine hK.out _ _ hHeld9 (fun hHeld10 => ?_)
          clear hK K hHeld9
          (try simp only [Act.put, List.setIfInBounds_toArray, List.set_cons_zero, List.set_cons_succ])
          refine wpAnyH_ready (rs := [5]) (by kernel_rfl) (by simp) ?_
          refine (AllReadyH.cons (o := { dst := some 9, op := Op.call { callee := Callee.value (Operand.func 83), args := #[Operand.tmp 8], argTypes := #[9] }, type := 9, pos := "ref.go:60", after := #[{ on := 4, ground := Ground.data }, { on := 2, ground := Ground.chain }], guard := none }) rfl (fun K hK => ?_) AllReadyH.nil)
          go_simp
          (go_at_call 83; (with_reducible refine (HN2.out _).mono ?_); rintro e w5 ⟨rfl, hb5⟩; have HB5 := Lib.hid hb5; clear hb5)
          refine hK.out _ _ (bx_on hHeld10 HB5.out) (fun hHeld5 => ?_)
          clear hK K hHeld10
          (try simp only [Act.put, List.setIfInBounds_toArray, List.set_cons_zero, List.set_cons_succ])
          (refine heldTake (i := 6) (oi := { dst := some 10, op := Op.binOp BinOp.add 9 (Operand.tmp 6) (Operand.tmp 9) 9, type := 9, pos := "ref.go:60", after := #[{ on := 2, ground := Ground.data }, { on := 5, ground := Ground.data }], guard := none }) (v := ?_) rfl (by kernel_rfl) (by kernel_rfl) (by kernel_rfl) (by assumption) ?_ ?_; rotate_left; focus (refine .inl ⟨by kernel_rfl, ?_⟩; intro w hSw; (try dsimp only at hSw); go_simp; (try with_reducible rfl)); (try simp only [Act.put, List.setIfInBounds_toArray, List.set_cons_zero, List.set_cons_succ]))
          (refine heldTake (i := 11) (oi := { dst := some 15, op := Op.binOp BinOp.add 9 (Operand.tmp 10) (Operand.tmp 14) 9, type := 9, pos := "ref.go:60", after := #[{ on := 6, ground := Ground.data }, { on := 10, ground := Ground.data }], guard := none }) (v := ?_) rfl (by kernel_rfl) (by kernel_rfl) (by kernel_rfl) (by assumption) ?_ ?_; rotate_left; focus (refine .inl ⟨by kernel_rfl, ?_⟩; intro w hSw; (try dsimp only at hSw); go_simp; (try with_reducible rfl)); (try simp only [Act.put, List.setIfInBounds_toArray, List.set_cons_zero, List.set_cons_succ]))
          (refine heldTake (i := 12) (oi := { dst := some 3, op := Op.assign (Operand.tmp 15), type := 9, pos := "ref.go:60", after := #[{ on := 11, ground := Ground.data }, { on := 5, ground := Ground.chain }, { on := 0, ground := Ground.phase }, { on := 1, ground := Ground.phase }, { on := 2, ground := Ground.phase }, { on := 3, ground := Ground.phase }, { on := 4, ground := Ground.phase }, { on := 5, ground := Ground.phase }, { on := 6, ground := Ground.phase }, { on := 7, ground := Ground.phase }, { on := 8, ground := Ground.phase }, { on := 9, ground := Ground.phase }, { on := 10, ground := Ground.phase }, { on := 11, ground := Ground.phase }], guard := none }) (v := ?_) rfl (by kernel_rfl) (by kernel_rfl) (by kernel_rfl) (by assumption) ?_ ?_; rotate_left; focus (refine .inl ⟨by kernel_rfl, ?_⟩; intro w hSw; (try dsimp only at hSw); go_simp; (try with_reducible rfl)); (try simp only [Act.put, List.setIfInBounds_toArray, List.set_cons_zero, List.set_cons_succ]))
          refine wpAnyH_done (by kernel_rfl) ?_ _
          refine NoPanic.normal ?_
          have hLast := hHeld5
          clear hHeld5
          go_wp2
          go_meet
          exact ⟨congrArg Value.string HPs.out, hLast⟩
    · refine step_build1 rfl _ rfl x.kind rfl ?_; intro g9 wa9 hg9 hb9 hp9; have HB9 := Lib.hid hb9; have HP9 := Lib.hid hp9; clear hb9 hp9
      refine hK.out _ _ (bx_on hHeld HB9.out) (fun hHeld9 => ?_)
      clear hK K hHeld
      (try simp only [Act.put, List.setIfInBounds_toArray, List.set_cons_zero, List.set_cons_succ])
      refine wpAnyH_ready (rs := [2, 10]) (by kernel_rfl) (by simp) ?_
      refine (AllReadyH.cons (o := { dst := some 6, op := Op.call { callee := Callee.value (Operand.func 83), args := #[Operand.tmp 5], argTypes := #[9] }, type := 9, pos := "ref.go:60", after := #[{ on := 1, ground := Ground.data }], guard := none }) rfl (fun K hK => ?_) (AllReadyH.cons (o := { dst := some 14, op := Op.convert 25 9 (Operand.tmp 13), type := 9, pos := "ref.go:60", after := #[{ on := 9, ground := Ground.data }], guard := none }) rfl (fun K hK => ?_) AllReadyH.nil))
      · go_simp
        (go_at_call 83; (with_reducible refine (HN1.out _).mono ?_); rintro e w2 ⟨rfl, hb2⟩; have HB2 := Lib.hid hb2; clear hb2)
        refine hK.out _ _ (bx_on hHeld9 HB2.out) (fun hHeld2 => ?_)
        clear hK K hHeld9
        (try simp only [Act.put, List.setIfInBounds_toArray, List.set_cons_zero, List.set_cons_succ])
        refine wpAnyH_ready (rs := [5, 10]) (by kernel_rfl) (by simp) ?_
        refine (AllReadyH.cons (o := { dst := some 9, op := Op.call { callee := Callee.value (Operand.func 83), args := #[Operand.tmp 8], argTypes := #[9] }, type := 9, pos := "ref.go:60", after := #[{ on := 4, ground := Ground.data }, { on := 2, ground := Ground.chain }], guard := none }) rfl (fun K hK => ?_) (AllReadyH.cons (o := { dst := some 14, op := Op.convert 25 9 (Operand.tmp 13), type := 9, pos := "ref.go:60", after := #[{ on := 9, ground := Ground.data }], guard := none }) rfl (fun K hK => ?_) AllReadyH.nil))
        · go_simp
          (go_at_call 83; (with_reducible refine (HN2.out _).mono ?_); rintro e w5 ⟨rfl, hb5⟩; have HB5 := Lib.hid hb5; clear hb5)
          refine hK.out _ _ (bx_on hHeld2 HB5.out) (fun hHeld5 => ?_)
          clear hK K hHeld2
          (try simp only [Act.put, List.setIfInBounds_toArray, List.set_cons_zero, List.set_cons_succ])
          (refine heldTake (i := 6) (oi := { dst := some 10, op := Op.binOp BinOp.add 9 (Operand.tmp 6) (Operand.tmp 9) 9, type := 9, pos := "ref.go:60", after := #[{ on := 2, ground := Ground.data }, { on := 5, ground := Ground.data }], guard := none }) (v := ?_) rfl (by kernel_rfl) (by kernel_rfl) (by kernel_rfl) (by assumption) ?_ ?_; rotate_left; focus (refine .inl ⟨by kernel_rfl, ?_⟩; intro w hSw; (try dsimp only at hSw); go_simp; (try with_reducible rfl)); (try simp only [Act.put, List.setIfInBounds_toArray, List.set_cons_zero, List.set_cons_succ]))
          refine wpAnyH_ready (rs := [10]) (by kernel_rfl) (by simp) ?_
          refine (AllReadyH.cons (o := { dst := some 14, op := Op.convert 25 9 (Operand.tmp 13), type := 9, pos := "ref.go:60", after := #[{ on := 9, ground := Ground.data }], guard := none }) rfl (fun K hK => ?_) AllReadyH.nil)
          go_simp; refine upon_str (l := [x.kind]) (((((HP9.out).below HB2.out)).below HB5.out)) ?_; have HB10 := Lib.hid (Below.refl 0 w)
          refine hK.out _ _ hHeld5 (fun hHeld10 => ?_)
          clear hK K hHeld5
          (try simp only [Act.put, List.setIfInBounds_toArray, List.set_cons_zero, List.set_cons_succ])
          (refine heldTake (i := 11) (oi := { dst := some 15, op := Op.binOp BinOp.add 9 (Operand.tmp 10) (Operand.tmp 14) 9, type := 9, pos := "ref.go:60", after := #[{ on := 6, ground := Ground.data }, { on := 10, ground := Ground.data }], guard := none }) (v := ?_) rfl (by kernel_rfl) (by kernel_rfl) (by kernel_rfl) (by assumption) ?_ ?_; rotate_left; focus (refine .inl ⟨by kernel_rfl, ?_⟩; intro w hSw; (try dsimp only at hSw); go_simp; (try with_reducible rfl)); (try simp only [Act.put, List.setIfInBounds_toArray, List.set_cons_zero, List.set_cons_succ]))
          (refine heldTake (i := 12) (oi := { dst := some 3, op := Op.assign (Operand.tmp 15), type := 9, pos := "ref.go:60", after := #[{ on := 11, ground := Ground.data }, { on := 5, ground := Ground.chain }, { on := 0, ground := Ground.phase }, { on := 1, ground := Ground.phase }, { on := 2, ground := Ground.phase }, { on := 3, ground := Ground.phase }, { on := 4, ground := Ground.phase }, { on := 5, ground := Ground.phase }, { on := 6, ground := Ground.phase }, { on := 7, ground := Ground.phase }, { on := 8, ground := Ground.phase }, { on := 9, ground := Ground.phase }, { on := 10, ground := Ground.phase }, { on := 11, ground := Ground.phase }], guard := none }) (v := ?_) rfl (by kernel_rfl) (by kernel_rfl) (by kernel_rfl) (by assumption) ?_ ?_; rotate_left; focus (refine .inl ⟨by kernel_rfl, ?_⟩; intro w hSw; (try dsimp only at hSw); go_simp; (try with_reducible rfl)); (try simp only [Act.put, List.setIfInBounds_toArray, List.set_cons_zero, List.set_cons_succ]))
          refine wpAnyH_done (by kernel_rfl) ?_ _
          refine NoPanic.normal ?_
          have hLast := hHeld10
          clear hHeld10
          go_wp2
          go_meet
          exact ⟨congrArg Value.string HPs.out, hLast⟩
        · go_simp; refine upon_str (l := [x.kind]) (((HP9.out).below HB2.out)) ?_; have HB10 := Lib.hid (Below.refl 0 w)
          refine hK.out _ _ hHeld2 (fun hHeld10 => ?_)
          clear hK K hHeld2
          (try simp only [Act.put, List.setIfInBounds_toArray, List.set_cons_zero, List.set_cons_succ])
          refine wpAnyH_ready (rs := [5]) (by kernel_rfl) (by simp) ?_
          refine (AllReadyH.cons (o := { dst := some 9, op := Op.call { callee := Callee.value (Operand.func 83), args := #[Operand.tmp 8], argTypes := #[9] }, type := 9, pos := "ref.go:60", after := #[{ on := 4, ground := Ground.data }, { on := 2, ground := Ground.chain }], guard := none }) rfl (fun K hK => ?_) AllReadyH.nil)
          go_simp
          (go_at_call 83; (with_reducible refine (HN2.out _).mono ?_); rintro e w5 ⟨rfl, hb5⟩; have HB5 := Lib.hid hb5; clear hb5)
          refine hK.out _ _ (bx_on hHeld10 HB5.out) (fun hHeld5 => ?_)
          clear hK K hHeld10
          (try simp only [Act.put, List.setIfInBounds_toArray, List.set_cons_zero, List.set_cons_succ])
          (refine heldTake (i := 6) (oi := { dst := some 10, op := Op.binOp BinOp.add 9 (Operand.tmp 6) (Operand.tmp 9) 9, type := 9, pos := "ref.go:60", after := #[{ on := 2, ground := Ground.data }, { on := 5, ground := Ground.data }], guard := none }) (v := ?_) rfl (by kernel_rfl) (by kernel_rfl) (by kernel_rfl) (by assumption) ?_ ?_; rotate_left; focus (refine .inl ⟨by kernel_rfl, ?_⟩; intro w hSw; (try dsimp only at hSw); go_simp; (try with_reducible rfl)); (try simp only [Act.put, List.setIfInBounds_toArray, List.set_cons_zero, List.set_cons_succ]))
          (refine heldTake (i := 11) (oi := { dst := some 15, op := Op.binOp BinOp.add 9 (Operand.tmp 10) (Operand.tmp 14) 9, type := 9, pos := "ref.go:60", after := #[{ on := 6, ground := Ground.data }, { on := 10, ground := Ground.data }], guard := none }) (v := ?_) rfl (by kernel_rfl) (by kernel_rfl) (by kernel_rfl) (by assumption) ?_ ?_; rotate_left; focus (refine .inl ⟨by kernel_rfl, ?_⟩; intro w hSw; (try dsimp only at hSw); go_simp; (try with_reducible rfl)); (try simp only [Act.put, List.setIfInBounds_toArray, List.set_cons_zero, List.set_cons_succ]))
          (refine heldTake (i := 12) (oi := { dst := some 3, op := Op.assign (Operand.tmp 15), type := 9, pos := "ref.go:60", after := #[{ on := 11, ground := Ground.data }, { on := 5, ground := Ground.chain }, { on := 0, ground := Ground.phase }, { on := 1, ground := Ground.phase }, { on := 2, ground := Ground.phase }, { on := 3, ground := Ground.phase }, { on := 4, ground := Ground.phase }, { on := 5, ground := Ground.phase }, { on := 6, ground := Ground.phase }, { on := 7, ground := Ground.phase }, { on := 8, ground := Ground.phase }, { on := 9, ground := Ground.phase }, { on := 10, ground := Ground.phase }, { on := 11, ground := Ground.phase }], guard := none }) (v := ?_) rfl (by kernel_rfl) (by kernel_rfl) (by kernel_rfl) (by assumption) ?_ ?_; rotate_left; focus (refine .inl ⟨by kernel_rfl, ?_⟩; intro w hSw; (try dsimp only at hSw); go_simp; (try with_reducible rfl)); (try simp only [Act.put, List.setIfInBounds_toArray, List.set_cons_zero, List.set_cons_succ]))
          refine wpAnyH_done (by kernel_rfl) ?_ _
          refine NoPanic.normal ?_
          have hLast := hHeld5
          clear hHeld5
          go_wp2
          go_meet
          exact ⟨congrArg Value.string HPs.out, hLast⟩
      · go_simp; refine upon_str (l := [x.kind]) (HP9.out) ?_; have HB10 := Lib.hid (Below.refl 0 w)
        refine hK.out _ _ hHeld9 (fun hHeld10 => ?_)
        clear hK K hHeld9
        (try simp only [Act.put, List.setIfInBounds_toArray, List.set_cons_zero, List.set_cons_succ])
        refine wpAnyH_ready (rs := [2]) (by kernel_rfl) (by simp) ?_
        refine (AllReadyH.cons (o := { dst := some 6, op := Op.call { callee := Callee.value (Operand.func 83), args := #[Operand.tmp 5], argTypes := #[9] }, type := 9, pos := "ref.go:60", after := #[{ on := 1, ground := Ground.data }], guard := none }) rfl (fun K hK => ?_) AllReadyH.nil)
        go_simp
        (go_at_call 83; (with_reducible refine (HN1.out _).mono ?_); rintro e w2 ⟨rfl, hb2⟩; have HB2 := Lib.hid hb2; clear hb2)
        refine hK.out _ _ (bx_on hHeld10 HB2.out) (fun hHeld2 => ?_)
        clear hK K hHeld10
        (try simp only [Act.put, List.setIfInBounds_toArray, List.set_cons_zero, List.set_cons_succ])
        refine wpAnyH_ready (rs := [5]) (by kernel_rfl) (by simp) ?_
        refine (AllReadyH.cons (o := { dst := some 9, op := Op.call { callee := Callee.value (Operand.func 83), args := #[Operand.tmp 8], argTypes := #[9] }, type := 9, pos := "ref.go:60", after := #[{ on := 4, ground := Ground.data }, { on := 2, ground := Ground.chain }], guard := none }) rfl (fun K hK => ?_) AllReadyH.nil)
        go_simp
        (go_at_call 83; (with_reducible refine (HN2.out _).mono ?_); rintro e w5 ⟨rfl, hb5⟩; have HB5 := Lib.hid hb5; clear hb5)
        refine hK.out _ _ (bx_on hHeld2 HB5.out) (fun hHeld5 => ?_)
        clear hK K hHeld2
        (try simp only [Act.put, List.setIfInBounds_toArray, List.set_cons_zero, List.set_cons_succ])
        (refine heldTake (i := 6) (oi := { dst := some 10, op := Op.binOp BinOp.add 9 (Operand.tmp 6) (Operand.tmp 9) 9, type := 9, pos := "ref.go:60", after := #[{ on := 2, ground := Ground.data }, { on := 5, ground := Ground.data }], guard := none }) (v := ?_) rfl (by kernel_rfl) (by kernel_rfl) (by kernel_rfl) (by assumption) ?_ ?_; rotate_left; focus (refine .inl ⟨by kernel_rfl, ?_⟩; intro w hSw; (try dsimp only at hSw); go_simp; (try with_reducible rfl)); (try simp only [Act.put, List.setIfInBounds_toArray, List.set_cons_zero, List.set_cons_succ]))
        (refine heldTake (i := 11) (oi := { dst := some 15, op := Op.binOp BinOp.add 9 (Operand.tmp 10) (Operand.tmp 14) 9, type := 9, pos := "ref.go:60", after := #[{ on := 6, ground := Ground.data }, { on := 10, ground := Ground.data }], guard := none }) (v := ?_) rfl (by kernel_rfl) (by kernel_rfl) (by kernel_rfl) (by assumption) ?_ ?_; rotate_left; focus (refine .inl ⟨by kernel_rfl, ?_⟩; intro w hSw; (try dsimp only at hSw); go_simp; (try with_reducible rfl)); (try simp only [Act.put, List.setIfInBounds_toArray, List.set_cons_zero, List.set_cons_succ]))
        (refine heldTake (i := 12) (oi := { dst := some 3, op := Op.assign (Operand.tmp 15), type := 9, pos := "ref.go:60", after := #[{ on := 11, ground := Ground.data }, { on := 5, ground := Ground.chain }, { on := 0, ground := Ground.phase }, { on := 1, ground := Ground.phase }, { on := 2, ground := Ground.phase }, { on := 3, ground := Ground.phase }, { on := 4, ground := Ground.phase }, { on := 5, ground := Ground.phase }, { on := 6, ground := Ground.phase }, { on := 7, ground := Ground.phase }, { on := 8, ground := Ground.phase }, { on := 9, ground := Ground.phase }, { on := 10, ground := Ground.phase }, { on := 11, ground := Ground.phase }], guard := none }) (v := ?_) rfl (by kernel_rfl) (by kernel_rfl) (by kernel_rfl) (by assumption) ?_ ?_; rotate_left; focus (refine .inl ⟨by kernel_rfl, ?_⟩; intro w hSw; (try dsimp only at hSw); go_simp; (try with_reducible rfl)); (try simp only [Act.put, List.setIfInBounds_toArray, List.set_cons_zero, List.set_cons_succ]))
        refine wpAnyH_done (by kernel_rfl) ?_ _
        refine NoPanic.normal ?_
        have hLast := hHeld5
        clear hHeld5
        go_wp2
        go_meet
        exact ⟨congrArg Value.string HPs.out, hLast⟩
  case rest =>
    obtain ⟨rfl, hbx⟩ := hcut
    have hBX := hbx
    obtain ⟨_, c0, c1, c2, c3, c4, c5, c6, c7, c8⟩ := hbx
    have HBX := Lib.hid hBX
    clear hBX hB0 HN1 HN2 q1 q2
    have sP := S_size P
    have hDD := HDD.out
    unfold desL at hDD
    by_cases k0 : x.kind.toNat = 0
    · rw [if_pos k0] at hDD
      have HC := Lib.hid (fun w => count_any (x.typ.toNat : Int) w (by omega) (by have := u32_le x.typ; omega))
      have wt : IntKind.i64.wrap (x.typ.toNat : Int) = x.typ.toNat := by rw [IntKind.wrap_i64]; have := u32_le x.typ; omega
      have b0 : ((x.kind.toNat : Int) == 0) = true := be_of (by simp; omega)
      generalize lebL (x.typ.toNat : Int) = y at *
      rw [hDD] at hd
      (try rw [List.length_append, List.length_singleton] at hd)
      have sy := S_size y
      have q : ¬ 9223372036854775807 < (S P).size + (S y).size := by omega
      have HS := Lib.hid (show S P ++ S y = S (P ++ D) by rw [hDD, S_append])
      clear sy sP k0 hDD hd
      go_wp2_with (go_at_call 60; go_must ((with_reducible refine (HC.out _).mono ?_); rintro e w1 ⟨rfl, hb⟩; have HB := Lib.hid (bx_on HBX.out hb); clear hb))
      go_ret
      exact ⟨congrArg (fun b => Ending.returned (Value.string b)) HS.out, HB.out.1.2⟩
    rw [if_neg k0] at hDD
    have b0 : ((x.kind.toNat : Int) == 0) = false := be_of (by simp; omega)
    by_cases k1 : x.kind.toNat = 1
    · rw [if_pos k1] at hDD
      have HC := Lib.hid (fun w => refElim_any x.mn.toNat x.mx.toNat x.bd w (by omega) (u32_le _) (by omega) (u32_le _))
      have b1 : ((x.kind.toNat : Int) == 1) = true := be_of (by simp; omega)
      generalize encLim x.mn.toNat x.mx.toNat x.bd = y at *
      rw [hDD] at hd
      (try rw [List.length_append, List.length_singleton] at hd)
      have sy := S_size y
      have q : ¬ 9223372036854775807 < (S P).size + 1 + (S y).size := by omega
      have q' : ¬ 9223372036854775807 < (S P).size + 1 := by omega
      have q'' : ¬ 9223372036854775807 < (S P ++ S [112]).size + (S y).size := by rw [S_append, S_size, List.length_append, List.length_singleton]; omega
      have HS := Lib.hid (show S P ++ ({ data := #[112] } : ByteArray) ++ S y = S (P ++ D) by rw [hDD, show ({ data := #[112] } : ByteArray) = S [112] from rfl, S_app3, List.append_assoc])
      clear sy sP k0 k1 hDD hd
      go_wp2_with (go_at_call 84; go_must ((with_reducible refine (HC.out _).mono ?_); rintro e w1 ⟨rfl, hb⟩; have HB := Lib.hid (bx_on HBX.out hb); clear hb))
      go_ret
      exact ⟨congrArg (fun b => Ending.returned (Value.string b)) HS.out, HB.out.1.2⟩
    rw [if_neg k1] at hDD
    have b1 : ((x.kind.toNat : Int) == 1) = false := be_of (by simp; omega)
    by_cases k2 : x.kind.toNat = 2
    · rw [if_pos k2] at hDD
      have HC := Lib.hid (fun w => refElim_any x.mn.toNat x.mx.toNat x.bd w (by omega) (u32_le _) (by omega) (u32_le _))
      have b2 : ((x.kind.toNat : Int) == 2) = true := be_of (by simp; omega)
      generalize encLim x.mn.toNat x.mx.toNat x.bd = y at *
      rw [hDD] at hd
      (try rw [List.length_append, List.length_singleton] at hd)
      have sy := S_size y
      have q : ¬ 9223372036854775807 < (S P).size + (S y).size := by omega
      have HS := Lib.hid (show S P ++ S y = S (P ++ D) by rw [hDD, S_append])
      clear sy sP k0 k1 k2 hDD hd
      go_wp2_with (go_at_call 84; go_must ((with_reducible refine (HC.out _).mono ?_); rintro e w1 ⟨rfl, hb⟩; have HB := Lib.hid (bx_on HBX.out hb); clear hb))
      go_ret
      exact ⟨congrArg (fun b => Ending.returned (Value.string b)) HS.out, HB.out.1.2⟩
    rw [if_neg k2] at hDD
    have b2 : ((x.kind.toNat : Int) == 2) = false := be_of (by simp; omega)
    have HC := Lib.hid (fun w => refEncG_any x.gt.toNat x.gm w (by omega) (u8_le _))
    generalize encG x.gt.toNat x.gm = y at *
    rw [hDD] at hd
    (try rw [List.length_append, List.length_singleton] at hd)
    have sy := S_size y
    have q : ¬ 9223372036854775807 < (S P).size + (S y).size := by omega
    have HS := Lib.hid (show S P ++ S y = S (P ++ D) by rw [hDD, S_append])
    clear sy sP k0 k1 k2 hDD hd
    go_wp2_with (go_at_call 85; go_must ((with_reducible refine (HC.out _).mono ?_); rintro e w1 ⟨rfl, hb⟩; have HB := Lib.hid (bx_on HBX.out hb); clear hb))
    go_ret
    exact ⟨congrArg (fun b => Ending.returned (Value.string b)) HS.out, HB.out.1.2⟩
end Go.Proofs.YtanddfkhokcepaaDoor

/- The walk of ImportsPuts. -/
namespace Go.Proofs.YtanddfkhokcepaaDoor
open Go.RowKit
set_option linter.unusedVariables false
set_option maxRecDepth 100000

/-- What the law keeps: the box of its input, the bytes, the scanner's cell. -/
structure PK (w : World) (x : Im) (p : Nat) (B : Nat) (Ab : Option Addr) (y : List UInt8) (b6 : Nat) (W : World) : Prop where
  bx : Whole W w.heap.size 49 (imC x)
  ly : Lies W B Ab (cells (nums y))
  pt : Whole W b6 54 #[.pointer (some ⟨p, 0, none⟩)]
  bel : Below w.heap.size w W
  o1 : w.heap.size < p
  o2 : B ≤ p
  o3 : p < b6
  o4 : B ≤ W.heap.size
section
variable {w W W' : World} {x : Im} {p B b6 k k' q : Nat} {l : List UInt8} {Ab : Option Addr} {y : List UInt8}
theorem PK.grown (h : PK w x p B Ab y b6 W) (hg : W.grownBy W' (some q)) (h1 : p ≤ q) (h2 : b6 ≠ q) : PK w x p B Ab y b6 W' := by
  obtain ⟨a1, a2, a3, a4, a5, a6, a7, a8⟩ := h
  exact ⟨a1.grown hg (by simp only [ne_eq, Option.some.injEq]; omega), a2.grown hg a8 (fun g e => by injection e with e; omega), a3.grown hg (by simp only [ne_eq, Option.some.injEq]; omega), below_new a4 hg (by omega), a5, a6, a7, Nat.le_trans a8 hg.size⟩
theorem PK.below (h : PK w x p B Ab y b6 W) (hb : Below W.heap.size W W') : PK w x p B Ab y b6 W' := by
  obtain ⟨a1, a2, a3, a4, a5, a6, a7, a8⟩ := h
  exact ⟨a1.below hb, a2.below hb a8, a3.below hb, a4.trans (hb.mono a4.size), a5, a6, a7, Nat.le_trans a8 hb.size⟩
/-- At the law's end. -/
structure PE (w : World) (x : Im) (p : Nat) (B : Nat) (Ab : Option Addr) (y : List UInt8) (b6 g : Nat) (l : List UInt8) (k : Nat) (W : World) : Prop where
  a : PK w x p B Ab y b6 W
  sc : Sc W p l k
  yb : Whole W g 49 (imC x)
  st : Whole W (g + 1) 39 #[.int .i64 0, .int .i64 0]
theorem PE.below {g : Nat} (h : PE w x p B Ab y b6 g l k W) (hb : Below W.heap.size W W') : PE w x p B Ab y b6 g l k W' := ⟨h.a.below hb, h.sc.below hb, h.yb.below hb, h.st.below hb⟩
/-- .. and what it reads as. -/
abbrev PEc (w : World) (x : Im) (p : Nat) (B : Nat) (Ab : Option Addr) (cb : Nat) (y : List UInt8) (b6 g : Nat) (l : List UInt8) (k : Nat) (W : World) : Prop := PE w x p B Ab y b6 g l k W ∧
  (W.cell? ⟨w.heap.size, 0, none⟩ = some (.string (S x.mod)) ∧ W.cell? ⟨w.heap.size, 1, none⟩ = some (.string (S x.nam)) ∧ W.cell? ⟨w.heap.size, 2, none⟩ = some (.int .u8 x.kind.toNat) ∧ W.cell? ⟨w.heap.size, 3, none⟩ = some (.int .u32 x.typ.toNat) ∧
    W.cell? ⟨w.heap.size, 4, none⟩ = some (.int .u32 x.mn.toNat) ∧ W.cell? ⟨w.heap.size, 5, none⟩ = some (.int .u32 x.mx.toNat) ∧ W.cell? ⟨w.heap.size, 6, none⟩ = some (.bool x.bd) ∧ W.cell? ⟨w.heap.size, 7, none⟩ = some (.int .u8 x.gt.toNat) ∧ W.cell? ⟨w.heap.size, 8, none⟩ = some (.bool x.gm)) ∧
  (W.cell? ⟨g, 0, none⟩ = some (.string (S x.mod)) ∧ W.cell? ⟨g, 1, none⟩ = some (.string (S x.nam)) ∧ W.cell? ⟨g, 2, none⟩ = some (.int .u8 x.kind.toNat) ∧ W.cell? ⟨g, 3, none⟩ = some (.int .u32 x.typ.toNat) ∧
    W.cell? ⟨g, 4, none⟩ = some (.int .u32 x.mn.toNat) ∧ W.cell? ⟨g, 5, none⟩ = some (.int .u32 x.mx.toNat) ∧ W.cell? ⟨g, 6, none⟩ = some (.bool x.bd) ∧ W.cell? ⟨g, 7, none⟩ = some (.int .u8 x.gt.toNat) ∧ W.cell? ⟨g, 8, none⟩ = some (.bool x.gm)) ∧
  W.cell? ⟨g + 1, 0, none⟩ = some (.int .i64 0) ∧ W.cell? ⟨b6, 0, none⟩ = some (.pointer (some ⟨p, 0, none⟩)) ∧ (convert 25 9 (.slice Ab y.length cb)).run Tryd.prog W = .ok (.string (S y)) W
theorem PE.all {g : Nat} (h : PE w x p B Ab y b6 g l k W) (cb : Nat) : PEc w x p B Ab cb y b6 g l k W :=
  ⟨h, h.a.bx.im, h.yb.im, h.st.cell 0, h.a.pt.cell 0, str_any h.a.ly cb 9 Tryd.underlying9⟩
end
/-- The boxed input and the tables. -/
structure PSt (w : World) (x : Im) (W : World) : Prop where
  tb : Tabs W
  bx : Bx w w.heap.size x W
theorem PSt.on {w W W' : World} {x : Im} (h : PSt w x W) (hb : Below W.heap.size W W') : PSt w x W' := ⟨h.tb.below hb, bx_on h.bx hb⟩
set_option maxHeartbeats 8000000 in
theorem lawP {w : World} {x : Im} (hT : Tabs w) :
    Calls Tryd.prog 4 #[imV x] w fun e w' => e = .returned (.bool true) ∧ Below w.heap.size w w' := by
  have HTw := Lib.hid hT
  have h0 : PSt w x (w.alloc (.cells (imC x) 49)) := ⟨hT.below (below_box _ _), bx_start w x⟩
  have HAW := Lib.hid (awake_im _ h0.tb)
  have H0 := Lib.hid h0
  have s1 := S_size x.mod
  have s2 := S_size x.nam
  clear h0 hT
  by_cases g1 : 400 < x.mod.length
  · have t1 : decide ((400 : Int) < (x.mod.length : Int)) = true := decide_eq_true (by omega)
    clear g1 s2
    go_enter Tryd.func4, Tryd.ntmps4
    go_wp2_with (go_at_call 18; go_must ((with_reducible refine HAW.out.mono ?_); rintro e w1 ⟨rfl, hb⟩; have H1 := Lib.hid (H0.out.on hb); obtain ⟨c0, c1, c2, c3, c4, c5, c6, c7, c8⟩ := H1.out.bx.1.1.im; clear hb))
    go_ret
    exact ⟨rfl, bx_bel H1.out.bx⟩
  have t1 : decide ((400 : Int) < (x.mod.length : Int)) = false := decide_eq_false (by omega)
  by_cases g2 : 400 < x.nam.length
  · have t2 : decide ((400 : Int) < (x.nam.length : Int)) = true := decide_eq_true (by omega)
    clear g1 g2
    go_enter Tryd.func4, Tryd.ntmps4
    go_wp2_with (go_at_call 18; go_must ((with_reducible refine HAW.out.mono ?_); rintro e w1 ⟨rfl, hb⟩; have H1 := Lib.hid (H0.out.on hb); obtain ⟨c0, c1, c2, c3, c4, c5, c6, c7, c8⟩ := H1.out.bx.1.1.im; clear hb))
    go_ret
    exact ⟨rfl, bx_bel H1.out.bx⟩
  have t2 : decide ((400 : Int) < (x.nam.length : Int)) = false := decide_eq_false (by omega)
  have HRR := Lib.hid (fun W => rright_im x W (by omega) (by omega))
  have HIR := Lib.hid (fun W (h : Tabs W) => iright_any x W (by omega) (by omega) h)
  have HPU := Lib.hid (fun W (h : Tabs W) => put_im x W h (by omega) (by omega))
  have HRP := Lib.hid (fun W => rput_im x W (by omega) (by omega))
  have hlen := iputL_len (x := x) (n := 400) (by omega) (by omega) (by omega)
  unfold Putted at HPU
  by_cases hz : rZ x = 0
  · rw [if_pos hz] at HPU
    have HGT := Lib.hid (fun W p l r k (h : Sc W p l k) (hT : TbN p W) (hd : l.drop k = iputL x ++ r) => get_im h hT hd hz)
    rw [hz] at HRR HIR HPU
    obtain ⟨y, hy⟩ : ∃ y, y = iputL x := ⟨_, rfl⟩
    rw [← hy] at HPU HRP hlen HGT
    have hl7 : (([] ++ y) ++ [7]).length ≤ 1000000 := by simp only [List.length_append, List.length_singleton, List.length_nil]; omega
    have hl7' : ([] ++ y : List UInt8).length + ([7] : List UInt8).length ≤ 1000000 := by simp only [List.length_append, List.length_singleton, List.length_nil]; omega
    have hl0 : ([] : List UInt8).length + y.length ≤ 1000000 := by simp only [List.length_nil]; omega
    have HD := Lib.hid (show (([] ++ y) ++ [7] : List UInt8).drop 0 = y ++ [7] from by simp)
    have HLf := Lib.hid (fun W p (h : Sc W p (([] ++ y) ++ [7]) y.length) => by
      have h2 := left_any h
      have e : (((([] ++ y) ++ [7] : List UInt8).length : Int) - (y.length : Int)) = 1 := by simp only [List.length_append, List.length_singleton, List.length_nil]; omega
      rw [e] at h2
      exact h2)
    have HSm := Lib.hid (fun W => show Calls Tryd.prog 27 #[imV x, imV x] W fun e w' => e = .returned (.bool true) ∧ Below W.heap.size W w' from by have h2 := refSame_im x x W; rw [decide_eq_true rfl] at h2; exact h2)
    obtain ⟨L, hL⟩ : ∃ L, L = (([] ++ y) ++ [7] : List UInt8) := ⟨_, rfl⟩
    rw [← hL] at hl7 HD HLf
    have HLd := Lib.hid hL
    clear hL
    clear hz hy g1 g2
    go_enter Tryd.func4, Tryd.ntmps4
    go_upto_region 11 with (first
      | (go_at_call 18; go_must ((with_reducible refine HAW.out.mono ?_); rintro e w1 ⟨rfl, hb⟩; have H1 := Lib.hid (H0.out.on hb); obtain ⟨c0, c1, c2, c3, c4, c5, c6, c7, c8⟩ := H1.out.bx.1.1.im; clear hb))
      | (go_at_call 19; go_must ((with_reducible refine (HRR.out _).mono ?_); rintro e w2 ⟨rfl, hb⟩; clear c0 c1 c2 c3 c4 c5 c6 c7 c8; have H2 := Lib.hid (H1.out.on hb); obtain ⟨c0, c1, c2, c3, c4, c5, c6, c7, c8⟩ := H2.out.bx.1.1.im; clear hb))
      | (go_at_call 20; go_must ((with_reducible refine (HPU.out _ H2.out.tb).mono ?_); intro e w3 hq; obtain ⟨v, rfl, hr, hb⟩ := hq; obtain ⟨Ab, cb, rfl, hpc⟩ := hr.pc; clear c0 c1 c2 c3 c4 c5 c6 c7 c8; have H3 := Lib.hid (H2.out.on hb); have HP3 := Lib.hid hpc; obtain ⟨c0, c1, c2, c3, c4, c5, c6, c7, c8⟩ := H3.out.bx.1.1.im; clear hb hr hpc))
      | (go_at_call 21; go_must ((with_reducible refine (HIR.out _ H3.out.tb).mono ?_); rintro e w4 ⟨rfl, hb⟩; clear c0 c1 c2 c3 c4 c5 c6 c7 c8; have H4 := Lib.hid (H3.out.on hb); have HP4 := Lib.hid (HP3.out.below hb); clear hb)))
    have R0 := Lib.hid (Row.made w4 [] w4.heap.size w4.heap.size rfl (Nat.le_refl _) (by simp))
    have HP4' := Lib.hid (HP4.out.below (below_box w4 (.cells #[] 5)))
    have hB4 : w4.heap.size ≤ (w4.alloc (.cells #[] 5)).heap.size := (below_box w4 _).size
    go_upto_region 12 with (first
      | (go_at_call 22; go_must ((with_reducible refine (over_all HP6.out.lies hl7).mono ?_); intro e w7 hq; obtain ⟨p, rfl, hpp, hs, hb⟩ := hq; have HS7 := Lib.hid hs; have HB7 := Lib.hid (HB6.out.trans (hb.mono HB6.out.size)); have HB67 := Lib.hid hb; clear hs hb))
      | (have tok := HR5; at_builtin; go_must (refine row_any rfl _ _ rfl w4.heap.size _ ([] ++ y) rfl (HR5.out.later (below_box w5 (.cells #[.int .u8 7] 5))) (some ⟨w5.heap.size, 0, none⟩) 1 1 _ [7] rfl rfl (lies_made w5 [7] (0, 0)) (fun e => by cases e) hl7' (Nat.le_trans HB5.out.size (below_box w5 _).size) ?_; intro v6 w6 hr6 hb6; rw [← HLd.out] at hr6; obtain ⟨A6, c6', rfl, hpc6⟩ := hr6.pc; have HB6 := Lib.hid ((HB5.out.trans ((below_box w5 (.cells #[.int .u8 7] 5)).mono HB5.out.size)).trans hb6); have HP6 := Lib.hid hpc6; clear hr6 hb6 hpc6))
      | (at_builtin; go_must (refine row_any rfl _ _ rfl w4.heap.size _ [] rfl R0.out Ab y.length cb _ y rfl rfl HP4'.out.lies HP4'.out.nil hl0 hB4 ?_; intro v5 w5 hr5 hb5; have HR5 := Lib.hid hr5; have HB5 := Lib.hid ((below_box w4 (.cells #[] 5)).trans hb5); clear hr5 hb5)))
    have hx4 := H4.out.bx.1.1.lt
    have h46 := HB6.out.size
    have h7p := HS7.out.lt
    have hpk : PK w x p w6.heap.size Ab y w7.heap.size (w7.alloc (.cells #[.pointer (some ⟨p, 0, none⟩)] 54)) :=
      ⟨((H4.out.bx.1.1.below HB7.out).alloc _), ((HP4.out.below HB6.out).lies.below (HB67.out.trans ((below_box w7 _).mono HB67.out.size)) (Nat.le_refl _)), Whole.made _ _ _,
        (bx_bel H4.out.bx).trans ((HB7.out.trans ((below_box w7 _).mono HB7.out.size)).mono (bx_bel H4.out.bx).size), by omega, hpp, h7p, Nat.le_trans HB67.out.size (below_box w7 _).size⟩
    have HPK := Lib.hid hpk
    have HS8 := Lib.hid (HS7.out.alloc (.cells #[.pointer (some ⟨p, 0, none⟩)] 54))
    have hb6 : w7.heap.size < (w7.alloc (.cells #[.pointer (some ⟨p, 0, none⟩)] 54)).heap.size := hpk.pt.lt
    clear R0 HP4' HR5 H1 H2 H3 HP3 HB5 HB6 HP6 HAW H0 HRR HIR HPU HP4 H4 HB7 HB67 HS7 hpk hl7 hl7' hl0 hB4
    generalize w7.alloc (.cells #[.pointer (some ⟨p, 0, none⟩)] 54) = W8 at *
    generalize w7.heap.size = b6 at *
    have HV := Lib.hid (valueJ_ok (T := fun q W => q = x ∧ PK w x p w6.heap.size Ab y b6 W ∧ Sc W p L y.length) (cfI1 #[.pointer (some ⟨b6, 0, none⟩)]) (q := p) (w := W8) (by omega)
      (fun q W W' b h1 h2 h3 hg => ⟨h3.1, h3.2.1.grown hg (by omega) (by omega), h3.2.2.grown hg (by simp only [ne_eq, Option.some.injEq]; omega) (fun g e => by injection e with e; omega)⟩)
      (fun W hb hsz => by
        have hW := HPK.out.below hb
        have hS := HS8.out.below hb
        refine (clos1 (x := x) (l := L) (k := y.length) hW.pt (fun W2 hb2 => ?_) hS.lt).mono ?_
        · have h2 := HGT.out W2 p L [7] 0 (hS.below hb2) (TbN.of HTw.out ((hW.below hb2).bel) (Nat.le_of_lt hW.o1) (Nat.le_of_lt (hS.below hb2).lt)) HD.out
          rw [Nat.zero_add] at h2
          exact h2
        · rintro e w' ⟨rfl, hs, hg⟩
          exact ⟨x, rfl, ⟨rfl, hW.grown hg (Nat.le_refl _) (by omega), hs⟩, hg⟩))
    clear HGT HTw
    go_upto_region 13 with (go_at_call 23; go_must ((with_reducible refine HV.out.mono ?_); rintro e w9 ⟨q, rfl, ⟨rfl, hpk, hs⟩, hg⟩; have HPE := Lib.hid (show PE w q p w6.heap.size Ab y b6 w9.heap.size L y.length ((w9.alloc (.cells (imC q) 49)).alloc (.cells #[.int .i64 0, .int .i64 0] 39)) from ⟨(hpk.below (below_box _ _)).below (below_box _ _), (hs.alloc _).alloc _, (Whole.made _ _ _).alloc _, (made_2 w9 _ _ _)⟩); clear hpk hs hg))
    generalize (w9.alloc (.cells (imC q) 49)).alloc (.cells #[.int .i64 0, .int .i64 0] 39) = W9 at *
    refine wp_region_noPanic ?_
    refine wp_region_held_drew (S := fun W => PEc w q p w6.heap.size Ab cb y b6 w9.heap.size L y.length W) (by kernel_rfl) ((HPE.out.below (Below.refl _ _).drew).all cb) (fun hHeld => ?_)
    (refine heldTake (i := 0) (oi := { dst := some 53, op := Op.move (Operand.tmp 4), type := 25, pos := "law.go:37", after := #[], guard := none }) (v := ?_) rfl (by kernel_rfl) (by kernel_rfl) (by kernel_rfl) (by assumption) ?_ ?_; rotate_left; focus (refine .inl ⟨by kernel_rfl, ?_⟩; intro w hSw; (try dsimp only at hSw); go_simp; (try with_reducible rfl)); (try simp only [Act.put, List.setIfInBounds_toArray, List.set_cons_zero, List.set_cons_succ]))
    (refine heldTake (i := 1) (oi := { dst := some 54, op := Op.convert 25 9 (Operand.tmp 53), type := 9, pos := "law.go:37", after := #[{ on := 0, ground := Ground.data }], guard := none }) (v := ?_) rfl (by kernel_rfl) (by kernel_rfl) (by kernel_rfl) (by assumption) ?_ ?_; rotate_left; focus (refine .inl ⟨by kernel_rfl, ?_⟩; intro w hSw; (try dsimp only at hSw); go_simp; (try with_reducible rfl)); (try simp only [Act.put, List.setIfInBounds_toArray, List.set_cons_zero, List.set_cons_succ]))
    (refine heldTake (i := 2) (oi := { dst := some 55, op := Op.load 49 (Operand.tmp 1), type := 49, pos := "law.go:37", after := #[], guard := none }) (v := ?_) rfl (by kernel_rfl) (by kernel_rfl) (by kernel_rfl) (by assumption) ?_ ?_; rotate_left; focus (refine .inl ⟨by kernel_rfl, ?_⟩; intro w hSw; (try dsimp only at hSw); go_simp; (try with_reducible rfl)); (try simp only [Act.put, List.setIfInBounds_toArray, List.set_cons_zero, List.set_cons_succ]))
    refine wpAnyH_ready (rs := [3]) (by kernel_rfl) (by simp) ?_
    refine AllReadyH.cons (o := { dst := some 56, op := Op.call { callee := Callee.value (Operand.func 26), args := #[Operand.tmp 55], argTypes := #[49] }, type := 9, pos := "law.go:37", after := #[{ on := 2, ground := Ground.data }], guard := none }) rfl (fun K hK => ?_) AllReadyH.nil
    go_simp
    (go_at_call 26; (with_reducible refine (HRP.out _).mono ?_); rintro e w10 ⟨rfl, hb⟩; have hk10 := (PE.below (And.left hHeld) hb).all cb; clear hb)
    refine hK.out _ _ hk10 (fun hHeld3 => ?_)
    clear hK K hHeld
    (try simp only [Act.put, List.setIfInBounds_toArray, List.set_cons_zero, List.set_cons_succ])
    (refine heldTake (i := 4) (oi := { dst := some 57, op := Op.binOp BinOp.eql 9 (Operand.tmp 54) (Operand.tmp 56) 9, type := 4, pos := "law.go:37", after := #[{ on := 1, ground := Ground.data }, { on := 3, ground := Ground.data }], guard := none }) (v := ?_) rfl (by kernel_rfl) (by kernel_rfl) (by kernel_rfl) (by assumption) ?_ ?_; rotate_left; focus (refine .inl ⟨by kernel_rfl, ?_⟩; intro w hSw; (try dsimp only at hSw); go_simp; (try with_reducible rfl)); (try simp only [Act.put, List.setIfInBounds_toArray, List.set_cons_zero, List.set_cons_succ]))
    (refine heldTake (i := 5) (oi := { dst := some 58, op := Op.move (Operand.tmp 57), type := 4, pos := "law.go:37", after := #[{ on := 4, ground := Ground.data }, { on := 3, ground := Ground.chain }], guard := none }) (v := ?_) rfl (by kernel_rfl) (by kernel_rfl) (by kernel_rfl) (by assumption) ?_ ?_; rotate_left; focus (refine .inl ⟨by kernel_rfl, ?_⟩; intro w hSw; (try dsimp only at hSw); go_simp; (try with_reducible rfl)); (try simp only [Act.put, List.setIfInBounds_toArray, List.set_cons_zero, List.set_cons_succ]))
    (refine heldTake (i := 6) (oi := { dst := some 59, op := Op.fieldAddr 39 (Operand.tmp 8) 0, type := 0, pos := "law.go:37", after := #[{ on := 5, ground := Ground.guard }], guard := some (5, true) }) (v := ?_) rfl (by kernel_rfl) (by kernel_rfl) (by kernel_rfl) (by assumption) ?_ ?_; rotate_left; focus (refine .inl ⟨by kernel_rfl, ?_⟩; intro w hSw; (try dsimp only at hSw); go_simp; (try with_reducible rfl)); (try simp only [Act.put, List.setIfInBounds_toArray, List.set_cons_zero, List.set_cons_succ]))
    (refine heldTake (i := 7) (oi := { dst := some 60, op := Op.load 37 (Operand.tmp 59), type := 37, pos := "law.go:37", after := #[{ on := 6, ground := Ground.data }, { on := 5, ground := Ground.guard }], guard := some (5, true) }) (v := ?_) rfl (by kernel_rfl) (by kernel_rfl) (by kernel_rfl) (by assumption) ?_ ?_; rotate_left; focus (refine .inl ⟨by kernel_rfl, ?_⟩; intro w hSw; (try dsimp only at hSw); go_simp; (try with_reducible rfl)); (try simp only [Act.put, List.setIfInBounds_toArray, List.set_cons_zero, List.set_cons_succ]))
    (refine heldTake (i := 8) (oi := { dst := some 61, op := Op.binOp BinOp.eql 37 (Operand.tmp 60) (Operand.const (Value.int IntKind.i64 0)) 37, type := 4, pos := "law.go:37", after := #[{ on := 7, ground := Ground.data }, { on := 5, ground := Ground.guard }], guard := some (5, true) }) (v := ?_) rfl (by kernel_rfl) (by kernel_rfl) (by kernel_rfl) (by assumption) ?_ ?_; rotate_left; focus (refine .inl ⟨by kernel_rfl, ?_⟩; intro w hSw; (try dsimp only at hSw); go_simp; (try with_reducible rfl)); (try simp only [Act.put, List.setIfInBounds_toArray, List.set_cons_zero, List.set_cons_succ]))
    (refine heldTake (i := 9) (oi := { dst := some 62, op := Op.pick (Operand.tmp 58) (Operand.tmp 61) (Operand.const (Value.bool false)), type := 4, pos := "law.go:37", after := #[{ on := 5, ground := Ground.data }, { on := 8, ground := Ground.data }], guard := none }) (v := ?_) rfl (by kernel_rfl) (by kernel_rfl) (by kernel_rfl) (by assumption) ?_ ?_; rotate_left; focus (refine .inl ⟨by kernel_rfl, ?_⟩; intro w hSw; (try dsimp only at hSw); go_simp; (try with_reducible rfl)); (try simp only [Act.put, List.setIfInBounds_toArray, List.set_cons_zero, List.set_cons_succ]))
    (refine heldTake (i := 10) (oi := { dst := some 63, op := Op.move (Operand.tmp 62), type := 4, pos := "law.go:37", after := #[{ on := 9, ground := Ground.data }, { on := 5, ground := Ground.chain }], guard := none }) (v := ?_) rfl (by kernel_rfl) (by kernel_rfl) (by kernel_rfl) (by assumption) ?_ ?_; rotate_left; focus (refine .inl ⟨by kernel_rfl, ?_⟩; intro w hSw; (try dsimp only at hSw); go_simp; (try with_reducible rfl)); (try simp only [Act.put, List.setIfInBounds_toArray, List.set_cons_zero, List.set_cons_succ]))
    (refine heldTake (i := 11) (oi := { dst := some 64, op := Op.load 49 (Operand.tmp 7), type := 49, pos := "law.go:37", after := #[{ on := 10, ground := Ground.guard }], guard := some (10, true) }) (v := ?_) rfl (by kernel_rfl) (by kernel_rfl) (by kernel_rfl) (by assumption) ?_ ?_; rotate_left; focus (refine .inl ⟨by kernel_rfl, ?_⟩; intro w hSw; (try dsimp only at hSw); go_simp; (try with_reducible rfl)); (try simp only [Act.put, List.setIfInBounds_toArray, List.set_cons_zero, List.set_cons_succ]))
    (refine heldTake (i := 12) (oi := { dst := some 65, op := Op.load 49 (Operand.tmp 1), type := 49, pos := "law.go:37", after := #[{ on := 10, ground := Ground.guard }], guard := some (10, true) }) (v := ?_) rfl (by kernel_rfl) (by kernel_rfl) (by kernel_rfl) (by assumption) ?_ ?_; rotate_left; focus (refine .inl ⟨by kernel_rfl, ?_⟩; intro w hSw; (try dsimp only at hSw); go_simp; (try with_reducible rfl)); (try simp only [Act.put, List.setIfInBounds_toArray, List.set_cons_zero, List.set_cons_succ]))
    refine wpAnyH_ready (rs := [13]) (by kernel_rfl) (by simp) ?_
    refine AllReadyH.cons (o := { dst := some 66, op := Op.call { callee := Callee.value (Operand.func 27), args := #[Operand.tmp 64, Operand.tmp 65], argTypes := #[49, 49] }, type := 4, pos := "law.go:37", after := #[{ on := 11, ground := Ground.data }, { on := 12, ground := Ground.data }, { on := 10, ground := Ground.chain }, { on := 10, ground := Ground.guard }], guard := some (10, true) }) rfl (fun K hK => ?_) AllReadyH.nil
    go_simp
    (go_at_call 27; (with_reducible refine (HSm.out _).mono ?_); rintro e w11 ⟨rfl, hb⟩; have hk11 := (PE.below (And.left hHeld3) hb).all cb; clear hb)
    refine hK.out _ _ hk11 (fun hHeld13 => ?_)
    clear hK K hHeld3
    (try simp only [Act.put, List.setIfInBounds_toArray, List.set_cons_zero, List.set_cons_succ])
    (refine heldTake (i := 14) (oi := { dst := some 67, op := Op.pick (Operand.tmp 63) (Operand.tmp 66) (Operand.const (Value.bool false)), type := 4, pos := "law.go:37", after := #[{ on := 10, ground := Ground.data }, { on := 13, ground := Ground.data }], guard := none }) (v := ?_) rfl (by kernel_rfl) (by kernel_rfl) (by kernel_rfl) (by assumption) ?_ ?_; rotate_left; focus (refine .inl ⟨by kernel_rfl, ?_⟩; intro w hSw; (try dsimp only at hSw); go_simp; (try with_reducible rfl)); (try simp only [Act.put, List.setIfInBounds_toArray, List.set_cons_zero, List.set_cons_succ]))
    (refine heldTake (i := 15) (oi := { dst := some 68, op := Op.move (Operand.tmp 67), type := 4, pos := "law.go:37", after := #[{ on := 14, ground := Ground.data }, { on := 13, ground := Ground.chain }], guard := none }) (v := ?_) rfl (by kernel_rfl) (by kernel_rfl) (by kernel_rfl) (by assumption) ?_ ?_; rotate_left; focus (refine .inl ⟨by kernel_rfl, ?_⟩; intro w hSw; (try dsimp only at hSw); go_simp; (try with_reducible rfl)); (try simp only [Act.put, List.setIfInBounds_toArray, List.set_cons_zero, List.set_cons_succ]))
    (refine heldTake (i := 16) (oi := { dst := some 69, op := Op.load 54 (Operand.tmp 6), type := 54, pos := "law.go:37", after := #[{ on := 15, ground := Ground.guard }], guard := some (15, true) }) (v := ?_) rfl (by kernel_rfl) (by kernel_rfl) (by kernel_rfl) (by assumption) ?_ ?_; rotate_left; focus (refine .inl ⟨by kernel_rfl, ?_⟩; intro w hSw; (try dsimp only at hSw); go_simp; (try with_reducible rfl)); (try simp only [Act.put, List.setIfInBounds_toArray, List.set_cons_zero, List.set_cons_succ]))
    refine wpAnyH_ready (rs := [17]) (by kernel_rfl) (by simp) ?_
    refine AllReadyH.cons (o := { dst := some 70, op := Op.call { callee := Callee.value (Operand.func 28), args := #[Operand.tmp 69], argTypes := #[54] }, type := 3, pos := "law.go:37", after := #[{ on := 16, ground := Ground.data }, { on := 15, ground := Ground.chain }, { on := 15, ground := Ground.guard }], guard := some (15, true) }) rfl (fun K hK => ?_) AllReadyH.nil
    go_simp
    (go_at_call 28; (with_reducible refine (HLf.out _ p (And.left hHeld13).sc).mono ?_); rintro e w12 ⟨rfl, m, rfl⟩; have hk12 := (PE.below (And.left hHeld13) (below_drewN (Below.refl _ _) m)).all cb)
    refine hK.out _ _ hk12 (fun hHeld17 => ?_)
    clear hK K hHeld13
    (try simp only [Act.put, List.setIfInBounds_toArray, List.set_cons_zero, List.set_cons_succ])
    (refine heldTake (i := 18) (oi := { dst := some 71, op := Op.binOp BinOp.eql 3 (Operand.tmp 70) (Operand.const (Value.int IntKind.i64 1)) 3, type := 4, pos := "law.go:37", after := #[{ on := 17, ground := Ground.data }, { on := 15, ground := Ground.guard }], guard := some (15, true) }) (v := ?_) rfl (by kernel_rfl) (by kernel_rfl) (by kernel_rfl) (by assumption) ?_ ?_; rotate_left; focus (refine .inl ⟨by kernel_rfl, ?_⟩; intro w hSw; (try dsimp only at hSw); go_simp; (try with_reducible rfl)); (try simp only [Act.put, List.setIfInBounds_toArray, List.set_cons_zero, List.set_cons_succ]))
    (refine heldTake (i := 19) (oi := { dst := some 72, op := Op.pick (Operand.tmp 68) (Operand.tmp 71) (Operand.const (Value.bool false)), type := 4, pos := "law.go:37", after := #[{ on := 15, ground := Ground.data }, { on := 18, ground := Ground.data }], guard := none }) (v := ?_) rfl (by kernel_rfl) (by kernel_rfl) (by kernel_rfl) (by assumption) ?_ ?_; rotate_left; focus (refine .inl ⟨by kernel_rfl, ?_⟩; intro w hSw; (try dsimp only at hSw); go_simp; (try with_reducible rfl)); (try simp only [Act.put, List.setIfInBounds_toArray, List.set_cons_zero, List.set_cons_succ]))
    (refine heldTake (i := 20) (oi := { dst := some 2, op := Op.assign (Operand.tmp 72), type := 4, pos := "law.go:37", after := #[{ on := 19, ground := Ground.data }, { on := 17, ground := Ground.chain }, { on := 0, ground := Ground.phase }, { on := 1, ground := Ground.phase }, { on := 2, ground := Ground.phase }, { on := 3, ground := Ground.phase }, { on := 4, ground := Ground.phase }, { on := 5, ground := Ground.phase }, { on := 6, ground := Ground.phase }, { on := 7, ground := Ground.phase }, { on := 8, ground := Ground.phase }, { on := 9, ground := Ground.phase }, { on := 10, ground := Ground.phase }, { on := 11, ground := Ground.phase }, { on := 12, ground := Ground.phase }, { on := 13, ground := Ground.phase }, { on := 14, ground := Ground.phase }, { on := 15, ground := Ground.phase }, { on := 16, ground := Ground.phase }, { on := 17, ground := Ground.phase }, { on := 18, ground := Ground.phase }, { on := 19, ground := Ground.phase }], guard := none }) (v := ?_) rfl (by kernel_rfl) (by kernel_rfl) (by kernel_rfl) (by assumption) ?_ ?_; rotate_left; focus (refine .inl ⟨by kernel_rfl, ?_⟩; intro w hSw; (try dsimp only at hSw); go_simp; (try with_reducible rfl)); (try simp only [Act.put, List.setIfInBounds_toArray, List.set_cons_zero, List.set_cons_succ]))
    refine wpAnyH_done (by kernel_rfl) ?_ _
    refine NoPanic.normal ?_
    have hLast := hHeld17
    clear hHeld17
    go_wp2
    go_ret
    exact ⟨rfl, (And.left hLast).a.bel⟩
  · rw [if_neg hz] at HPU
    have dz : (rZ x != 0) = true := zb_of (by simpa using hz)
    generalize rZ x = z at *
    clear hz g1 g2 HRP hlen
    go_enter Tryd.func4, Tryd.ntmps4
    go_wp2_with (first
      | (go_at_call 18; go_must ((with_reducible refine HAW.out.mono ?_); rintro e w1 ⟨rfl, hb⟩; have H1 := Lib.hid (H0.out.on hb); obtain ⟨c0, c1, c2, c3, c4, c5, c6, c7, c8⟩ := H1.out.bx.1.1.im; clear hb))
      | (go_at_call 19; go_must ((with_reducible refine (HRR.out _).mono ?_); rintro e w2 ⟨rfl, hb⟩; clear c0 c1 c2 c3 c4 c5 c6 c7 c8; have H2 := Lib.hid (H1.out.on hb); obtain ⟨c0, c1, c2, c3, c4, c5, c6, c7, c8⟩ := H2.out.bx.1.1.im; clear hb))
      | (go_at_call 20; go_must ((with_reducible refine (HPU.out _ H2.out.tb).mono ?_); intro e w3 hq; obtain ⟨v, rfl, hr, hb⟩ := hq; obtain ⟨Ab, cb, rfl, _⟩ := hr.pc; clear c0 c1 c2 c3 c4 c5 c6 c7 c8; have H3 := Lib.hid (H2.out.on hb); obtain ⟨c0, c1, c2, c3, c4, c5, c6, c7, c8⟩ := H3.out.bx.1.1.im; clear hb hr))
      | (go_at_call 21; go_must ((with_reducible refine (HIR.out _ H3.out.tb).mono ?_); rintro e w4 ⟨rfl, hb⟩; clear c0 c1 c2 c3 c4 c5 c6 c7 c8; have H4 := Lib.hid (H3.out.on hb); clear hb)))
    go_ret
    exact ⟨rfl, bx_bel H4.out.bx⟩
end Go.Proofs.YtanddfkhokcepaaDoor

/- Numbers of eight and of thirty-two bits, opened. -/
namespace Go.Proofs.YtanddfkhokcepaaDoor
set_option linter.unusedVariables false

theorem u8_ex {x : Int} (h : Lit.wf (.int .u8 x) = true) : ∃ a : UInt8, x = a.toNat := by
  have b : 0 ≤ x ∧ x ≤ 255 := by simpa [Lit.wf, IntKind.min, IntKind.max, IntKind.signed, IntKind.bits] using h
  exact ⟨UInt8.ofNat x.toNat, by rw [UInt8.toNat_ofNat']; omega⟩
theorem u32_ex {x : Int} (h : Lit.wf (.int .u32 x) = true) : ∃ a : UInt32, x = a.toNat := by
  have b : 0 ≤ x ∧ x ≤ 4294967295 := by simpa [Lit.wf, IntKind.min, IntKind.max, IntKind.signed, IntKind.bits] using h
  exact ⟨UInt32.ofNat x.toNat, by rw [UInt32.toNat_ofNat']; omega⟩
end Go.Proofs.YtanddfkhokcepaaDoor
