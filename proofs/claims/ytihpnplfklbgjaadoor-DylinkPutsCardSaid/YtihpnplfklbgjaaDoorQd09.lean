/- imports.Put. -/
import Derived.Test.YtihpnplfklbgjaaDoorQd08
import Derived.Deep.CutBlock
import Derived.Deep.DeepCutAuto
import Derived.Test.YtihpnplfklbgjaaDoorQd07
namespace Go.Proofs.YtihpnplfklbgjaaDoor
open Go.RowKit
set_option linter.unusedVariables false
set_option maxRecDepth 100000

theorem step_build4 {w : World} {ops : Array Oper} {o : Oper} {a : Act} {K : Act → World → Prop} {Q : Exit → Act → World → Prop} {E : Prop} (hgd : o.guard = none) (x0 x1 x2 x3 : Operand) (ho : o.op = .buildSlice 106 4 #[(0, x0), (1, x1), (2, x2), (3, x3)]) {A0 A1 A2 A3 : Option Addr} {n0 n1 n2 n3 c0 c1 c2 c3 : Nat} (h0 : a.eval x0 = .slice A0 n0 c0) (h1 : a.eval x1 = .slice A1 n1 c1) (h2 : a.eval x2 = .slice A2 n2 c2) (h3 : a.eval x3 = .slice A3 n3 c3)
    (h : ∀ g wa, w.heap.size ≤ g → Below w.heap.size w wa → Whole wa g 29 #[.slice A0 n0 c0, .slice A1 n1 c1, .slice A2 n2 c2, .slice A3 n3 c3] → K (a.put o.dst (.slice (some ⟨g, 0, none⟩) 4 4)) wa) :
    if Region.wanted o (yielded ops a.tmps) = true then Oper.wp Tryd.prog o a w K Q else E := by
  refine step_value (v := .slice (some ⟨w.heap.size, 0, none⟩) 4 4) (w' := w.alloc (.cells #[.slice A0 n0 c0, .slice A1 n1 c1, .slice A2 n2 c2, .slice A3 n3 c3] 29)) hgd ?_ (h _ _ (Nat.le_refl _) (below_box _ _) (Whole.made _ _ _))
  cases o
  subst ho
  clear h
  generalize a.eval = ev at h0 h1 h2 h3 ⊢
  simp [go_sem, h0, h1, h2, h3]
/-- What Put hands back. -/
def Putted (x : Im) (w : World) (e : Ending) (w' : World) : Prop := ∃ v, e = .returned (.tuple #[v, .int .i64 (rZ x)]) ∧ Row w' w.heap.size v (if rZ x = 0 then iputL x else []) ∧ Below w.heap.size w w'
set_option maxHeartbeats 8000000 in
theorem put_im (x : Im) (w : World) (hT : TabsU w) (h1 : x.mod.length ≤ 100000) (h2 : x.nam.length ≤ 100000) :
    Calls Tryd.prog 57 #[imV x] w (Putted x w) := by
  have H0 := Lib.hid (bx_start w x)
  have HR := Lib.hid (iright_any x _ (by omega) (by omega) (hT.below (below_box w (.cells (imC x) 52))))
  unfold Putted
  obtain ⟨z, hz⟩ : ∃ z, z = rZ x := ⟨_, rfl⟩
  rw [← hz] at HR ⊢
  by_cases h0 : z = 0
  · rw [if_pos h0]
    subst h0
    have hlen := iputL_len h1 h2 (by omega)
    have hsp : iputL x = nmL x.mod ++ nmL x.nam ++ [x.kind] ++ desL x := rfl
    have hn1 := nmL_len h1 (by omega)
    have hn2 := nmL_len h2 (by omega)
    have hn3 := desL_len x
    have HN1 := Lib.hid (fun w => name_w x.mod w h1)
    have HN2 := Lib.hid (fun w => name_w x.nam w h2)
    have HD := Lib.hid (fun w => des_im x w)
    generalize nmL x.mod = y1 at *
    generalize nmL x.nam = y2 at *
    generalize desL x = y3 at *
    have HSP := Lib.hid hsp
    have HS := Lib.hid (show 0 < y1.length + y2.length + ([x.kind] : List UInt8).length + y3.length ∧ y1.length + y2.length + ([x.kind] : List UInt8).length + y3.length ≤ 1000000 by rw [List.length_singleton]; omega)
    clear hz hT h1 h2 hlen hsp hn1 hn2 hn3
    go_enter Tryd.func57, Tryd.ntmps57
    go_upto_region 4 with (go_at_call 91; go_must ((with_reducible refine HR.out.mono ?_); rintro e w1 ⟨rfl, hb⟩; have H1 := Lib.hid (bx_on H0.out hb); clear hb))
    have hB := bx_on H1.out (Below.refl _ _).drew
    clear H0 HR H1
    refine wp_region_noPanic ?_
    refine wp_region_held_drew (S := fun W => Bx w w.heap.size x W) (by kernel_rfl) hB (fun hHeld => ?_)
    clear hB
    (refine heldTake (i := 0) (oi := { dst := some 10, op := Op.fieldAddr 52 (Operand.tmp 1) 0, type := 0, pos := "imports.go:53", after := #[], guard := none }) (v := ?_) rfl (by kernel_rfl) (by kernel_rfl) (by kernel_rfl) (by assumption) ?_ ?_; rotate_left; focus (refine .inl ⟨by kernel_rfl, ?_⟩; intro w hSw; (try dsimp only at hSw); go_simp; (try with_reducible rfl)); (try simp only [Act.put, List.setIfInBounds_toArray, List.set_cons_zero, List.set_cons_succ]))
    (refine heldTake (i := 1) (oi := { dst := some 11, op := Op.load 9 (Operand.tmp 10), type := 9, pos := "imports.go:53", after := #[{ on := 0, ground := Ground.data }], guard := none }) (v := ?_) rfl (by kernel_rfl) (by kernel_rfl) (by kernel_rfl) (by assumption) ?_ ?_; rotate_left; focus (refine .inl ⟨by kernel_rfl, ?_⟩; intro w hSw; (try dsimp only at hSw); go_simp; (try with_reducible rfl)); (try simp only [Act.put, List.setIfInBounds_toArray, List.set_cons_zero, List.set_cons_succ]))
    (refine heldTake (i := 3) (oi := { dst := some 13, op := Op.fieldAddr 52 (Operand.tmp 1) 1, type := 0, pos := "imports.go:53", after := #[], guard := none }) (v := ?_) rfl (by kernel_rfl) (by kernel_rfl) (by kernel_rfl) (by assumption) ?_ ?_; rotate_left; focus (refine .inl ⟨by kernel_rfl, ?_⟩; intro w hSw; (try dsimp only at hSw); go_simp; (try with_reducible rfl)); (try simp only [Act.put, List.setIfInBounds_toArray, List.set_cons_zero, List.set_cons_succ]))
    (refine heldTake (i := 4) (oi := { dst := some 14, op := Op.load 9 (Operand.tmp 13), type := 9, pos := "imports.go:53", after := #[{ on := 3, ground := Ground.data }], guard := none }) (v := ?_) rfl (by kernel_rfl) (by kernel_rfl) (by kernel_rfl) (by assumption) ?_ ?_; rotate_left; focus (refine .inl ⟨by kernel_rfl, ?_⟩; intro w hSw; (try dsimp only at hSw); go_simp; (try with_reducible rfl)); (try simp only [Act.put, List.setIfInBounds_toArray, List.set_cons_zero, List.set_cons_succ]))
    (refine heldTake (i := 6) (oi := { dst := some 16, op := Op.fieldAddr 52 (Operand.tmp 1) 2, type := 0, pos := "imports.go:53", after := #[], guard := none }) (v := ?_) rfl (by kernel_rfl) (by kernel_rfl) (by kernel_rfl) (by assumption) ?_ ?_; rotate_left; focus (refine .inl ⟨by kernel_rfl, ?_⟩; intro w hSw; (try dsimp only at hSw); go_simp; (try with_reducible rfl)); (try simp only [Act.put, List.setIfInBounds_toArray, List.set_cons_zero, List.set_cons_succ]))
    (refine heldTake (i := 7) (oi := { dst := some 17, op := Op.load 5 (Operand.tmp 16), type := 5, pos := "imports.go:53", after := #[{ on := 6, ground := Ground.data }], guard := none }) (v := ?_) rfl (by kernel_rfl) (by kernel_rfl) (by kernel_rfl) (by assumption) ?_ ?_; rotate_left; focus (refine .inl ⟨by kernel_rfl, ?_⟩; intro w hSw; (try dsimp only at hSw); go_simp; (try with_reducible rfl)); (try simp only [Act.put, List.setIfInBounds_toArray, List.set_cons_zero, List.set_cons_succ]))
    (refine heldTake (i := 9) (oi := { dst := some 19, op := Op.load 52 (Operand.tmp 1), type := 52, pos := "imports.go:53", after := #[], guard := none }) (v := ?_) rfl (by kernel_rfl) (by kernel_rfl) (by kernel_rfl) (by assumption) ?_ ?_; rotate_left; focus (refine .inl ⟨by kernel_rfl, ?_⟩; intro w hSw; (try dsimp only at hSw); go_simp; (try with_reducible rfl)); (try simp only [Act.put, List.setIfInBounds_toArray, List.set_cons_zero, List.set_cons_succ]))
    refine wpAnyH_ready (rs := [2, 8]) (by kernel_rfl) (by simp) ?_
    refine (AllReadyH.cons (o := { dst := some 12, op := Op.call { callee := Callee.value (Operand.func 41), args := #[Operand.tmp 11], argTypes := #[9] }, type := 29, pos := "imports.go:53", after := #[{ on := 1, ground := Ground.data }], guard := none }) rfl (fun K hK => ?_) (AllReadyH.cons (o := { dst := some 18, op := Op.buildSlice 29 1 #[(0, Operand.tmp 17)], type := 29, pos := "imports.go:53", after := #[{ on := 7, ground := Ground.data }], guard := none }) rfl (fun K hK => ?_) AllReadyH.nil))
    · go_simp
      (go_at_call 41; (with_reducible refine (HN1.out _).mono ?_); rintro e w2 ⟨v2, rfl, hr2, hb2⟩; obtain ⟨A2, c2, rfl, hp2⟩ := hr2.pc; have HB2 := Lib.hid hb2; have HP2 := Lib.hid hp2; clear hb2 hp2 hr2)
      refine hK.out _ _ (bx_on hHeld HB2.out) (fun hHeld2 => ?_)
      clear hK K hHeld
      (try simp only [Act.put, List.setIfInBounds_toArray, List.set_cons_zero, List.set_cons_succ])
      refine wpAnyH_ready (rs := [5, 8]) (by kernel_rfl) (by simp) ?_
      refine (AllReadyH.cons (o := { dst := some 15, op := Op.call { callee := Callee.value (Operand.func 41), args := #[Operand.tmp 14], argTypes := #[9] }, type := 29, pos := "imports.go:53", after := #[{ on := 4, ground := Ground.data }, { on := 2, ground := Ground.chain }], guard := none }) rfl (fun K hK => ?_) (AllReadyH.cons (o := { dst := some 18, op := Op.buildSlice 29 1 #[(0, Operand.tmp 17)], type := 29, pos := "imports.go:53", after := #[{ on := 7, ground := Ground.data }], guard := none }) rfl (fun K hK => ?_) AllReadyH.nil))
      · go_simp
        (go_at_call 41; (with_reducible refine (HN2.out _).mono ?_); rintro e w5 ⟨v5, rfl, hr5, hb5⟩; obtain ⟨A5, c5, rfl, hp5⟩ := hr5.pc; have HB5 := Lib.hid hb5; have HP5 := Lib.hid hp5; clear hb5 hp5 hr5)
        refine hK.out _ _ (bx_on hHeld2 HB5.out) (fun hHeld5 => ?_)
        clear hK K hHeld2
        (try simp only [Act.put, List.setIfInBounds_toArray, List.set_cons_zero, List.set_cons_succ])
        refine wpAnyH_ready (rs := [8, 10]) (by kernel_rfl) (by simp) ?_
        refine (AllReadyH.cons (o := { dst := some 18, op := Op.buildSlice 29 1 #[(0, Operand.tmp 17)], type := 29, pos := "imports.go:53", after := #[{ on := 7, ground := Ground.data }], guard := none }) rfl (fun K hK => ?_) (AllReadyH.cons (o := { dst := some 20, op := Op.call { callee := Callee.value (Operand.func 92), args := #[Operand.tmp 19], argTypes := #[52] }, type := 29, pos := "imports.go:53", after := #[{ on := 9, ground := Ground.data }, { on := 5, ground := Ground.chain }], guard := none }) rfl (fun K hK => ?_) AllReadyH.nil))
        · refine step_build1 rfl _ rfl x.kind rfl ?_; intro g8 wa8 hg8 hb8 hp8; have HB8 := Lib.hid hb8; have HP8 := Lib.hid hp8; clear hb8 hp8
          refine hK.out _ _ (bx_on hHeld5 HB8.out) (fun hHeld8 => ?_)
          clear hK K hHeld5
          (try simp only [Act.put, List.setIfInBounds_toArray, List.set_cons_zero, List.set_cons_succ])
          refine wpAnyH_ready (rs := [10]) (by kernel_rfl) (by simp) ?_
          refine (AllReadyH.cons (o := { dst := some 20, op := Op.call { callee := Callee.value (Operand.func 92), args := #[Operand.tmp 19], argTypes := #[52] }, type := 29, pos := "imports.go:53", after := #[{ on := 9, ground := Ground.data }, { on := 5, ground := Ground.chain }], guard := none }) rfl (fun K hK => ?_) AllReadyH.nil)
          go_simp
          (go_at_call 92; (with_reducible refine (HD.out _).mono ?_); rintro e w10 ⟨v10, rfl, hr10, hb10⟩; obtain ⟨A10, c10, rfl, hp10⟩ := hr10.pc; have HB10 := Lib.hid hb10; have HP10 := Lib.hid hp10; clear hb10 hp10 hr10)
          refine hK.out _ _ (bx_on hHeld8 HB10.out) (fun hHeld10 => ?_)
          clear hK K hHeld8
          (try simp only [Act.put, List.setIfInBounds_toArray, List.set_cons_zero, List.set_cons_succ])
          refine wpAnyH_ready (rs := [11]) (by kernel_rfl) (by simp) ?_
          refine (AllReadyH.cons (o := { dst := some 21, op := Op.buildSlice 106 4 #[(0, Operand.tmp 12), (1, Operand.tmp 15), (2, Operand.tmp 18), (3, Operand.tmp 20)], type := 106, pos := "imports.go:53", after := #[{ on := 2, ground := Ground.data }, { on := 5, ground := Ground.data }, { on := 8, ground := Ground.data }, { on := 10, ground := Ground.data }], guard := none }) rfl (fun K hK => ?_) AllReadyH.nil)
          refine step_build4 rfl _ _ _ _ rfl rfl rfl rfl rfl ?_; intro g11 wa11 hg11 hb11 hw11; have HB11 := Lib.hid hb11; have HW11 := Lib.hid hw11; clear hb11 hw11
          refine hK.out _ _ (bx_on hHeld10 HB11.out) (fun hHeld11 => ?_)
          clear hK K hHeld10
          (try simp only [Act.put, List.setIfInBounds_toArray, List.set_cons_zero, List.set_cons_succ])
          refine wpAnyH_ready (rs := [12]) (by kernel_rfl) (by simp) ?_
          refine (AllReadyH.cons (o := { dst := some 22, op := Op.call { callee := Callee.value (Operand.func 38), args := #[Operand.tmp 21], argTypes := #[106] }, type := 29, pos := "imports.go:53", after := #[{ on := 11, ground := Ground.data }, { on := 10, ground := Ground.chain }], guard := none }) rfl (fun K hK => ?_) AllReadyH.nil)
          go_simp
          (go_at_call 38; (with_reducible refine (concat4 (l3 := [x.kind]) HW11.out (((((((((HP2.out).below HB5.out)).below HB8.out)).below HB10.out)).below HB11.out)) (((((((HP5.out).below HB8.out)).below HB10.out)).below HB11.out)) (((((HP8.out).below HB10.out)).below HB11.out)) (((HP10.out).below HB11.out)) HS.out.1 HS.out.2).mono ?_); rintro e w12 ⟨v12, rfl, hr12, hb12⟩; have hz12 := hHeld11.1.2.size; have HB12 := Lib.hid hb12; have HR12 := Lib.hid hr12; clear hb12 hr12)
          refine hK.out _ _ (bx_on hHeld11 HB12.out) (fun hHeld12 => ?_)
          clear hK K hHeld11
          (try simp only [Act.put, List.setIfInBounds_toArray, List.set_cons_zero, List.set_cons_succ])
          (refine heldTake (i := 13) (oi := { dst := some 2, op := Op.assign (Operand.tmp 22), type := 29, pos := "imports.go:53", after := #[{ on := 12, ground := Ground.data }, { on := 12, ground := Ground.chain }, { on := 0, ground := Ground.phase }, { on := 1, ground := Ground.phase }, { on := 2, ground := Ground.phase }, { on := 3, ground := Ground.phase }, { on := 4, ground := Ground.phase }, { on := 5, ground := Ground.phase }, { on := 6, ground := Ground.phase }, { on := 7, ground := Ground.phase }, { on := 8, ground := Ground.phase }, { on := 9, ground := Ground.phase }, { on := 10, ground := Ground.phase }, { on := 11, ground := Ground.phase }, { on := 12, ground := Ground.phase }], guard := none }) (v := ?_) rfl (by kernel_rfl) (by kernel_rfl) (by kernel_rfl) (by assumption) ?_ ?_; rotate_left; focus (refine .inl ⟨by kernel_rfl, ?_⟩; intro w hSw; (try dsimp only at hSw); go_simp; (try with_reducible rfl)); (try simp only [Act.put, List.setIfInBounds_toArray, List.set_cons_zero, List.set_cons_succ]))
          (refine heldTake (i := 14) (oi := { dst := some 3, op := Op.assign (Operand.const (Value.int IntKind.i64 0)), type := 30, pos := "imports.go:53", after := #[{ on := 13, ground := Ground.chain }, { on := 0, ground := Ground.phase }, { on := 1, ground := Ground.phase }, { on := 2, ground := Ground.phase }, { on := 3, ground := Ground.phase }, { on := 4, ground := Ground.phase }, { on := 5, ground := Ground.phase }, { on := 6, ground := Ground.phase }, { on := 7, ground := Ground.phase }, { on := 8, ground := Ground.phase }, { on := 9, ground := Ground.phase }, { on := 10, ground := Ground.phase }, { on := 11, ground := Ground.phase }, { on := 12, ground := Ground.phase }, { on := 13, ground := Ground.phase }], guard := none }) (v := ?_) rfl (by kernel_rfl) (by kernel_rfl) (by kernel_rfl) (by assumption) ?_ ?_; rotate_left; focus (refine .inl ⟨by kernel_rfl, ?_⟩; intro w hSw; (try dsimp only at hSw); go_simp; (try with_reducible rfl)); (try simp only [Act.put, List.setIfInBounds_toArray, List.set_cons_zero, List.set_cons_succ]))
          refine wpAnyH_done (by kernel_rfl) ?_ _
          refine NoPanic.normal ?_
          have hLast := hHeld12
          clear hHeld12
          go_wp2
          go_ret2
          exact ⟨_, rfl, by rw [HSP.out]; exact HR12.out.mono hz12, hLast.1.2⟩
        · go_simp
          (go_at_call 92; (with_reducible refine (HD.out _).mono ?_); rintro e w10 ⟨v10, rfl, hr10, hb10⟩; obtain ⟨A10, c10, rfl, hp10⟩ := hr10.pc; have HB10 := Lib.hid hb10; have HP10 := Lib.hid hp10; clear hb10 hp10 hr10)
          refine hK.out _ _ (bx_on hHeld5 HB10.out) (fun hHeld10 => ?_)
          clear hK K hHeld5
          (try simp only [Act.put, List.setIfInBounds_toArray, List.set_cons_zero, List.set_cons_succ])
          refine wpAnyH_ready (rs := [8]) (by kernel_rfl) (by simp) ?_
          refine (AllReadyH.cons (o := { dst := some 18, op := Op.buildSlice 29 1 #[(0, Operand.tmp 17)], type := 29, pos := "imports.go:53", after := #[{ on := 7, ground := Ground.data }], guard := none }) rfl (fun K hK => ?_) AllReadyH.nil)
          refine step_build1 rfl _ rfl x.kind rfl ?_; intro g8 wa8 hg8 hb8 hp8; have HB8 := Lib.hid hb8; have HP8 := Lib.hid hp8; clear hb8 hp8
          refine hK.out _ _ (bx_on hHeld10 HB8.out) (fun hHeld8 => ?_)
          clear hK K hHeld10
          (try simp only [Act.put, List.setIfInBounds_toArray, List.set_cons_zero, List.set_cons_succ])
          refine wpAnyH_ready (rs := [11]) (by kernel_rfl) (by simp) ?_
          refine (AllReadyH.cons (o := { dst := some 21, op := Op.buildSlice 106 4 #[(0, Operand.tmp 12), (1, Operand.tmp 15), (2, Operand.tmp 18), (3, Operand.tmp 20)], type := 106, pos := "imports.go:53", after := #[{ on := 2, ground := Ground.data }, { on := 5, ground := Ground.data }, { on := 8, ground := Ground.data }, { on := 10, ground := Ground.data }], guard := none }) rfl (fun K hK => ?_) AllReadyH.nil)
          refine step_build4 rfl _ _ _ _ rfl rfl rfl rfl rfl ?_; intro g11 wa11 hg11 hb11 hw11; have HB11 := Lib.hid hb11; have HW11 := Lib.hid hw11; clear hb11 hw11
          refine hK.out _ _ (bx_on hHeld8 HB11.out) (fun hHeld11 => ?_)
          clear hK K hHeld8
          (try simp only [Act.put, List.setIfInBounds_toArray, List.set_cons_zero, List.set_cons_succ])
          refine wpAnyH_ready (rs := [12]) (by kernel_rfl) (by simp) ?_
          refine (AllReadyH.cons (o := { dst := some 22, op := Op.call { callee := Callee.value (Operand.func 38), args := #[Operand.tmp 21], argTypes := #[106] }, type := 29, pos := "imports.go:53", after := #[{ on := 11, ground := Ground.data }, { on := 10, ground := Ground.chain }], guard := none }) rfl (fun K hK => ?_) AllReadyH.nil)
          go_simp
          (go_at_call 38; (with_reducible refine (concat4 (l3 := [x.kind]) HW11.out (((((((((HP2.out).below HB5.out)).below HB10.out)).below HB8.out)).below HB11.out)) (((((((HP5.out).below HB10.out)).below HB8.out)).below HB11.out)) (((HP8.out).below HB11.out)) (((((HP10.out).below HB8.out)).below HB11.out)) HS.out.1 HS.out.2).mono ?_); rintro e w12 ⟨v12, rfl, hr12, hb12⟩; have hz12 := hHeld11.1.2.size; have HB12 := Lib.hid hb12; have HR12 := Lib.hid hr12; clear hb12 hr12)
          refine hK.out _ _ (bx_on hHeld11 HB12.out) (fun hHeld12 => ?_)
          clear hK K hHeld11
          (try simp only [Act.put, List.setIfInBounds_toArray, List.set_cons_zero, List.set_cons_succ])
          (refine heldTake (i := 13) (oi := { dst := some 2, op := Op.assign (Operand.tmp 22), type := 29, pos := "imports.go:53", after := #[{ on := 12, ground := Ground.data }, { on := 12, ground := Ground.chain }, { on := 0, ground := Ground.phase }, { on := 1, ground := Ground.phase }, { on := 2, ground := Ground.phase }, { on := 3, ground := Ground.phase }, { on := 4, ground := Ground.phase }, { on := 5, ground := Ground.phase }, { on := 6, ground := Ground.phase }, { on := 7, ground := Ground.phase }, { on := 8, ground := Ground.phase }, { on := 9, ground := Ground.phase }, { on := 10, ground := Ground.phase }, { on := 11, ground := Ground.phase }, { on := 12, ground := Ground.phase }], guard := none }) (v := ?_) rfl (by kernel_rfl) (by kernel_rfl) (by kernel_rfl) (by assumption) ?_ ?_; rotate_left; focus (refine .inl ⟨by kernel_rfl, ?_⟩; intro w hSw; (try dsimp only at hSw); go_simp; (try with_reducible rfl)); (try simp only [Act.put, List.setIfInBounds_toArray, List.set_cons_zero, List.set_cons_succ]))
          (refine heldTake (i := 14) (oi := { dst := some 3, op := Op.assign (Operand.const (Value.int IntKind.i64 0)), type := 30, pos := "imports.go:53", after := #[{ on := 13, ground := Ground.chain }, { on := 0, ground := Ground.phase }, { on := 1, ground := Ground.phase }, { on := 2, ground := Ground.phase }, { on := 3, ground := Ground.phase }, { on := 4, ground := Ground.phase }, { on := 5, ground := Ground.phase }, { on := 6, ground := Ground.phase }, { on := 7, ground := Ground.phase }, { on := 8, ground := Ground.phase }, { on := 9, ground := Ground.phase }, { on := 10, ground := Ground.phase }, { on := 11, ground := Ground.phase }, { on := 12, ground := Ground.phase }, { on := 13, ground := Ground.phase }], guard := none }) (v := ?_) rfl (by kernel_rfl) (by kernel_rfl) (by kernel_rfl) (by assumption) ?_ ?_; rotate_left; focus (refine .inl ⟨by kernel_rfl, ?_⟩; intro w hSw; (try dsimp only at hSw); go_simp; (try with_reducible rfl)); (try simp only [Act.put, List.setIfInBounds_toArray, List.set_cons_zero, List.set_cons_succ]))
          refine wpAnyH_done (by kernel_rfl) ?_ _
          refine NoPanic.normal ?_
          have hLast := hHeld12
          clear hHeld12
          go_wp2
          go_ret2
          exact ⟨_, rfl, by rw [HSP.out]; exact HR12.out.mono hz12, hLast.1.2⟩
      · refine step_build1 rfl _ rfl x.kind rfl ?_; intro g8 wa8 hg8 hb8 hp8; have HB8 := Lib.hid hb8; have HP8 := Lib.hid hp8; clear hb8 hp8
        refine hK.out _ _ (bx_on hHeld2 HB8.out) (fun hHeld8 => ?_)
        clear hK K hHeld2
        (try simp only [Act.put, List.setIfInBounds_toArray, List.set_cons_zero, List.set_cons_succ])
        refine wpAnyH_ready (rs := [5]) (by kernel_rfl) (by simp) ?_
        refine (AllReadyH.cons (o := { dst := some 15, op := Op.call { callee := Callee.value (Operand.func 41), args := #[Operand.tmp 14], argTypes := #[9] }, type := 29, pos := "imports.go:53", after := #[{ on := 4, ground := Ground.data }, { on := 2, ground := Ground.chain }], guard := none }) rfl (fun K hK => ?_) AllReadyH.nil)
        go_simp
        (go_at_call 41; (with_reducible refine (HN2.out _).mono ?_); rintro e w5 ⟨v5, rfl, hr5, hb5⟩; obtain ⟨A5, c5, rfl, hp5⟩ := hr5.pc; have HB5 := Lib.hid hb5; have HP5 := Lib.hid hp5; clear hb5 hp5 hr5)
        refine hK.out _ _ (bx_on hHeld8 HB5.out) (fun hHeld5 => ?_)
        clear hK K hHeld8
        (try simp only [Act.put, List.setIfInBounds_toArray, List.set_cons_zero, List.set_cons_succ])
        refine wpAnyH_ready (rs := [10]) (by kernel_rfl) (by simp) ?_
        refine (AllReadyH.cons (o := { dst := some 20, op := Op.call { callee := Callee.value (Operand.func 92), args := #[Operand.tmp 19], argTypes := #[52] }, type := 29, pos := "imports.go:53", after := #[{ on := 9, ground := Ground.data }, { on := 5, ground := Ground.chain }], guard := none }) rfl (fun K hK => ?_) AllReadyH.nil)
        go_simp
        (go_at_call 92; (with_reducible refine (HD.out _).mono ?_); rintro e w10 ⟨v10, rfl, hr10, hb10⟩; obtain ⟨A10, c10, rfl, hp10⟩ := hr10.pc; have HB10 := Lib.hid hb10; have HP10 := Lib.hid hp10; clear hb10 hp10 hr10)
        refine hK.out _ _ (bx_on hHeld5 HB10.out) (fun hHeld10 => ?_)
        clear hK K hHeld5
        (try simp only [Act.put, List.setIfInBounds_toArray, List.set_cons_zero, List.set_cons_succ])
        refine wpAnyH_ready (rs := [11]) (by kernel_rfl) (by simp) ?_
        refine (AllReadyH.cons (o := { dst := some 21, op := Op.buildSlice 106 4 #[(0, Operand.tmp 12), (1, Operand.tmp 15), (2, Operand.tmp 18), (3, Operand.tmp 20)], type := 106, pos := "imports.go:53", after := #[{ on := 2, ground := Ground.data }, { on := 5, ground := Ground.data }, { on := 8, ground := Ground.data }, { on := 10, ground := Ground.data }], guard := none }) rfl (fun K hK => ?_) AllReadyH.nil)
        refine step_build4 rfl _ _ _ _ rfl rfl rfl rfl rfl ?_; intro g11 wa11 hg11 hb11 hw11; have HB11 := Lib.hid hb11; have HW11 := Lib.hid hw11; clear hb11 hw11
        refine hK.out _ _ (bx_on hHeld10 HB11.out) (fun hHeld11 => ?_)
        clear hK K hHeld10
        (try simp only [Act.put, List.setIfInBounds_toArray, List.set_cons_zero, List.set_cons_succ])
        refine wpAnyH_ready (rs := [12]) (by kernel_rfl) (by simp) ?_
        refine (AllReadyH.cons (o := { dst := some 22, op := Op.call { callee := Callee.value (Operand.func 38), args := #[Operand.tmp 21], argTypes := #[106] }, type := 29, pos := "imports.go:53", after := #[{ on := 11, ground := Ground.data }, { on := 10, ground := Ground.chain }], guard := none }) rfl (fun K hK => ?_) AllReadyH.nil)
        go_simp
        (go_at_call 38; (with_reducible refine (concat4 (l3 := [x.kind]) HW11.out (((((((((HP2.out).below HB8.out)).below HB5.out)).below HB10.out)).below HB11.out)) (((((HP5.out).below HB10.out)).below HB11.out)) (((((((HP8.out).below HB5.out)).below HB10.out)).below HB11.out)) (((HP10.out).below HB11.out)) HS.out.1 HS.out.2).mono ?_); rintro e w12 ⟨v12, rfl, hr12, hb12⟩; have hz12 := hHeld11.1.2.size; have HB12 := Lib.hid hb12; have HR12 := Lib.hid hr12; clear hb12 hr12)
        refine hK.out _ _ (bx_on hHeld11 HB12.out) (fun hHeld12 => ?_)
        clear hK K hHeld11
        (try simp only [Act.put, List.setIfInBounds_toArray, List.set_cons_zero, List.set_cons_succ])
        (refine heldTake (i := 13) (oi := { dst := some 2, op := Op.assign (Operand.tmp 22), type := 29, pos := "imports.go:53", after := #[{ on := 12, ground := Ground.data }, { on := 12, ground := Ground.chain }, { on := 0, ground := Ground.phase }, { on := 1, ground := Ground.phase }, { on := 2, ground := Ground.phase }, { on := 3, ground := Ground.phase }, { on := 4, ground := Ground.phase }, { on := 5, ground := Ground.phase }, { on := 6, ground := Ground.phase }, { on := 7, ground := Ground.phase }, { on := 8, ground := Ground.phase }, { on := 9, ground := Ground.phase }, { on := 10, ground := Ground.phase }, { on := 11, ground := Ground.phase }, { on := 12, ground := Ground.phase }], guard := none }) (v := ?_) rfl (by kernel_rfl) (by kernel_rfl) (by kernel_rfl) (by assumption) ?_ ?_; rotate_left; focus (refine .inl ⟨by kernel_rfl, ?_⟩; intro w hSw; (try dsimp only at hSw); go_simp; (try with_reducible rfl)); (try simp only [Act.put, List.setIfInBounds_toArray, List.set_cons_zero, List.set_cons_succ]))
        (refine heldTake (i := 14) (oi := { dst := some 3, op := Op.assign (Operand.const (Value.int IntKind.i64 0)), type := 30, pos := "imports.go:53", after := #[{ on := 13, ground := Ground.chain }, { on := 0, ground := Ground.phase }, { on := 1, ground := Ground.phase }, { on := 2, ground := Ground.phase }, { on := 3, ground := Ground.phase }, { on := 4, ground := Ground.phase }, { on := 5, ground := Ground.phase }, { on := 6, ground := Ground.phase }, { on := 7, ground := Ground.phase }, { on := 8, ground := Ground.phase }, { on := 9, ground := Ground.phase }, { on := 10, ground := Ground.phase }, { on := 11, ground := Ground.phase }, { on := 12, ground := Ground.phase }, { on := 13, ground := Ground.phase }], guard := none }) (v := ?_) rfl (by kernel_rfl) (by kernel_rfl) (by kernel_rfl) (by assumption) ?_ ?_; rotate_left; focus (refine .inl ⟨by kernel_rfl, ?_⟩; intro w hSw; (try dsimp only at hSw); go_simp; (try with_reducible rfl)); (try simp only [Act.put, List.setIfInBounds_toArray, List.set_cons_zero, List.set_cons_succ]))
        refine wpAnyH_done (by kernel_rfl) ?_ _
        refine NoPanic.normal ?_
        have hLast := hHeld12
        clear hHeld12
        go_wp2
        go_ret2
        exact ⟨_, rfl, by rw [HSP.out]; exact HR12.out.mono hz12, hLast.1.2⟩
    · refine step_build1 rfl _ rfl x.kind rfl ?_; intro g8 wa8 hg8 hb8 hp8; have HB8 := Lib.hid hb8; have HP8 := Lib.hid hp8; clear hb8 hp8
      refine hK.out _ _ (bx_on hHeld HB8.out) (fun hHeld8 => ?_)
      clear hK K hHeld
      (try simp only [Act.put, List.setIfInBounds_toArray, List.set_cons_zero, List.set_cons_succ])
      refine wpAnyH_ready (rs := [2]) (by kernel_rfl) (by simp) ?_
      refine (AllReadyH.cons (o := { dst := some 12, op := Op.call { callee := Callee.value (Operand.func 41), args := #[Operand.tmp 11], argTypes := #[9] }, type := 29, pos := "imports.go:53", after := #[{ on := 1, ground := Ground.data }], guard := none }) rfl (fun K hK => ?_) AllReadyH.nil)
      go_simp
      (go_at_call 41; (with_reducible refine (HN1.out _).mono ?_); rintro e w2 ⟨v2, rfl, hr2, hb2⟩; obtain ⟨A2, c2, rfl, hp2⟩ := hr2.pc; have HB2 := Lib.hid hb2; have HP2 := Lib.hid hp2; clear hb2 hp2 hr2)
      refine hK.out _ _ (bx_on hHeld8 HB2.out) (fun hHeld2 => ?_)
      clear hK K hHeld8
      (try simp only [Act.put, List.setIfInBounds_toArray, List.set_cons_zero, List.set_cons_succ])
      refine wpAnyH_ready (rs := [5]) (by kernel_rfl) (by simp) ?_
      refine (AllReadyH.cons (o := { dst := some 15, op := Op.call { callee := Callee.value (Operand.func 41), args := #[Operand.tmp 14], argTypes := #[9] }, type := 29, pos := "imports.go:53", after := #[{ on := 4, ground := Ground.data }, { on := 2, ground := Ground.chain }], guard := none }) rfl (fun K hK => ?_) AllReadyH.nil)
      go_simp
      (go_at_call 41; (with_reducible refine (HN2.out _).mono ?_); rintro e w5 ⟨v5, rfl, hr5, hb5⟩; obtain ⟨A5, c5, rfl, hp5⟩ := hr5.pc; have HB5 := Lib.hid hb5; have HP5 := Lib.hid hp5; clear hb5 hp5 hr5)
      refine hK.out _ _ (bx_on hHeld2 HB5.out) (fun hHeld5 => ?_)
      clear hK K hHeld2
      (try simp only [Act.put, List.setIfInBounds_toArray, List.set_cons_zero, List.set_cons_succ])
      refine wpAnyH_ready (rs := [10]) (by kernel_rfl) (by simp) ?_
      refine (AllReadyH.cons (o := { dst := some 20, op := Op.call { callee := Callee.value (Operand.func 92), args := #[Operand.tmp 19], argTypes := #[52] }, type := 29, pos := "imports.go:53", after := #[{ on := 9, ground := Ground.data }, { on := 5, ground := Ground.chain }], guard := none }) rfl (fun K hK => ?_) AllReadyH.nil)
      go_simp
      (go_at_call 92; (with_reducible refine (HD.out _).mono ?_); rintro e w10 ⟨v10, rfl, hr10, hb10⟩; obtain ⟨A10, c10, rfl, hp10⟩ := hr10.pc; have HB10 := Lib.hid hb10; have HP10 := Lib.hid hp10; clear hb10 hp10 hr10)
      refine hK.out _ _ (bx_on hHeld5 HB10.out) (fun hHeld10 => ?_)
      clear hK K hHeld5
      (try simp only [Act.put, List.setIfInBounds_toArray, List.set_cons_zero, List.set_cons_succ])
      refine wpAnyH_ready (rs := [11]) (by kernel_rfl) (by simp) ?_
      refine (AllReadyH.cons (o := { dst := some 21, op := Op.buildSlice 106 4 #[(0, Operand.tmp 12), (1, Operand.tmp 15), (2, Operand.tmp 18), (3, Operand.tmp 20)], type := 106, pos := "imports.go:53", after := #[{ on := 2, ground := Ground.data }, { on := 5, ground := Ground.data }, { on := 8, ground := Ground.data }, { on := 10, ground := Ground.data }], guard := none }) rfl (fun K hK => ?_) AllReadyH.nil)
      refine step_build4 rfl _ _ _ _ rfl rfl rfl rfl rfl ?_; intro g11 wa11 hg11 hb11 hw11; have HB11 := Lib.hid hb11; have HW11 := Lib.hid hw11; clear hb11 hw11
      refine hK.out _ _ (bx_on hHeld10 HB11.out) (fun hHeld11 => ?_)
      clear hK K hHeld10
      (try simp only [Act.put, List.setIfInBounds_toArray, List.set_cons_zero, List.set_cons_succ])
      refine wpAnyH_ready (rs := [12]) (by kernel_rfl) (by simp) ?_
      refine (AllReadyH.cons (o := { dst := some 22, op := Op.call { callee := Callee.value (Operand.func 38), args := #[Operand.tmp 21], argTypes := #[106] }, type := 29, pos := "imports.go:53", after := #[{ on := 11, ground := Ground.data }, { on := 10, ground := Ground.chain }], guard := none }) rfl (fun K hK => ?_) AllReadyH.nil)
      go_simp
      (go_at_call 38; (with_reducible refine (concat4 (l3 := [x.kind]) HW11.out (((((((HP2.out).below HB5.out)).below HB10.out)).below HB11.out)) (((((HP5.out).below HB10.out)).below HB11.out)) (((((((((HP8.out).below HB2.out)).below HB5.out)).below HB10.out)).below HB11.out)) (((HP10.out).below HB11.out)) HS.out.1 HS.out.2).mono ?_); rintro e w12 ⟨v12, rfl, hr12, hb12⟩; have hz12 := hHeld11.1.2.size; have HB12 := Lib.hid hb12; have HR12 := Lib.hid hr12; clear hb12 hr12)
      refine hK.out _ _ (bx_on hHeld11 HB12.out) (fun hHeld12 => ?_)
      clear hK K hHeld11
      (try simp only [Act.put, List.setIfInBounds_toArray, List.set_cons_zero, List.set_cons_succ])
      (refine heldTake (i := 13) (oi := { dst := some 2, op := Op.assign (Operand.tmp 22), type := 29, pos := "imports.go:53", after := #[{ on := 12, ground := Ground.data }, { on := 12, ground := Ground.chain }, { on := 0, ground := Ground.phase }, { on := 1, ground := Ground.phase }, { on := 2, ground := Ground.phase }, { on := 3, ground := Ground.phase }, { on := 4, ground := Ground.phase }, { on := 5, ground := Ground.phase }, { on := 6, ground := Ground.phase }, { on := 7, ground := Ground.phase }, { on := 8, ground := Ground.phase }, { on := 9, ground := Ground.phase }, { on := 10, ground := Ground.phase }, { on := 11, ground := Ground.phase }, { on := 12, ground := Ground.phase }], guard := none }) (v := ?_) rfl (by kernel_rfl) (by kernel_rfl) (by kernel_rfl) (by assumption) ?_ ?_; rotate_left; focus (refine .inl ⟨by kernel_rfl, ?_⟩; intro w hSw; (try dsimp only at hSw); go_simp; (try with_reducible rfl)); (try simp only [Act.put, List.setIfInBounds_toArray, List.set_cons_zero, List.set_cons_succ]))
      (refine heldTake (i := 14) (oi := { dst := some 3, op := Op.assign (Operand.const (Value.int IntKind.i64 0)), type := 30, pos := "imports.go:53", after := #[{ on := 13, ground := Ground.chain }, { on := 0, ground := Ground.phase }, { on := 1, ground := Ground.phase }, { on := 2, ground := Ground.phase }, { on := 3, ground := Ground.phase }, { on := 4, ground := Ground.phase }, { on := 5, ground := Ground.phase }, { on := 6, ground := Ground.phase }, { on := 7, ground := Ground.phase }, { on := 8, ground := Ground.phase }, { on := 9, ground := Ground.phase }, { on := 10, ground := Ground.phase }, { on := 11, ground := Ground.phase }, { on := 12, ground := Ground.phase }, { on := 13, ground := Ground.phase }], guard := none }) (v := ?_) rfl (by kernel_rfl) (by kernel_rfl) (by kernel_rfl) (by assumption) ?_ ?_; rotate_left; focus (refine .inl ⟨by kernel_rfl, ?_⟩; intro w hSw; (try dsimp only at hSw); go_simp; (try with_reducible rfl)); (try simp only [Act.put, List.setIfInBounds_toArray, List.set_cons_zero, List.set_cons_succ]))
      refine wpAnyH_done (by kernel_rfl) ?_ _
      refine NoPanic.normal ?_
      have hLast := hHeld12
      clear hHeld12
      go_wp2
      go_ret2
      exact ⟨_, rfl, by rw [HSP.out]; exact HR12.out.mono hz12, hLast.1.2⟩
  · rw [if_neg h0]
    have d0 : (z != 0) = true := zb_of (by simpa using h0)
    clear h0 hz hT h1 h2
    go_enter Tryd.func57, Tryd.ntmps57
    go_wp2_with (go_at_call 91; go_must ((with_reducible refine HR.out.mono ?_); rintro e w1 ⟨rfl, hb⟩; have H1 := Lib.hid (bx_on H0.out hb); clear hb))
    go_ret2
    exact ⟨_, rfl, Row.nil _ _, bx_bel H1.out⟩
end Go.Proofs.YtihpnplfklbgjaaDoor

/- wire.Index, wire.Items of names, dylink.subsection, Put. -/
namespace Go.Proofs.YtihpnplfklbgjaaDoor
open Go.RowKit
set_option linter.unusedVariables false
set_option maxRecDepth 100000

noncomputable def nmsL (l : List (List UInt8)) : List UInt8 := l.flatMap nmL
noncomputable def ndL (l : List (List UInt8)) : List UInt8 := lebL l.length ++ nmsL l
noncomputable def memL (x : Dl) : List UInt8 := lebL x.ms.toNat ++ lebL x.ma.toNat ++ lebL x.ts.toNat ++ lebL x.ta.toNat
noncomputable def subL (n : UInt8) (c : List UInt8) : List UInt8 := [n] ++ (lebL c.length ++ c)
/-- Its bytes. -/
noncomputable def dlputL (x : Dl) : List UInt8 := if x.nd.length = 0 then subL 1 (memL x) else subL 1 (memL x) ++ subL 2 (ndL x.nd)
/-- What is tried: few names, and short ones. -/
structure FewD (l : List (List UInt8)) : Prop where
  n : l.length ≤ 40
  s : ∀ s ∈ l, s.length ≤ 300
theorem FewD.k {l : List (List UInt8)} (h : FewD l) : ∀ s ∈ l, s.length ≤ 1000000 := fun s hs => by have := h.s s hs; omega
theorem nmsL_len : ∀ {l : List (List UInt8)}, (∀ s ∈ l, s.length ≤ 300) → (nmsL l).length ≤ l.length * 310
  | [], _ => by simp [nmsL]
  | s :: r, h => by
    have h1 := nmsL_len (l := r) (fun t ht => h t (List.mem_cons_of_mem _ ht))
    have h2 := nmL_len (h s (by simp)) (by omega)
    unfold nmsL at h1 ⊢
    rw [List.flatMap_cons, List.length_append, List.length_cons]
    omega
theorem nmsL_snoc {l : List (List UInt8)} {k : Nat} {s : List UInt8} (h : l[k]? = some s) : nmsL (l.take (k + 1)) = nmsL (l.take k) ++ nmL s := by
  rw [take_at h]
  unfold nmsL
  rw [List.flatMap_append]
  simp
theorem nmsL_take {l : List (List UInt8)} (h : FewD l) (k : Nat) : (nmsL (l.take k)).length ≤ 12400 := by
  have h1 := nmsL_len (l := l.take k) (fun s hs => h.s s (List.mem_of_mem_take hs))
  have h2 : (l.take k).length ≤ 40 := by rw [List.length_take]; have := h.n; omega
  omega
theorem ndL_len {l : List (List UInt8)} (h : FewD l) : 0 < (ndL l).length ∧ (ndL l).length ≤ 12410 := by
  have h1 := nmsL_take h l.length
  rw [List.take_length] at h1
  have h2 := lebL_len (l.length : Int) (by have := h.n; omega)
  unfold ndL
  rw [List.length_append]
  omega
theorem memL_len (x : Dl) : 4 ≤ (memL x).length ∧ (memL x).length ≤ 40 := by
  have a := lebL_len (x.ms.toNat : Int) (by have := u32_le x.ms; omega)
  have b := lebL_len (x.ma.toNat : Int) (by have := u32_le x.ma; omega)
  have c := lebL_len (x.ts.toNat : Int) (by have := u32_le x.ts; omega)
  have d := lebL_len (x.ta.toNat : Int) (by have := u32_le x.ta; omega)
  unfold memL
  simp only [List.length_append]
  omega
theorem subL_len {n : UInt8} {c : List UInt8} {m : Nat} (h : c.length ≤ m) (hm : m ≤ 100000) : 1 ≤ (subL n c).length ∧ (subL n c).length ≤ m + 11 := by
  have a := lebL_len (c.length : Int) (by omega)
  unfold subL
  simp only [List.length_append, List.length_singleton]
  omega
theorem dlputL_len {x : Dl} (h : FewD x.nd) : (dlputL x).length ≤ 13000 := by
  have a := subL_len (n := 1) (memL_len x).2 (by omega)
  have b := subL_len (n := 2) (ndL_len h).2 (by omega)
  unfold dlputL
  split
  · omega
  · rw [List.length_append]; omega
theorem index_w (x : UInt32) (w : World) : Calls Tryd.prog 39 #[.int .u32 x.toNat] w (BytesL (lebL x.toNat) w) := by
  have hx := u32_le x
  have HU := Lib.hid (fun w => uintB (x.toNat : Int) w (by omega) (by omega))
  have wn : IntKind.u64.wrap (x.toNat : Int) = x.toNat := by simp [IntKind.wrap, IntKind.bits, IntKind.signed]; omega
  generalize lebL (x.toNat : Int) = y at *
  clear hx
  go_enter Tryd.func39, Tryd.ntmps39
  go_wp2_with (go_at_call 75; go_must ((with_reducible refine (HU.out _).mono ?_); intro e w1 h; obtain ⟨v, rfl, hr, hb⟩ := h; have HR := Lib.hid hr; have HB := Lib.hid hb; clear hr hb))
  go_ret
  exact ⟨_, rfl, HR.out, HB.out⟩
theorem cfNm (a : Array Value) (w : World) : (callFunc 41 a).run Tryd.prog w = .ok (.enter 41 a) w := by kernel_rfl
set_option maxHeartbeats 2000000 in
theorem items_strs {w : World} {A : Option Addr} {c : Nat} {l : List (List UInt8)} (hl : SlT w A l) (hf : FewD l) :
    Calls Tryd.prog 40 #[.slice A l.length c, .func (.func 41) #[] #[]] w (BytesL (ndL l) w) := by
  have h40 := hf.n
  have U1 := Lib.hid (size_w l.length w (by omega))
  have m1 := lebL_len (l.length : Int) (by omega)
  have hnd : ndL l = lebL l.length ++ nmsL l := rfl
  have HTK := Lib.hid (nmsL_take hf)
  have HSS := Lib.hid hf.s
  obtain ⟨n, hn⟩ : ∃ n, n = l.length := ⟨_, rfl⟩
  rw [← hn] at U1 m1 hnd h40 ⊢
  generalize lebL (n : Int) = x at *
  have HL := Lib.hid hl
  have HN := Lib.hid hn
  have HND := Lib.hid hnd
  have hcf := cfNm
  clear hl hn hnd hf
  go_enter Tryd.func40, Tryd.ntmps40
  go_wp2_with (go_at_call 76; go_must ((with_reducible refine U1.out.mono ?_); intro e w1 h; obtain ⟨v1, rfl, hr1, hb1⟩ := h; have HR1 := Lib.hid hr1; have HB1 := Lib.hid hb1; clear hr1 hb1))
  go_loopw [5, 13] (fun v i wr => ∃ k : Nat, k ≤ n ∧ i = .int .i64 k ∧ Row wr w.heap.size v (x ++ nmsL (l.take k)) ∧ Below w.heap.size w wr) (fun _ i _ => n - (intOf i).toNat)
  case atStart => exact ⟨0, Nat.zero_le _, rfl, by simpa [nmsL] using HR1.out, HB1.out⟩
  case round =>
    obtain ⟨k, hk, rfl, hr, hb⟩ := hrel
    have hz := hb.size
    by_cases hlt : k < n
    · obtain ⟨s, hd⟩ : ∃ s, l[k]? = some s := ⟨_, List.getElem?_eq_getElem (by rw [← HN.out]; exact hlt)⟩
      obtain ⟨b, off, rfl, hbl, m0⟩ := HL.out.below hb k s hd
      have hs3 := HSS.out s (List.mem_of_getElem? hd)
      have U2 := Lib.hid (fun W => name_w s W (by omega))
      have m2 := nmL_len hs3 (by omega)
      have HS := Lib.hid (nmsL_snoc hd)
      have hlen : (x ++ nmsL (l.take k)).length ≤ 20000 := by rw [List.length_append]; have := HTK.out k; omega
      have HR := Lib.hid hr
      have HB := Lib.hid hb
      obtain ⟨y, hy⟩ : ∃ y, y = nmL s := ⟨_, rfl⟩
      rw [← hy] at U2 m2 HS
      obtain ⟨t, ht⟩ : ∃ t, t = x ++ nmsL (l.take k) := ⟨_, rfl⟩
      have HT := Lib.hid ht
      rw [← ht] at hlen HR
      clear hr hb hd hy ht hs3
      go_wp2_with (first
        | (at_builtin; (refine row_any rfl _ _ rfl w.heap.size _ t rfl (HR.out.later HB2.out) A2 y.length c2 _ y rfl rfl HP2.out.lies HP2.out.nil (by omega) (Nat.le_trans hz HB2.out.size) ?_; intro v3 w3 hr3 hb3; have HR3 := Lib.hid hr3; have HB3 := Lib.hid hb3; clear hr3 hb3))
        | (go_at_call 41; go_must ((with_reducible refine (U2.out _).mono ?_); intro e w2 h; obtain ⟨v2, rfl, hr2, hb2⟩ := h; obtain ⟨A2, c2, rfl, hp2⟩ := hr2.pc; have HP2 := Lib.hid hp2; have HB2 := Lib.hid hb2; clear hr2 hp2 hb2)))
      go_roundw
      case rel => exact ⟨k + 1, by omega, by go_num, by rw [HS.out, ← List.append_assoc, ← HT.out]; exact HR3.out, (HB.out.trans (HB2.out.mono hz)).trans HB3.out⟩
      case measure => simp [intOf]; omega
    · have hkn : k = l.length := by rw [← HN.out]; omega
      rw [hkn, List.take_length, ← HND.out] at hr
      have HR := Lib.hid hr
      have HB := Lib.hid hb
      clear hr hb hkn
      go_wp2
      go_ret
      exact ⟨_, rfl, HR.out, HB.out⟩
abbrev HoldP (w : World) (A : Option Addr) (c : Nat) (l : List UInt8) (W : World) : Prop := Pc A c l W ∧ Below w.heap.size w W
theorem holdP_on {w W W' : World} {A : Option Addr} {c : Nat} {l : List UInt8} (h : HoldP w A c l W) (hb : Below W.heap.size W W') : HoldP w A c l W' := ⟨h.1.below hb, h.2.trans (hb.mono h.2.size)⟩
set_option maxHeartbeats 1600000 in
theorem subsection_w {w : World} {A : Option Addr} {c : Nat} {l : List UInt8} (n : UInt8) (hp : Pc A c l w) (hl : l.length ≤ 100000) :
    Calls Tryd.prog 37 #[.int .u8 n.toNat, .slice A l.length c] w (BytesL (subL n l) w) := by
  have HP0 := Lib.hid hp
  have hll := lebL_len (l.length : Int) (by omega)
  obtain ⟨Y, hY⟩ : ∃ Y, Y = lebL (l.length : Int) ++ l := ⟨_, rfl⟩
  have hsp : subL n l = [n] ++ Y := by unfold subL; rw [hY]
  have hYl : Y.length ≤ 100010 := by rw [hY, List.length_append]; omega
  have HZS := Lib.hid (fun W (h : Pc A c l W) => show Calls Tryd.prog 73 #[.slice A l.length c] W (BytesL Y W) from by rw [hY]; exact wsized_s h (by omega))
  rw [hsp]
  have HYL := Lib.hid hYl
  clear hsp hY hYl hp hll
  go_enter Tryd.func37, Tryd.ntmps37
  go_wp2_with (first
    | (go_at_call 73; go_must ((with_reducible refine (HZS.out _ (HP0.out.below (below_box w _))).mono ?_); rintro e w5 ⟨v5, rfl, hr5, hb5⟩; obtain ⟨A5, c5, rfl, hp5⟩ := hr5.pc; have HB3 := Lib.hid ((below_box w (.cells #[.int .u8 n.toNat] 5)).trans (hb5.mono (below_box w _).size)); have HP1 := Lib.hid (Pc.mk (l := [n]) (A := some ⟨w.heap.size, 0, none⟩) (c := 1) (Lies.more (Lies.below (lies_made w [n] (0, 0)) hb5 (Nat.le_of_eq (size_box w _).symm)) (Nat.le_trans (Nat.le_of_eq (size_box w _).symm) hb5.size)) (fun e => by cases e)); have HP3 := Lib.hid hp5; clear hb5 hp5 hr5))
    | (go_at_call 38; go_must ((with_reducible refine (concat2 (l1 := [n]) (show Whole (w5.alloc (.cells #[.slice (some ⟨w.heap.size, 0, none⟩) 1 1, .slice A5 Y.length c5] 29)) w5.heap.size 29 #[.slice (some ⟨w.heap.size, 0, none⟩) ([n] : List UInt8).length 1, .slice A5 Y.length c5] from Whole.made w5 _ _) (HP1.out.below (below_box w5 _)) (HP3.out.below (below_box w5 _)) (by have : ([n] : List UInt8).length = 1 := rfl; omega) (by have : ([n] : List UInt8).length = 1 := rfl; have := HYL.out; omega)).mono ?_); rintro e w8 ⟨v8, rfl, hr8, hb8⟩; have hz5 := HB3.out.size; have HB5 := Lib.hid ((HB3.out.trans ((below_box w5 _).mono HB3.out.size)).trans (hb8.mono (Nat.le_trans HB3.out.size (below_box w5 _).size))); have HR8 := Lib.hid (hr8.mono (Nat.le_trans HB3.out.size (below_box w5 _).size)); clear hb8 hr8)))
  go_ret
  exact ⟨_, rfl, HR8.out, HB5.out⟩
/-- Put's error. -/
noncomputable def dpZ (x : Dl) : Int := if drZ x ≠ 0 then drZ x else if x.has = true then 0 else 15
def PuttedD (x : Dl) (w : World) (e : Ending) (w' : World) : Prop := ∃ v, e = .returned (.tuple #[v, .int .i64 (dpZ x)]) ∧ Row w' w.heap.size v (if dpZ x = 0 then dlputL x else []) ∧ Below w.heap.size w w'
set_option maxHeartbeats 8000000 in
theorem put_dl {w : World} {x : Dl} {A : Option Addr} {c : Nat} (hl : SlT w A x.nd) (hf : FewD x.nd) (hnc : x.nd.length ≤ c) (hT : TabsU w) :
    Calls Tryd.prog 10 #[dlV x A c] w (PuttedD x w) := by
  have H0 := Lib.hid (bxD_start w x A c)
  have hbx := below_box w (.cells (dlC x A c) 25)
  have h40 := hf.n
  have HR := Lib.hid (right_dl (hl.below hbx) (by omega) hnc hf.k (hT.below hbx))
  have HL := Lib.hid hl
  have HFw := Lib.hid hf
  unfold PuttedD
  clear hT hbx hl
  by_cases h0 : drZ x = 0
  · by_cases hh : x.has = true
    · have hz : dpZ x = 0 := by unfold dpZ; rw [if_neg (by simpa using h0), if_pos hh]
      rw [hz, if_pos rfl]
      rw [h0] at HR
      have m0 := memL_len x
      have hsm : memL x = lebL x.ms.toNat ++ lebL x.ma.toNat ++ lebL x.ts.toNat ++ lebL x.ta.toNat := rfl
      have n1 := lebL_len (x.ms.toNat : Int) (by have := u32_le x.ms; omega)
      have n2 := lebL_len (x.ma.toNat : Int) (by have := u32_le x.ma; omega)
      have n3 := lebL_len (x.ts.toNat : Int) (by have := u32_le x.ts; omega)
      have n4 := lebL_len (x.ta.toNat : Int) (by have := u32_le x.ta; omega)
      have HI1 := Lib.hid (fun W => index_w x.ms W)
      have HI2 := Lib.hid (fun W => index_w x.ma W)
      have HI3 := Lib.hid (fun W => index_w x.ts W)
      have HI4 := Lib.hid (fun W => index_w x.ta W)
      have hdp0 : dlputL x = if x.nd.length = 0 then subL 1 (memL x) else subL 1 (memL x) ++ subL 2 (ndL x.nd) := rfl
      obtain ⟨P, hP⟩ : ∃ P, P = dlputL x := ⟨_, rfl⟩
      rw [← hP]
      have HDP := Lib.hid (hP.trans hdp0)
      clear hdp0 hP
      have HSU := Lib.hid (fun W A c (h : Pc A c (memL x) W) => show Calls Tryd.prog 37 #[.int .u8 1, .slice A (memL x).length c] W (BytesL (subL 1 (memL x)) W) from subsection_w 1 h (by omega))
      have hsl := subL_len (n := 1) m0.2 (by omega)
      obtain ⟨m, hmm⟩ : ∃ m, m = memL x := ⟨_, rfl⟩
      rw [← hmm] at HDP HSU hsl m0 hsm
      clear hmm
      obtain ⟨T, hTe⟩ : ∃ T, T = subL 1 m := ⟨_, rfl⟩
      rw [← hTe] at HSU HDP hsl
      clear hTe
      generalize lebL (x.ms.toNat : Int) = y1 at *
      generalize lebL (x.ma.toNat : Int) = y2 at *
      generalize lebL (x.ts.toNat : Int) = y3 at *
      generalize lebL (x.ta.toNat : Int) = y4 at *
      have HSM := Lib.hid hsm
      clear hsm
      have hml := congrArg List.length HSM.out
      have HSZ := Lib.hid (show 0 < y1.length + y2.length + y3.length + y4.length ∧ y1.length + y2.length + y3.length + y4.length ≤ 1000000 by omega)
      have HH := Lib.hid hh
      clear hml h0 hz n1 n2 n3 n4 m0 hf hh
      go_enter Tryd.func10, Tryd.ntmps10
      go_upto_region 6 with (go_at_call 11; go_must ((with_reducible refine HR.out.mono ?_); rintro e w1 ⟨rfl, hb⟩; have H1 := Lib.hid (bxD_on H0.out hb); have c0 := H1.out.2.1; rw [HH.out] at c0; clear hb))
      have hB := bxD_on H1.out (Below.refl _ _).drew
      clear H0 HR H1 c0
      go_cut [5] (fun v W => Row W w.heap.size v T ∧ BxD w w.heap.size x A c W)
      case first =>
        refine wp_region_noPanic ?_
        refine wp_region_held_drew (S := fun W => BxD w w.heap.size x A c W) (by kernel_rfl) hB (fun hHeld => ?_)
        clear hB
        (refine heldTake (i := 0) (oi := { dst := some 14, op := Op.fieldAddr 25 (Operand.tmp 1) 1, type := 0, pos := "dylink.go:68", after := #[], guard := none }) (v := ?_) rfl (by kernel_rfl) (by kernel_rfl) (by kernel_rfl) (by assumption) ?_ ?_; rotate_left; focus (refine .inl ⟨by kernel_rfl, ?_⟩; intro w hSw; (try dsimp only at hSw); go_simp; (try with_reducible rfl)); skip)
        (try simp only [Act.put, List.setIfInBounds_toArray, List.set_cons_zero, List.set_cons_succ])
        (refine heldTake (i := 1) (oi := { dst := some 15, op := Op.load 22 (Operand.tmp 14), type := 22, pos := "dylink.go:68", after := #[{ on := 0, ground := Ground.data }], guard := none }) (v := ?_) rfl (by kernel_rfl) (by kernel_rfl) (by kernel_rfl) (by assumption) ?_ ?_; rotate_left; focus (refine .inl ⟨by kernel_rfl, ?_⟩; intro w hSw; (try dsimp only at hSw); go_simp; (try with_reducible rfl)); skip)
        (try simp only [Act.put, List.setIfInBounds_toArray, List.set_cons_zero, List.set_cons_succ])
        (refine heldTake (i := 3) (oi := { dst := some 17, op := Op.fieldAddr 25 (Operand.tmp 1) 2, type := 0, pos := "dylink.go:68", after := #[], guard := none }) (v := ?_) rfl (by kernel_rfl) (by kernel_rfl) (by kernel_rfl) (by assumption) ?_ ?_; rotate_left; focus (refine .inl ⟨by kernel_rfl, ?_⟩; intro w hSw; (try dsimp only at hSw); go_simp; (try with_reducible rfl)); skip)
        (try simp only [Act.put, List.setIfInBounds_toArray, List.set_cons_zero, List.set_cons_succ])
        (refine heldTake (i := 4) (oi := { dst := some 18, op := Op.load 22 (Operand.tmp 17), type := 22, pos := "dylink.go:68", after := #[{ on := 3, ground := Ground.data }], guard := none }) (v := ?_) rfl (by kernel_rfl) (by kernel_rfl) (by kernel_rfl) (by assumption) ?_ ?_; rotate_left; focus (refine .inl ⟨by kernel_rfl, ?_⟩; intro w hSw; (try dsimp only at hSw); go_simp; (try with_reducible rfl)); skip)
        (try simp only [Act.put, List.setIfInBounds_toArray, List.set_cons_zero, List.set_cons_succ])
        (refine heldTake (i := 6) (oi := { dst := some 20, op := Op.fieldAddr 25 (Operand.tmp 1) 3, type := 0, pos := "dylink.go:68", after := #[], guard := none }) (v := ?_) rfl (by kernel_rfl) (by kernel_rfl) (by kernel_rfl) (by assumption) ?_ ?_; rotate_left; focus (refine .inl ⟨by kernel_rfl, ?_⟩; intro w hSw; (try dsimp only at hSw); go_simp; (try with_reducible rfl)); skip)
        (try simp only [Act.put, List.setIfInBounds_toArray, List.set_cons_zero, List.set_cons_succ])
        (refine heldTake (i := 7) (oi := { dst := some 21, op := Op.load 22 (Operand.tmp 20), type := 22, pos := "dylink.go:68", after := #[{ on := 6, ground := Ground.data }], guard := none }) (v := ?_) rfl (by kernel_rfl) (by kernel_rfl) (by kernel_rfl) (by assumption) ?_ ?_; rotate_left; focus (refine .inl ⟨by kernel_rfl, ?_⟩; intro w hSw; (try dsimp only at hSw); go_simp; (try with_reducible rfl)); skip)
        (try simp only [Act.put, List.setIfInBounds_toArray, List.set_cons_zero, List.set_cons_succ])
        (refine heldTake (i := 9) (oi := { dst := some 23, op := Op.fieldAddr 25 (Operand.tmp 1) 4, type := 0, pos := "dylink.go:68", after := #[], guard := none }) (v := ?_) rfl (by kernel_rfl) (by kernel_rfl) (by kernel_rfl) (by assumption) ?_ ?_; rotate_left; focus (refine .inl ⟨by kernel_rfl, ?_⟩; intro w hSw; (try dsimp only at hSw); go_simp; (try with_reducible rfl)); skip)
        (try simp only [Act.put, List.setIfInBounds_toArray, List.set_cons_zero, List.set_cons_succ])
        (refine heldTake (i := 10) (oi := { dst := some 24, op := Op.load 22 (Operand.tmp 23), type := 22, pos := "dylink.go:68", after := #[{ on := 9, ground := Ground.data }], guard := none }) (v := ?_) rfl (by kernel_rfl) (by kernel_rfl) (by kernel_rfl) (by assumption) ?_ ?_; rotate_left; focus (refine .inl ⟨by kernel_rfl, ?_⟩; intro w hSw; (try dsimp only at hSw); go_simp; (try with_reducible rfl)); skip)
        (try simp only [Act.put, List.setIfInBounds_toArray, List.set_cons_zero, List.set_cons_succ])
        refine wpAnyH_ready (rs := [2]) (by kernel_rfl) (by simp) ?_
        refine (AllReadyH.cons (o := { dst := some 16, op := Op.call { callee := Callee.value (Operand.func 39), args := #[Operand.tmp 15], argTypes := #[22] }, type := 29, pos := "dylink.go:68", after := #[{ on := 1, ground := Ground.data }], guard := none }) rfl (fun K hK => ?_) AllReadyH.nil)
        go_simp
        (go_at_call 39; (with_reducible refine (HI1.out _).mono ?_); rintro e w2 ⟨v2, rfl, hr2, hb2⟩; obtain ⟨A2, c2, rfl, hp2⟩ := hr2.pc; have HB2 := Lib.hid hb2; have HP2 := Lib.hid hp2; clear hb2 hp2 hr2)
        refine hK.out _ _ (bxD_on hHeld HB2.out) (fun hHeld2 => ?_)
        clear hK K hHeld
        (try simp only [Act.put, List.setIfInBounds_toArray, List.set_cons_zero, List.set_cons_succ])
        refine wpAnyH_ready (rs := [5]) (by kernel_rfl) (by simp) ?_
        refine (AllReadyH.cons (o := { dst := some 19, op := Op.call { callee := Callee.value (Operand.func 39), args := #[Operand.tmp 18], argTypes := #[22] }, type := 29, pos := "dylink.go:68", after := #[{ on := 4, ground := Ground.data }, { on := 2, ground := Ground.chain }], guard := none }) rfl (fun K hK => ?_) AllReadyH.nil)
        go_simp
        (go_at_call 39; (with_reducible refine (HI2.out _).mono ?_); rintro e w5 ⟨v5, rfl, hr5, hb5⟩; obtain ⟨A5, c5, rfl, hp5⟩ := hr5.pc; have HB5 := Lib.hid hb5; have HP5 := Lib.hid hp5; clear hb5 hp5 hr5)
        refine hK.out _ _ (bxD_on hHeld2 HB5.out) (fun hHeld5 => ?_)
        clear hK K hHeld2
        (try simp only [Act.put, List.setIfInBounds_toArray, List.set_cons_zero, List.set_cons_succ])
        refine wpAnyH_ready (rs := [8]) (by kernel_rfl) (by simp) ?_
        refine (AllReadyH.cons (o := { dst := some 22, op := Op.call { callee := Callee.value (Operand.func 39), args := #[Operand.tmp 21], argTypes := #[22] }, type := 29, pos := "dylink.go:68", after := #[{ on := 7, ground := Ground.data }, { on := 5, ground := Ground.chain }], guard := none }) rfl (fun K hK => ?_) AllReadyH.nil)
        go_simp
        (go_at_call 39; (with_reducible refine (HI3.out _).mono ?_); rintro e w8 ⟨v8, rfl, hr8, hb8⟩; obtain ⟨A8, c8, rfl, hp8⟩ := hr8.pc; have HB8 := Lib.hid hb8; have HP8 := Lib.hid hp8; clear hb8 hp8 hr8)
        refine hK.out _ _ (bxD_on hHeld5 HB8.out) (fun hHeld8 => ?_)
        clear hK K hHeld5
        (try simp only [Act.put, List.setIfInBounds_toArray, List.set_cons_zero, List.set_cons_succ])
        refine wpAnyH_ready (rs := [11]) (by kernel_rfl) (by simp) ?_
        refine (AllReadyH.cons (o := { dst := some 25, op := Op.call { callee := Callee.value (Operand.func 39), args := #[Operand.tmp 24], argTypes := #[22] }, type := 29, pos := "dylink.go:68", after := #[{ on := 10, ground := Ground.data }, { on := 8, ground := Ground.chain }], guard := none }) rfl (fun K hK => ?_) AllReadyH.nil)
        go_simp
        (go_at_call 39; (with_reducible refine (HI4.out _).mono ?_); rintro e w11 ⟨v11, rfl, hr11, hb11⟩; obtain ⟨A11, c11, rfl, hp11⟩ := hr11.pc; have HB11 := Lib.hid hb11; have HP11 := Lib.hid hp11; clear hb11 hp11 hr11)
        refine hK.out _ _ (bxD_on hHeld8 HB11.out) (fun hHeld11 => ?_)
        clear hK K hHeld8
        (try simp only [Act.put, List.setIfInBounds_toArray, List.set_cons_zero, List.set_cons_succ])
        refine wpAnyH_ready (rs := [12]) (by kernel_rfl) (by simp) ?_
        refine (AllReadyH.cons (o := { dst := some 26, op := Op.buildSlice 106 4 #[(0, Operand.tmp 16), (1, Operand.tmp 19), (2, Operand.tmp 22), (3, Operand.tmp 25)], type := 106, pos := "dylink.go:68", after := #[{ on := 2, ground := Ground.data }, { on := 5, ground := Ground.data }, { on := 8, ground := Ground.data }, { on := 11, ground := Ground.data }], guard := none }) rfl (fun K hK => ?_) AllReadyH.nil)
        refine step_build4 rfl _ _ _ _ rfl rfl rfl rfl rfl ?_; intro g12 wa12 hg12 hb12 hw12; have HB12 := Lib.hid hb12; have HW12 := Lib.hid hw12; clear hb12 hw12
        refine hK.out _ _ (bxD_on hHeld11 HB12.out) (fun hHeld12 => ?_)
        clear hK K hHeld11
        (try simp only [Act.put, List.setIfInBounds_toArray, List.set_cons_zero, List.set_cons_succ])
        refine wpAnyH_ready (rs := [13]) (by kernel_rfl) (by simp) ?_
        refine (AllReadyH.cons (o := { dst := some 27, op := Op.call { callee := Callee.value (Operand.func 38), args := #[Operand.tmp 26], argTypes := #[106] }, type := 29, pos := "dylink.go:68", after := #[{ on := 12, ground := Ground.data }, { on := 11, ground := Ground.chain }], guard := none }) rfl (fun K hK => ?_) AllReadyH.nil)
        go_simp
        (go_at_call 38; (with_reducible refine (concat4 HW12.out (((((((((HP2.out).below HB5.out)).below HB8.out)).below HB11.out)).below HB12.out)) (((((((HP5.out).below HB8.out)).below HB11.out)).below HB12.out)) (((((HP8.out).below HB11.out)).below HB12.out)) (((HP11.out).below HB12.out)) HSZ.out.1 HSZ.out.2).mono ?_); rintro e w13 ⟨v13, rfl, hr13, hb13⟩; rw [← HSM.out] at hr13; obtain ⟨A13, c13, rfl, hp13⟩ := hr13.pc; have HB13 := Lib.hid hb13; have HP13 := Lib.hid hp13; clear hb13 hr13 hp13)
        refine hK.out _ _ (bxD_on hHeld12 HB13.out) (fun hHeld13 => ?_)
        clear hK K hHeld12
        (try simp only [Act.put, List.setIfInBounds_toArray, List.set_cons_zero, List.set_cons_succ])
        refine wpAnyH_ready (rs := [14]) (by kernel_rfl) (by simp) ?_
        refine (AllReadyH.cons (o := { dst := some 28, op := Op.call { callee := Callee.value (Operand.func 37), args := #[Operand.const (Value.int IntKind.u8 1), Operand.tmp 27], argTypes := #[5, 29] }, type := 29, pos := "dylink.go:68", after := #[{ on := 13, ground := Ground.data }, { on := 13, ground := Ground.chain }], guard := none }) rfl (fun K hK => ?_) AllReadyH.nil)
        go_simp
        (go_at_call 37; (with_reducible refine (HSU.out _ _ _ (HP13.out)).mono ?_); rintro e w14 ⟨v14, rfl, hr14, hb14⟩; have hz14 := hHeld13.1.2.size; have HB14 := Lib.hid hb14; have HR14 := Lib.hid hr14; clear hb14 hr14)
        refine hK.out _ _ (bxD_on hHeld13 HB14.out) (fun hHeld14 => ?_)
        clear hK K hHeld13
        (try simp only [Act.put, List.setIfInBounds_toArray, List.set_cons_zero, List.set_cons_succ])
        (refine heldTake (i := 15) (oi := { dst := some 5, op := Op.assign (Operand.tmp 28), type := 29, pos := "dylink.go:68", after := #[{ on := 14, ground := Ground.data }, { on := 14, ground := Ground.chain }, { on := 0, ground := Ground.phase }, { on := 1, ground := Ground.phase }, { on := 2, ground := Ground.phase }, { on := 3, ground := Ground.phase }, { on := 4, ground := Ground.phase }, { on := 5, ground := Ground.phase }, { on := 6, ground := Ground.phase }, { on := 7, ground := Ground.phase }, { on := 8, ground := Ground.phase }, { on := 9, ground := Ground.phase }, { on := 10, ground := Ground.phase }, { on := 11, ground := Ground.phase }, { on := 12, ground := Ground.phase }, { on := 13, ground := Ground.phase }, { on := 14, ground := Ground.phase }], guard := none }) (v := ?_) rfl (by kernel_rfl) (by kernel_rfl) (by kernel_rfl) (by assumption) ?_ ?_; rotate_left; focus (refine .inl ⟨by kernel_rfl, ?_⟩; intro w hSw; (try dsimp only at hSw); go_simp; (try with_reducible rfl)); skip)
        (try simp only [Act.put, List.setIfInBounds_toArray, List.set_cons_zero, List.set_cons_succ])
        refine wpAnyH_done (by kernel_rfl) ?_ _
        refine NoPanic.normal ?_
        have hLast := hHeld14
        clear hHeld14
        go_wp2
        go_meet
        exact ⟨HR14.out.mono hz14, hLast⟩
      case rest =>
        obtain ⟨hrT, hbT⟩ := hcut
        have HRT := Lib.hid hrT
        have HBT := Lib.hid hbT
        obtain ⟨c0, c1, c2, c3, c4, c5⟩ := hbT.2
        clear hrT hbT hB HI1 HI2 HI3 HI4 HSU HSZ
        by_cases hn : x.nd.length = 0
        · have dn : decide (0 < x.nd.length) = false := decide_eq_false (by omega)
          have hdp := HDP.out
          rw [if_pos hn] at hdp
          have HDQ := Lib.hid hdp
          clear hn hdp
          go_wp2
          go_ret2
          exact ⟨_, rfl, by rw [HDQ.out]; exact HRT.out, bxD_bel HBT.out⟩
        · have dn : decide (0 < x.nd.length) = true := decide_eq_true (by omega)
          have hdp := HDP.out
          rw [if_neg hn] at hdp
          have HDQ := Lib.hid hdp
          clear hdp
          have nl := ndL_len HFw.out
          have HIt := Lib.hid (items_strs (c := c) (HL.out.below (bxD_bel HBT.out)) HFw.out)
          have HS2 := Lib.hid (fun W A c (h : Pc A c (ndL x.nd) W) => show Calls Tryd.prog 37 #[.int .u8 2, .slice A (ndL x.nd).length c] W (BytesL (subL 2 (ndL x.nd)) W) from subsection_w 2 h (by omega))
          have s2 := subL_len (n := 2) nl.2 (by omega)
          obtain ⟨U, hU⟩ : ∃ U, U = subL 2 (ndL x.nd) := ⟨_, rfl⟩
          rw [← hU] at HDQ HS2 s2
          obtain ⟨N, hN⟩ : ∃ N, N = ndL x.nd := ⟨_, rfl⟩
          rw [← hN] at HIt HS2 nl
          have hTU : T.length + U.length ≤ 1000000 := by omega
          clear hn nl s2 hsl HDP hU hN
          go_wp2_with (first
            | (go_at_call 40; go_must ((with_reducible refine HIt.out.mono ?_); intro e w2 hq; obtain ⟨v2, rfl, hr, hb⟩ := hq; obtain ⟨A2, cp2, rfl, hpc⟩ := hr.pc; have HP2 := Lib.hid hpc; have H2 := Lib.hid (bxD_on HBT.out hb); have HR2 := Lib.hid (HRT.out.later hb); clear hb hr hpc))
            | (go_at_call 37; go_must ((with_reducible refine (HS2.out _ _ _ HP2.out).mono ?_); intro e w3 hq; obtain ⟨v3, rfl, hr, hb⟩ := hq; obtain ⟨A3, cp3, rfl, hpc⟩ := hr.pc; have HP3 := Lib.hid hpc; have H3 := Lib.hid (bxD_on H2.out hb); have HR3 := Lib.hid (HR2.out.later hb); have hz3 := (bxD_bel H3.out).size; clear hb hr hpc))
            | (at_builtin; (refine row_any rfl _ _ rfl w.heap.size _ T rfl HR3.out A3 U.length cp3 _ U rfl rfl HP3.out.lies HP3.out.nil hTU hz3 ?_; intro v4 w4 hr4 hb4; have HR4 := Lib.hid hr4; have HB4 := Lib.hid hb4; clear hr4 hb4)))
          go_ret2
          exact ⟨_, rfl, by rw [HDQ.out]; exact HR4.out, (bxD_bel H3.out).trans HB4.out⟩
    · have hf2 : x.has = false := by simpa using hh
      have hz : dpZ x = 15 := by unfold dpZ; rw [if_neg (by simpa using h0), if_neg hh]
      rw [hz, if_neg (by decide)]
      rw [h0] at HR
      have HF2 := Lib.hid hf2
      clear h0 hz hh hf hf2
      go_enter Tryd.func10, Tryd.ntmps10
      go_wp2_with (go_at_call 11; go_must ((with_reducible refine HR.out.mono ?_); rintro e w1 ⟨rfl, hb⟩; have H1 := Lib.hid (bxD_on H0.out hb); have c0 := H1.out.2.1; rw [HF2.out] at c0; clear hb))
      go_ret2
      exact ⟨_, rfl, Row.nil _ _, bxD_bel H1.out⟩
  · have hz : dpZ x = drZ x := by unfold dpZ; rw [if_pos h0]
    rw [hz, if_neg h0]
    have d0 : (drZ x != 0) = true := zb_of (by simpa using h0)
    generalize drZ x = z at *
    clear h0 hz hf
    go_enter Tryd.func10, Tryd.ntmps10
    go_wp2_with (go_at_call 11; go_must ((with_reducible refine HR.out.mono ?_); rintro e w1 ⟨rfl, hb⟩; have H1 := Lib.hid (bxD_on H0.out hb); clear hb))
    go_ret2
    exact ⟨_, rfl, Row.nil _ _, bxD_bel H1.out⟩
end Go.Proofs.YtihpnplfklbgjaaDoor
