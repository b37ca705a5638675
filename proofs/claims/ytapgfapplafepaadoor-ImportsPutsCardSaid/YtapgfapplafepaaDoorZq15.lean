/- imports.Put. -/
import Derived.Test.YtapgfapplafepaaDoorZq14
import Derived.Test.YtapgfapplafepaaDoorZq09
import Derived.Deep.CutBlock
import Derived.Deep.DeepCutAuto
import Derived.OwnWalk
namespace Go.Proofs.YtapgfapplafepaaDoor
open Go.RowKit
set_option linter.unusedVariables false
set_option maxRecDepth 100000

theorem step_build4 {w : World} {ops : Array Oper} {o : Oper} {a : Act} {K : Act → World → Prop} {Q : Exit → Act → World → Prop} {E : Prop} (hgd : o.guard = none) (x0 x1 x2 x3 : Operand) (ho : o.op = .buildSlice 118 4 #[(0, x0), (1, x1), (2, x2), (3, x3)]) {A0 A1 A2 A3 : Option Addr} {n0 n1 n2 n3 c0 c1 c2 c3 : Nat} (h0 : a.eval x0 = .slice A0 n0 c0) (h1 : a.eval x1 = .slice A1 n1 c1) (h2 : a.eval x2 = .slice A2 n2 c2) (h3 : a.eval x3 = .slice A3 n3 c3)
    (h : ∀ g wa, w.heap.size ≤ g → Below w.heap.size w wa → Whole wa g 31 #[.slice A0 n0 c0, .slice A1 n1 c1, .slice A2 n2 c2, .slice A3 n3 c3] → K (a.put o.dst (.slice (some ⟨g, 0, none⟩) 4 4)) wa) :
    if Region.wanted o (yielded ops a.tmps) = true then Oper.wp Tryd.prog o a w K Q else E := by
  refine step_value (v := .slice (some ⟨w.heap.size, 0, none⟩) 4 4) (w' := w.alloc (.cells #[.slice A0 n0 c0, .slice A1 n1 c1, .slice A2 n2 c2, .slice A3 n3 c3] 31)) hgd ?_ (h _ _ (Nat.le_refl _) (below_box _ _) (Whole.made _ _ _))
  cases o
  subst ho
  clear h
  generalize a.eval = ev at h0 h1 h2 h3 ⊢
  simp [go_sem, h0, h1, h2, h3]
/-- What Put hands back. -/
def Putted (x : Im) (w : World) (e : Ending) (w' : World) : Prop := ∃ v, e = .returned (.tuple #[v, .int .i64 (rZ x)]) ∧ Row w' w.heap.size v (if rZ x = 0 then iputL x else []) ∧ Below w.heap.size w w'
set_option maxHeartbeats 8000000 in
theorem put_im (x : Im) (w : World) (hT : Tabs w) (h1 : x.mod.length ≤ 100000) (h2 : x.nam.length ≤ 100000) :
    Calls Tryd.prog 11 #[imV x] w (Putted x w) := by
  have H0 := Lib.hid (bx_start w x)
  have HR := Lib.hid (iright_any x _ (by omega) (by omega) (hT.below (below_box w (.cells (imC x) 28))))
  unfold Putted
  obtain ⟨z, hz⟩ : ∃ z, z = rZ x := ⟨_, rfl⟩
  rw [← hz] at HR ⊢
  by_cases h0 : z = 0
  · rw [if_pos h0]
    subst h0
    have hlen := iputL_len h1 h2 (by omega)
    have hsp : iputL x = nmL x.mod ++ nmL x.nam ++ [x.kind] ++ desL x := rfl
    have hn1 := nmL_len h1 (by omega)
    have hn2 := nmL_len h2 (by omega)
    have hn3 := desL_len x
    have HN1 := Lib.hid (fun w => name_w x.mod w h1)
    have HN2 := Lib.hid (fun w => name_w x.nam w h2)
    have HD := Lib.hid (fun w => des_im x w)
    generalize nmL x.mod = y1 at *
    generalize nmL x.nam = y2 at *
    generalize desL x = y3 at *
    have HSP := Lib.hid hsp
    have HS := Lib.hid (show 0 < y1.length + y2.length + ([x.kind] : List UInt8).length + y3.length ∧ y1.length + y2.length + ([x.kind] : List UInt8).length + y3.length ≤ 1000000 by rw [List.length_singleton]; omega)
    clear hz hT h1 h2 hlen hsp hn1 hn2 hn3
    go_enter Tryd.func11, Tryd.ntmps11
    go_upto_region 4 with (go_at_call 12; go_must ((with_reducible refine HR.out.mono ?_); rintro e w1 ⟨rfl, hb⟩; have H1 := Lib.hid (bx_on H0.out hb); clear hb))
    have hB := bx_on H1.out (Below.refl _ _).drew
    clear H0 HR H1
    refine wp_region_noPanic ?_
    refine wp_region_held_drew (S := fun W => Bx w w.heap.size x W) (by kernel_rfl) hB (fun hHeld => ?_)
    clear hB
    (refine heldTake (i := 0) (oi := { dst := some 10, op := Op.fieldAddr 28 (Operand.tmp 1) 0, type := 0, pos := "imports.go:53", after := #[], guard := none }) (v := ?_) rfl (by kernel_rfl) (by kernel_rfl) (by kernel_rfl) (by assumption) ?_ ?_; rotate_left; focus (refine .inl ⟨by kernel_rfl, ?_⟩; intro w hSw; (try dsimp only at hSw); go_simp; (try with_reducible rfl)); (try simp only [Act.put, List.setIfInBounds_toArray, List.set_cons_zero, List.set_cons_succ]))
    (refine heldTake (i := 1) (oi := { dst := some 11, op := Op.load 9 (Operand.tmp 10), type := 9, pos := "imports.go:53", after := #[{ on := 0, ground := Ground.data }], guard := none }) (v := ?_) rfl (by kernel_rfl) (by kernel_rfl) (by kernel_rfl) (by assumption) ?_ ?_; rotate_left; focus (refine .inl ⟨by kernel_rfl, ?_⟩; intro w hSw; (try dsimp only at hSw); go_simp; (try with_reducible rfl)); (try simp only [Act.put, List.setIfInBounds_toArray, List.set_cons_zero, List.set_cons_succ]))
    (refine heldTake (i := 3) (oi := { dst := some 13, op := Op.fieldAddr 28 (Operand.tmp 1) 1, type := 0, pos := "imports.go:53", after := #[], guard := none }) (v := ?_) rfl (by kernel_rfl) (by kernel_rfl) (by kernel_rfl) (by assumption) ?_ ?_; rotate_left; focus (refine .inl ⟨by kernel_rfl, ?_⟩; intro w hSw; (try dsimp only at hSw); go_simp; (try with_reducible rfl)); (try simp only [Act.put, List.setIfInBounds_toArray, List.set_cons_zero, List.set_cons_succ]))
    (refine heldTake (i := 4) (oi := { dst := some 14, op := Op.load 9 (Operand.tmp 13), type := 9, pos := "imports.go:53", after := #[{ on := 3, ground := Ground.data }], guard := none }) (v := ?_) rfl (by kernel_rfl) (by kernel_rfl) (by kernel_rfl) (by assumption) ?_ ?_; rotate_left; focus (refine .inl ⟨by kernel_rfl, ?_⟩; intro w hSw; (try dsimp only at hSw); go_simp; (try with_reducible rfl)); (try simp only [Act.put, List.setIfInBounds_toArray, List.set_cons_zero, List.set_cons_succ]))
    (refine heldTake (i := 6) (oi := { dst := some 16, op := Op.fieldAddr 28 (Operand.tmp 1) 2, type := 0, pos := "imports.go:53", after := #[], guard := none }) (v := ?_) rfl (by kernel_rfl) (by kernel_rfl) (by kernel_rfl) (by assumption) ?_ ?_; rotate_left; focus (refine .inl ⟨by kernel_rfl, ?_⟩; intro w hSw; (try dsimp only at hSw); go_simp; (try with_reducible rfl)); (try simp only [Act.put, List.setIfInBounds_toArray, List.set_cons_zero, List.set_cons_succ]))
    (refine heldTake (i := 7) (oi := { dst := some 17, op := Op.load 5 (Operand.tmp 16), type := 5, pos := "imports.go:53", after := #[{ on := 6, ground := Ground.data }], guard := none }) (v := ?_) rfl (by kernel_rfl) (by kernel_rfl) (by kernel_rfl) (by assumption) ?_ ?_; rotate_left; focus (refine .inl ⟨by kernel_rfl, ?_⟩; intro w hSw; (try dsimp only at hSw); go_simp; (try with_reducible rfl)); (try simp only [Act.put, List.setIfInBounds_toArray, List.set_cons_zero, List.set_cons_succ]))
    (refine heldTake (i := 9) (oi := { dst := some 19, op := Op.load 28 (Operand.tmp 1), type := 28, pos := "imports.go:53", after := #[], guard := none }) (v := ?_) rfl (by kernel_rfl) (by kernel_rfl) (by kernel_rfl) (by assumption) ?_ ?_; rotate_left; focus (refine .inl ⟨by kernel_rfl, ?_⟩; intro w hSw; (try dsimp only at hSw); go_simp; (try with_reducible rfl)); (try simp only [Act.put, List.setIfInBounds_toArray, List.set_cons_zero, List.set_cons_succ]))
    refine wpAnyH_ready (rs := [2, 8]) (by kernel_rfl) (by simp) ?_
    refine (AllReadyH.cons (o := { dst := some 12, op := Op.call { callee := Callee.value (Operand.func 51), args := #[Operand.tmp 11], argTypes := #[9] }, type := 31, pos := "imports.go:53", after := #[{ on := 1, ground := Ground.data }], guard := none }) rfl (fun K hK => ?_) (AllReadyH.cons (o := { dst := some 18, op := Op.buildSlice 31 1 #[(0, Operand.tmp 17)], type := 31, pos := "imports.go:53", after := #[{ on := 7, ground := Ground.data }], guard := none }) rfl (fun K hK => ?_) AllReadyH.nil))
    · go_simp
      (go_at_call 51; (with_reducible refine (HN1.out _).mono ?_); rintro e w2 ⟨v2, rfl, hr2, hb2⟩; obtain ⟨A2, c2, rfl, hp2⟩ := hr2.pc; have HB2 := Lib.hid hb2; have HP2 := Lib.hid hp2; clear hb2 hp2 hr2)
      refine hK.out _ _ (bx_on hHeld HB2.out) (fun hHeld2 => ?_)
      clear hK K hHeld
      (try simp only [Act.put, List.setIfInBounds_toArray, List.set_cons_zero, List.set_cons_succ])
      refine wpAnyH_ready (rs := [5, 8]) (by kernel_rfl) (by simp) ?_
      refine (AllReadyH.cons (o := { dst := some 15, op := Op.call { callee := Callee.value (Operand.func 51), args := #[Operand.tmp 14], argTypes := #[9] }, type := 31, pos := "imports.go:53", after := #[{ on := 4, ground := Ground.data }, { on := 2, ground := Ground.chain }], guard := none }) rfl (fun K hK => ?_) (AllReadyH.cons (o := { dst := some 18, op := Op.buildSlice 31 1 #[(0, Operand.tmp 17)], type := 31, pos := "imports.go:53", after := #[{ on := 7, ground := Ground.data }], guard := none }) rfl (fun K hK => ?_) AllReadyH.nil))
      · go_simp
        (go_at_call 51; (with_reducible refine (HN2.out _).mono ?_); rintro e w5 ⟨v5, rfl, hr5, hb5⟩; obtain ⟨A5, c5, rfl, hp5⟩ := hr5.pc; have HB5 := Lib.hid hb5; have HP5 := Lib.hid hp5; clear hb5 hp5 hr5)
        refine hK.out _ _ (bx_on hHeld2 HB5.out) (fun hHeld5 => ?_)
        clear hK K hHeld2
        (try simp only [Act.put, List.setIfInBounds_toArray, List.set_cons_zero, List.set_cons_succ])
        refine wpAnyH_ready (rs := [8, 10]) (by kernel_rfl) (by simp) ?_
        refine (AllReadyH.cons (o := { dst := some 18, op := Op.buildSlice 31 1 #[(0, Operand.tmp 17)], type := 31, pos := "imports.go:53", after := #[{ on := 7, ground := Ground.data }], guard := none }) rfl (fun K hK => ?_) (AllReadyH.cons (o := { dst := some 20, op := Op.call { callee := Callee.value (Operand.func 52), args := #[Operand.tmp 19], argTypes := #[28] }, type := 31, pos := "imports.go:53", after := #[{ on := 9, ground := Ground.data }, { on := 5, ground := Ground.chain }], guard := none }) rfl (fun K hK => ?_) AllReadyH.nil))
        · refine step_build1 rfl _ rfl x.kind rfl ?_; intro g8 wa8 hg8 hb8 hp8; have HB8 := Lib.hid hb8; have HP8 := Lib.hid hp8; clear hb8 hp8
          refine hK.out _ _ (bx_on hHeld5 HB8.out) (fun hHeld8 => ?_)
          clear hK K hHeld5
          (try simp only [Act.put, List.setIfInBounds_toArray, List.set_cons_zero, List.set_cons_succ])
          refine wpAnyH_ready (rs := [10]) (by kernel_rfl) (by simp) ?_
          refine (AllReadyH.cons (o := { dst := some 20, op := Op.call { callee := Callee.value (Operand.func 52), args := #[Operand.tmp 19], argTypes := #[28] }, type := 31, pos := "imports.go:53", after := #[{ on := 9, ground := Ground.data }, { on := 5, ground := Ground.chain }], guard := none }) rfl (fun K hK => ?_) AllReadyH.nil)
          go_simp
          (go_at_call 52; (with_reducible refine (HD.out _).mono ?_); rintro e w10 ⟨v10, rfl, hr10, hb10⟩; obtain ⟨A10, c10, rfl, hp10⟩ := hr10.pc; have HB10 := Lib.hid hb10; have HP10 := Lib.hid hp10; clear hb10 hp10 hr10)
          refine hK.out _ _ (bx_on hHeld8 HB10.out) (fun hHeld10 => ?_)
          clear hK K hHeld8
          (try simp only [Act.put, List.setIfInBounds_toArray, List.set_cons_zero, List.set_cons_succ])
          refine wpAnyH_ready (rs := [11]) (by kernel_rfl) (by simp) ?_
          refine (AllReadyH.cons (o := { dst := some 21, op := Op.buildSlice 118 4 #[(0, Operand.tmp 12), (1, Operand.tmp 15), (2, Operand.tmp 18), (3, Operand.tmp 20)], type := 118, pos := "imports.go:53", after := #[{ on := 2, ground := Ground.data }, { on := 5, ground := Ground.data }, { on := 8, ground := Ground.data }, { on := 10, ground := Ground.data }], guard := none }) rfl (fun K hK => ?_) AllReadyH.nil)
          refine step_build4 rfl _ _ _ _ rfl rfl rfl rfl rfl ?_; intro g11 wa11 hg11 hb11 hw11; have HB11 := Lib.hid hb11; have HW11 := Lib.hid hw11; clear hb11 hw11
          refine hK.out _ _ (bx_on hHeld10 HB11.out) (fun hHeld11 => ?_)
          clear hK K hHeld10
          (try simp only [Act.put, List.setIfInBounds_toArray, List.set_cons_zero, List.set_cons_succ])
          refine wpAnyH_ready (rs := [12]) (by kernel_rfl) (by simp) ?_
          refine (AllReadyH.cons (o := { dst := some 22, op := Op.call { callee := Callee.value (Operand.func 50), args := #[Operand.tmp 21], argTypes := #[118] }, type := 31, pos := "imports.go:53", after := #[{ on := 11, ground := Ground.data }, { on := 10, ground := Ground.chain }], guard := none }) rfl (fun K hK => ?_) AllReadyH.nil)
          go_simp
          (go_at_call 50; (with_reducible refine (concat4 (l3 := [x.kind]) HW11.out (((((((((HP2.out).below HB5.out)).below HB8.out)).below HB10.out)).below HB11.out)) (((((((HP5.out).below HB8.out)).below HB10.out)).below HB11.out)) (((((HP8.out).below HB10.out)).below HB11.out)) (((HP10.out).below HB11.out)) HS.out.1 HS.out.2).mono ?_); rintro e w12 ⟨v12, rfl, hr12, hb12⟩; have hz12 := hHeld11.1.2.size; have HB12 := Lib.hid hb12; have HR12 := Lib.hid hr12; clear hb12 hr12)
          refine hK.out _ _ (bx_on hHeld11 HB12.out) (fun hHeld12 => ?_)
          clear hK K hHeld11
          (try simp only [Act.put, List.setIfInBounds_toArray, List.set_cons_zero, List.set_cons_succ])
          (refine heldTake (i := 13) (oi := { dst := some 2, op := Op.assign (Operand.tmp 22), type := 31, pos := "imports.go:53", after := #[{ on := 12, ground := Ground.data }, { on := 12, ground := Ground.chain }, { on := 0, ground := Ground.phase }, { on := 1, ground := Ground.phase }, { on := 2, ground := Ground.phase }, { on := 3, ground := Ground.phase }, { on := 4, ground := Ground.phase }, { on := 5, ground := Ground.phase }, { on := 6, ground := Ground.phase }, { on := 7, ground := Ground.phase }, { on := 8, ground := Ground.phase }, { on := 9, ground := Ground.phase }, { on := 10, ground := Ground.phase }, { on := 11, ground := Ground.phase }, { on := 12, ground := Ground.phase }], guard := none }) (v := ?_) rfl (by kernel_rfl) (by kernel_rfl) (by kernel_rfl) (by assumption) ?_ ?_; rotate_left; focus (refine .inl ⟨by kernel_rfl, ?_⟩; intro w hSw; (try dsimp only at hSw); go_simp; (try with_reducible rfl)); (try simp only [Act.put, List.setIfInBounds_toArray, List.set_cons_zero, List.set_cons_succ]))
          (refine heldTake (i := 14) (oi := { dst := some 3, op := Op.assign (Operand.const (Value.int IntKind.i64 0)), type := 32, pos := "imports.go:53", after := #[{ on := 13, ground := Ground.chain }, { on := 0, ground := Ground.phase }, { on := 1, ground := Ground.phase }, { on := 2, ground := Ground.phase }, { on := 3, ground := Ground.phase }, { on := 4, ground := Ground.phase }, { on := 5, ground := Ground.phase }, { on := 6, ground := Ground.phase }, { on := 7, ground := Ground.phase }, { on := 8, ground := Ground.phase }, { on := 9, ground := Ground.phase }, { on := 10, ground := Ground.phase }, { on := 11, ground := Ground.phase }, { on := 12, ground := Ground.phase }, { on := 13, ground := Ground.phase }], guard := none }) (v := ?_) rfl (by kernel_rfl) (by kernel_rfl) (by kernel_rfl) (by assumption) ?_ ?_; rotate_left; focus (refine .inl ⟨by kernel_rfl, ?_⟩; intro w hSw; (try dsimp only at hSw); go_simp; (try with_reducible rfl)); (try simp only [Act.put, List.setIfInBounds_toArray, List.set_cons_zero, List.set_cons_succ]))
          refine wpAnyH_done (by kernel_rfl) ?_ _
          refine NoPanic.normal ?_
          have hLast := hHeld12
          clear hHeld12
          go_wp2
          go_ret2
          exact ⟨_, rfl, by rw [HSP.out]; exact HR12.out.mono hz12, hLast.1.2⟩
        · go_simp
          (go_at_call 52; (with_reducible refine (HD.out _).mono ?_); rintro e w10 ⟨v10, rfl, hr10, hb10⟩; obtain ⟨A10, c10, rfl, hp10⟩ := hr10.pc; have HB10 := Lib.hid hb10; have HP10 := Lib.hid hp10; clear hb10 hp10 hr10)
          refine hK.out _ _ (bx_on hHeld5 HB10.out) (fun hHeld10 => ?_)
          clear hK K hHeld5
          (try simp only [Act.put, List.setIfInBounds_toArray, List.set_cons_zero, List.set_cons_succ])
          refine wpAnyH_ready (rs := [8]) (by kernel_rfl) (by simp) ?_
          refine (AllReadyH.cons (o := { dst := some 18, op := Op.buildSlice 31 1 #[(0, Operand.tmp 17)], type := 31, pos := "imports.go:53", after := #[{ on := 7, ground := Ground.data }], guard := none }) rfl (fun K hK => ?_) AllReadyH.nil)
          refine step_build1 rfl _ rfl x.kind rfl ?_; intro g8 wa8 hg8 hb8 hp8; have HB8 := Lib.hid hb8; have HP8 := Lib.hid hp8; clear hb8 hp8
          refine hK.out _ _ (bx_on hHeld10 HB8.out) (fun hHeld8 => ?_)
          clear hK K hHeld10
          (try simp only [Act.put, List.setIfInBounds_toArray, List.set_cons_zero, List.set_cons_succ])
          refine wpAnyH_ready (rs := [11]) (by kernel_rfl) (by simp) ?_
          refine (AllReadyH.cons (o := { dst := some 21, op := Op.buildSlice 118 4 #[(0, Operand.tmp 12), (1, Operand.tmp 15), (2, Operand.tmp 18), (3, Operand.tmp 20)], type := 118, pos := "imports.go:53", after := #[{ on := 2, ground := Ground.data }, { on := 5, ground := Ground.data }, { on := 8, ground := Ground.data }, { on := 10, ground := Ground.data }], guard := none }) rfl (fun K hK => ?_) AllReadyH.nil)
          refine step_build4 rfl _ _ _ _ rfl rfl rfl rfl rfl ?_; intro g11 wa11 hg11 hb11 hw11; have HB11 := Lib.hid hb11; have HW11 := Lib.hid hw11; clear hb11 hw11
          refine hK.out _ _ (bx_on hHeld8 HB11.out) (fun hHeld11 => ?_)
          clear hK K hHeld8
          (try simp only [Act.put, List.setIfInBounds_toArray, List.set_cons_zero, List.set_cons_succ])
          refine wpAnyH_ready (rs := [12]) (by kernel_rfl) (by simp) ?_
          refine (AllReadyH.cons (o := { dst := some 22, op := Op.call { callee := Callee.value (Operand.func 50), args := #[Operand.tmp 21], argTypes := #[118] }, type := 31, pos := "imports.go:53", after := #[{ on := 11, ground := Ground.data }, { on := 10, ground := Ground.chain }], guard := none }) rfl (fun K hK => ?_) AllReadyH.nil)
          go_simp
          (go_at_call 50; (with_reducible refine (concat4 (l3 := [x.kind]) HW11.out (((((((((HP2.out).below HB5.out)).below HB10.out)).below HB8.out)).below HB11.out)) (((((((HP5.out).below HB10.out)).below HB8.out)).below HB11.out)) (((HP8.out).below HB11.out)) (((((HP10.out).below HB8.out)).below HB11.out)) HS.out.1 HS.out.2).mono ?_); rintro e w12 ⟨v12, rfl, hr12, hb12⟩; have hz12 := hHeld11.1.2.size; have HB12 := Lib.hid hb12; have HR12 := Lib.hid hr12; clear hb12 hr12)
          refine hK.out _ _ (bx_on hHeld11 HB12.out) (fun hHeld12 => ?_)
          clear hK K hHeld11
          (try simp only [Act.put, List.setIfInBounds_toArray, List.set_cons_zero, List.set_cons_succ])
          (refine heldTake (i := 13) (oi := { dst := some 2, op := Op.assign (Operand.tmp 22), type := 31, pos := "imports.go:53", after := #[{ on := 12, ground := Ground.data }, { on := 12, ground := Ground.chain }, { on := 0, ground := Ground.phase }, { on := 1, ground := Ground.phase }, { on := 2, ground := Ground.phase }, { on := 3, ground := Ground.phase }, { on := 4, ground := Ground.phase }, { on := 5, ground := Ground.phase }, { on := 6, ground := Ground.phase }, { on := 7, ground := Ground.phase }, { on := 8, ground := Ground.phase }, { on := 9, ground := Ground.phase }, { on := 10, ground := Ground.phase }, { on := 11, ground := Ground.phase }, { on := 12, ground := Ground.phase }], guard := none }) (v := ?_) rfl (by kernel_rfl) (by kernel_rfl) (by kernel_rfl) (by assumption) ?_ ?_; rotate_left; focus (refine .inl ⟨by kernel_rfl, ?_⟩; intro w hSw; (try dsimp only at hSw); go_simp; (try with_reducible rfl)); (try simp only [Act.put, List.setIfInBounds_toArray, List.set_cons_zero, List.set_cons_succ]))
          (refine heldTake (i := 14) (oi := { dst := some 3, op := Op.assign (Operand.const (Value.int IntKind.i64 0)), type := 32, pos := "imports.go:53", after := #[{ on := 13, ground := Ground.chain }, { on := 0, ground := Ground.phase }, { on := 1, ground := Ground.phase }, { on := 2, ground := Ground.phase }, { on := 3, ground := Ground.phase }, { on := 4, ground := Ground.phase }, { on := 5, ground := Ground.phase }, { on := 6, ground := Ground.phase }, { on := 7, ground := Ground.phase }, { on := 8, ground := Ground.phase }, { on := 9, ground := Ground.phase }, { on := 10, ground := Ground.phase }, { on := 11, ground := Ground.phase }, { on := 12, ground := Ground.phase }, { on := 13, ground := Ground.phase }], guard := none }) (v := ?_) rfl (by kernel_rfl) (by kernel_rfl) (by kernel_rfl) (by assumption) ?_ ?_; rotate_left; focus (refine .inl ⟨by kernel_rfl, ?_⟩; intro w hSw; (try dsimp only at hSw); go_simp; (try with_reducible rfl)); (try simp only [Act.put, List.setIfInBounds_toArray, List.set_cons_zero, List.set_cons_succ]))
          refine wpAnyH_done (by kernel_rfl) ?_ _
          refine NoPanic.normal ?_
          have hLast := hHeld12
          clear hHeld12
          go_wp2
          go_ret2
          exact ⟨_, rfl, by rw [HSP.out]; exact HR12.out.mono hz12, hLast.1.2⟩
      · refine step_build1 rfl _ rfl x.kind rfl ?_; intro g8 wa8 hg8 hb8 hp8; have HB8 := Lib.hid hb8; have HP8 := Lib.hid hp8; clear hb8 hp8
        refine hK.out _ _ (bx_on hHeld2 HB8.out) (fun hHeld8 => ?_)
        clear hK K hHeld2
        (try simp only [Act.put, List.setIfInBounds_toArray, List.set_cons_zero, List.set_cons_succ])
        refine wpAnyH_ready (rs := [5]) (by kernel_rfl) (by simp) ?_
        refine (AllReadyH.cons (o := { dst := some 15, op := Op.call { callee := Callee.value (Operand.func 51), args := #[Operand.tmp 14], argTypes := #[9] }, type := 31, pos := "imports.go:53", after := #[{ on := 4, ground := Ground.data }, { on := 2, ground := Ground.chain }], guard := none }) rfl (fun K hK => ?_) AllReadyH.nil)
        go_simp
        (go_at_call 51; (with_reducible refine (HN2.out _).mono ?_); rintro e w5 ⟨v5, rfl, hr5, hb5⟩; obtain ⟨A5, c5, rfl, hp5⟩ := hr5.pc; have HB5 := Lib.hid hb5; have HP5 := Lib.hid hp5; clear hb5 hp5 hr5)
        refine hK.out _ _ (bx_on hHeld8 HB5.out) (fun hHeld5 => ?_)
        clear hK K hHeld8
        (try simp only [Act.put, List.setIfInBounds_toArray, List.set_cons_zero, List.set_cons_succ])
        refine wpAnyH_ready (rs := [10]) (by kernel_rfl) (by simp) ?_
        refine (AllReadyH.cons (o := { dst := some 20, op := Op.call { callee := Callee.value (Operand.func 52), args := #[Operand.tmp 19], argTypes := #[28] }, type := 31, pos := "imports.go:53", after := #[{ on := 9, ground := Ground.data }, { on := 5, ground := Ground.chain }], guard := none }) rfl (fun K hK => ?_) AllReadyH.nil)
        go_simp
        (go_at_call 52; (with_reducible refine (HD.out _).mono ?_); rintro e w10 ⟨v10, rfl, hr10, hb10⟩; obtain ⟨A10, c10, rfl, hp10⟩ := hr10.pc; have HB10 := Lib.hid hb10; have HP10 := Lib.hid hp10; clear hb10 hp10 hr10)
        refine hK.out _ _ (bx_on hHeld5 HB10.out) (fun hHeld10 => ?_)
        clear hK K hHeld5
        (try simp only [Act.put, List.setIfInBounds_toArray, List.set_cons_zero, List.set_cons_succ])
        refine wpAnyH_ready (rs := [11]) (by kernel_rfl) (by simp) ?_
        refine (AllReadyH.cons (o := { dst := some 21, op := Op.buildSlice 118 4 #[(0, Operand.tmp 12), (1, Operand.tmp 15), (2, Operand.tmp 18), (3, Operand.tmp 20)], type := 118, pos := "imports.go:53", after := #[{ on := 2, ground := Ground.data }, { on := 5, ground := Ground.data }, { on := 8, ground := Ground.data }, { on := 10, ground := Ground.data }], guard := none }) rfl (fun K hK => ?_) AllReadyH.nil)
        refine step_build4 rfl _ _ _ _ rfl rfl rfl rfl rfl ?_; intro g11 wa11 hg11 hb11 hw11; have HB11 := Lib.hid hb11; have HW11 := Lib.hid hw11; clear hb11 hw11
        refine hK.out _ _ (bx_on hHeld10 HB11.out) (fun hHeld11 => ?_)
        clear hK K hHeld10
        (try simp only [Act.put, List.setIfInBounds_toArray, List.set_cons_zero, List.set_cons_succ])
        refine wpAnyH_ready (rs := [12]) (by kernel_rfl) (by simp) ?_
        refine (AllReadyH.cons (o := { dst := some 22, op := Op.call { callee := Callee.value (Operand.func 50), args := #[Operand.tmp 21], argTypes := #[118] }, type := 31, pos := "imports.go:53", after := #[{ on := 11, ground := Ground.data }, { on := 10, ground := Ground.chain }], guard := none }) rfl (fun K hK => ?_) AllReadyH.nil)
        go_simp
        (go_at_call 50; (with_reducible refine (concat4 (l3 := [x.kind]) HW11.out (((((((((HP2.out).below HB8.out)).below HB5.out)).below HB10.out)).below HB11.out)) (((((HP5.out).below HB10.out)).below HB11.out)) (((((((HP8.out).below HB5.out)).below HB10.out)).below HB11.out)) (((HP10.out).below HB11.out)) HS.out.1 HS.out.2).mono ?_); rintro e w12 ⟨v12, rfl, hr12, hb12⟩; have hz12 := hHeld11.1.2.size; have HB12 := Lib.hid hb12; have HR12 := Lib.hid hr12; clear hb12 hr12)
        refine hK.out _ _ (bx_on hHeld11 HB12.out) (fun hHeld12 => ?_)
        clear hK K hHeld11
        (try simp only [Act.put, List.setIfInBounds_toArray, List.set_cons_zero, List.set_cons_succ])
        (refine heldTake (i := 13) (oi := { dst := some 2, op := Op.assign (Operand.tmp 22), type := 31, pos := "imports.go:53", after := #[{ on := 12, ground := Ground.data }, { on := 12, ground := Ground.chain }, { on := 0, ground := Ground.phase }, { on := 1, ground := Ground.phase }, { on := 2, ground := Ground.phase }, { on := 3, ground := Ground.phase }, { on := 4, ground := Ground.phase }, { on := 5, ground := Ground.phase }, { on := 6, ground := Ground.phase }, { on := 7, ground := Ground.phase }, { on := 8, ground := Ground.phase }, { on := 9, ground := Ground.phase }, { on := 10, ground := Ground.phase }, { on := 11, ground := Ground.phase }, { on := 12, ground := Ground.phase }], guard := none }) (v := ?_) rfl (by kernel_rfl) (by kernel_rfl) (by kernel_rfl) (by assumption) ?_ ?_; rotate_left; focus (refine .inl ⟨by kernel_rfl, ?_⟩; intro w hSw; (try dsimp only at hSw); go_simp; (try with_reducible rfl)); (try simp only [Act.put, List.setIfInBounds_toArray, List.set_cons_zero, List.set_cons_succ]))
        (refine heldTake (i := 14) (oi := { dst := some 3, op := Op.assign (Operand.const (Value.int IntKind.i64 0)), type := 32, pos := "imports.go:53", after := #[{ on := 13, ground := Ground.chain }, { on := 0, ground := Ground.phase }, { on := 1, ground := Ground.phase }, { on := 2, ground := Ground.phase }, { on := 3, ground := Ground.phase }, { on := 4, ground := Ground.phase }, { on := 5, ground := Ground.phase }, { on := 6, ground := Ground.phase }, { on := 7, ground := Ground.phase }, { on := 8, ground := Ground.phase }, { on := 9, ground := Ground.phase }, { on := 10, ground := Ground.phase }, { on := 11, ground := Ground.phase }, { on := 12, ground := Ground.phase }, { on := 13, ground := Ground.phase }], guard := none }) (v := ?_) rfl (by kernel_rfl) (by kernel_rfl) (by kernel_rfl) (by assumption) ?_ ?_; rotate_left; focus (refine .inl ⟨by kernel_rfl, ?_⟩; intro w hSw; (try dsimp only at hSw); go_simp; (try with_reducible rfl)); (try simp only [Act.put, List.setIfInBounds_toArray, List.set_cons_zero, List.set_cons_succ]))
        refine wpAnyH_done (by kernel_rfl) ?_ _
        refine NoPanic.normal ?_
        have hLast := hHeld12
        clear hHeld12
        go_wp2
        go_ret2
        exact ⟨_, rfl, by rw [HSP.out]; exact HR12.out.mono hz12, hLast.1.2⟩
    · refine step_build1 rfl _ rfl x.kind rfl ?_; intro g8 wa8 hg8 hb8 hp8; have HB8 := Lib.hid hb8; have HP8 := Lib.hid hp8; clear hb8 hp8
      refine hK.out _ _ (bx_on hHeld HB8.out) (fun hHeld8 => ?_)
      clear hK K hHeld
      (try simp only [Act.put, List.setIfInBounds_toArray, List.set_cons_zero, List.set_cons_succ])
      refine wpAnyH_ready (rs := [2]) (by kernel_rfl) (by simp) ?_
      refine (AllReadyH.cons (o := { dst := some 12, op := Op.call { callee := Callee.value (Operand.func 51), args := #[Operand.tmp 11], argTypes := #[9] }, type := 31, pos := "imports.go:53", after := #[{ on := 1, ground := Ground.data }], guard := none }) rfl (fun K hK => ?_) AllReadyH.nil)
      go_simp
      (go_at_call 51; (with_reducible refine (HN1.out _).mono ?_); rintro e w2 ⟨v2, rfl, hr2, hb2⟩; obtain ⟨A2, c2, rfl, hp2⟩ := hr2.pc; have HB2 := Lib.hid hb2; have HP2 := Lib.hid hp2; clear hb2 hp2 hr2)
      refine hK.out _ _ (bx_on hHeld8 HB2.out) (fun hHeld2 => ?_)
      clear hK K hHeld8
      (try simp only [Act.put, List.setIfInBounds_toArray, List.set_cons_zero, List.set_cons_succ])
      refine wpAnyH_ready (rs := [5]) (by kernel_rfl) (by simp) ?_
      refine (AllReadyH.cons (o := { dst := some 15, op := Op.call { callee := Callee.value (Operand.func 51), args := #[Operand.tmp 14], argTypes := #[9] }, type := 31, pos := "imports.go:53", after := #[{ on := 4, ground := Ground.data }, { on := 2, ground := Ground.chain }], guard := none }) rfl (fun K hK => ?_) AllReadyH.nil)
      go_simp
      (go_at_call 51; (with_reducible refine (HN2.out _).mono ?_); rintro e w5 ⟨v5, rfl, hr5, hb5⟩; obtain ⟨A5, c5, rfl, hp5⟩ := hr5.pc; have HB5 := Lib.hid hb5; have HP5 := Lib.hid hp5; clear hb5 hp5 hr5)
      refine hK.out _ _ (bx_on hHeld2 HB5.out) (fun hHeld5 => ?_)
      clear hK K hHeld2
      (try simp only [Act.put, List.setIfInBounds_toArray, List.set_cons_zero, List.set_cons_succ])
      refine wpAnyH_ready (rs := [10]) (by kernel_rfl) (by simp) ?_
      refine (AllReadyH.cons (o := { dst := some 20, op := Op.call { callee := Callee.value (Operand.func 52), args := #[Operand.tmp 19], argTypes := #[28] }, type := 31, pos := "imports.go:53", after := #[{ on := 9, ground := Ground.data }, { on := 5, ground := Ground.chain }], guard := none }) rfl (fun K hK => ?_) AllReadyH.nil)
      go_simp
      (go_at_call 52; (with_reducible refine (HD.out _).mono ?_); rintro e w10 ⟨v10, rfl, hr10, hb10⟩; obtain ⟨A10, c10, rfl, hp10⟩ := hr10.pc; have HB10 := Lib.hid hb10; have HP10 := Lib.hid hp10; clear hb10 hp10 hr10)
      refine hK.out _ _ (bx_on hHeld5 HB10.out) (fun hHeld10 => ?_)
      clear hK K hHeld5
      (try simp only [Act.put, List.setIfInBounds_toArray, List.set_cons_zero, List.set_cons_succ])
      refine wpAnyH_ready (rs := [11]) (by kernel_rfl) (by simp) ?_
      refine (AllReadyH.cons (o := { dst := some 21, op := Op.buildSlice 118 4 #[(0, Operand.tmp 12), (1, Operand.tmp 15), (2, Operand.tmp 18), (3, Operand.tmp 20)], type := 118, pos := "imports.go:53", after := #[{ on := 2, ground := Ground.data }, { on := 5, ground := Ground.data }, { on := 8, ground := Ground.data }, { on := 10, ground := Ground.data }], guard := none }) rfl (fun K hK => ?_) AllReadyH.nil)
      refine step_build4 rfl _ _ _ _ rfl rfl rfl rfl rfl ?_; intro g11 wa11 hg11 hb11 hw11; have HB11 := Lib.hid hb11; have HW11 := Lib.hid hw11; clear hb11 hw11
      refine hK.out _ _ (bx_on hHeld10 HB11.out) (fun hHeld11 => ?_)
      clear hK K hHeld10
      (try simp only [Act.put, List.setIfInBounds_toArray, List.set_cons_zero, List.set_cons_succ])
      refine wpAnyH_ready (rs := [12]) (by kernel_rfl) (by simp) ?_
      refine (AllReadyH.cons (o := { dst := some 22, op := Op.call { callee := Callee.value (Operand.func 50), args := #[Operand.tmp 21], argTypes := #[118] }, type := 31, pos := "imports.go:53", after := #[{ on := 11, ground := Ground.data }, { on := 10, ground := Ground.chain }], guard := none }) rfl (fun K hK => ?_) AllReadyH.nil)
      go_simp
      (go_at_call 50; (with_reducible refine (concat4 (l3 := [x.kind]) HW11.out (((((((HP2.out).below HB5.out)).below HB10.out)).below HB11.out)) (((((HP5.out).below HB10.out)).below HB11.out)) (((((((((HP8.out).below HB2.out)).below HB5.out)).below HB10.out)).below HB11.out)) (((HP10.out).below HB11.out)) HS.out.1 HS.out.2).mono ?_); rintro e w12 ⟨v12, rfl, hr12, hb12⟩; have hz12 := hHeld11.1.2.size; have HB12 := Lib.hid hb12; have HR12 := Lib.hid hr12; clear hb12 hr12)
      refine hK.out _ _ (bx_on hHeld11 HB12.out) (fun hHeld12 => ?_)
      clear hK K hHeld11
      (try simp only [Act.put, List.setIfInBounds_toArray, List.set_cons_zero, List.set_cons_succ])
      (refine heldTake (i := 13) (oi := { dst := some 2, op := Op.assign (Operand.tmp 22), type := 31, pos := "imports.go:53", after := #[{ on := 12, ground := Ground.data }, { on := 12, ground := Ground.chain }, { on := 0, ground := Ground.phase }, { on := 1, ground := Ground.phase }, { on := 2, ground := Ground.phase }, { on := 3, ground := Ground.phase }, { on := 4, ground := Ground.phase }, { on := 5, ground := Ground.phase }, { on := 6, ground := Ground.phase }, { on := 7, ground := Ground.phase }, { on := 8, ground := Ground.phase }, { on := 9, ground := Ground.phase }, { on := 10, ground := Ground.phase }, { on := 11, ground := Ground.phase }, { on := 12, ground := Ground.phase }], guard := none }) (v := ?_) rfl (by kernel_rfl) (by kernel_rfl) (by kernel_rfl) (by assumption) ?_ ?_; rotate_left; focus (refine .inl ⟨by kernel_rfl, ?_⟩; intro w hSw; (try dsimp only at hSw); go_simp; (try with_reducible rfl)); (try simp only [Act.put, List.setIfInBounds_toArray, List.set_cons_zero, List.set_cons_succ]))
      (refine heldTake (i := 14) (oi := { dst := some 3, op := Op.assign (Operand.const (Value.int IntKind.i64 0)), type := 32, pos := "imports.go:53", after := #[{ on := 13, ground := Ground.chain }, { on := 0, ground := Ground.phase }, { on := 1, ground := Ground.phase }, { on := 2, ground := Ground.phase }, { on := 3, ground := Ground.phase }, { on := 4, ground := Ground.phase }, { on := 5, ground := Ground.phase }, { on := 6, ground := Ground.phase }, { on := 7, ground := Ground.phase }, { on := 8, ground := Ground.phase }, { on := 9, ground := Ground.phase }, { on := 10, ground := Ground.phase }, { on := 11, ground := Ground.phase }, { on := 12, ground := Ground.phase }, { on := 13, ground := Ground.phase }], guard := none }) (v := ?_) rfl (by kernel_rfl) (by kernel_rfl) (by kernel_rfl) (by assumption) ?_ ?_; rotate_left; focus (refine .inl ⟨by kernel_rfl, ?_⟩; intro w hSw; (try dsimp only at hSw); go_simp; (try with_reducible rfl)); (try simp only [Act.put, List.setIfInBounds_toArray, List.set_cons_zero, List.set_cons_succ]))
      refine wpAnyH_done (by kernel_rfl) ?_ _
      refine NoPanic.normal ?_
      have hLast := hHeld12
      clear hHeld12
      go_wp2
      go_ret2
      exact ⟨_, rfl, by rw [HSP.out]; exact HR12.out.mono hz12, hLast.1.2⟩
  · rw [if_neg h0]
    have d0 : (z != 0) = true := zb_of (by simpa using h0)
    clear h0 hz hT h1 h2
    go_enter Tryd.func11, Tryd.ntmps11
    go_wp2_with (go_at_call 12; go_must ((with_reducible refine HR.out.mono ?_); rintro e w1 ⟨rfl, hb⟩; have H1 := Lib.hid (bx_on H0.out hb); clear hb))
    go_ret2
    exact ⟨_, rfl, Row.nil _ _, bx_bel H1.out⟩
end Go.Proofs.YtapgfapplafepaaDoor

/- Imports that lie somewhere; rows of imports of the call's own. -/
namespace Go.Proofs.YtapgfapplafepaaDoor
open Go.RowKit
set_option linter.unusedVariables false
set_option maxRecDepth 100000

def imL (x : Im) : List Value := (imC x).toList
theorem infoIm : (Tryd.prog.info? 28).map (fun i => (i.zero, i.size, i.bytes)) = some (some (imV imZ), 9, 56) := by kernel_rfl
/-- A row of imports of the call's own. -/
def RowM (W : World) (base : Nat) (v : Value) (rows : List Im) : Prop := W.ownsRow base 28 9 v rows.length (rows.flatMap imL)
theorem RowM.nil (W : World) (base : Nat) : RowM W base (.slice none 0 0) [] := World.ownsRow_nil W base _ 9
theorem RowM.slice {W : World} {base : Nat} {v : Value} {rows : List Im} (h : RowM W base v rows) : ∃ A c, v = .slice A rows.length c := by
  rcases h.2 with ⟨rfl, h0⟩ | ⟨g, cap, cur, rfl, _⟩
  · exact ⟨none, 0, by rw [h0]⟩
  · exact ⟨_, cap, rfl⟩
theorem RowM.past {W W' : World} {base b : Nat} {v : Value} {rows : List Im} (h : RowM W base v rows) (hg : W.grownBy W' (some b)) (hb : b < base) : RowM W' base v rows :=
  World.ownsRow.kept h hg (by
    cases hv : v.ownBlock with
    | none => exact .inl rfl
    | some k => exact .inr (by have := (World.ownsRow.lt h k hv).1; simp only [ne_eq, Option.some.injEq]; omega))
theorem RowM.later {W W' : World} {base : Nat} {v : Value} {rows : List Im} (h : RowM W base v rows) (hb : Below W.heap.size W W') : RowM W' base v rows :=
  World.ownsRow.kept h (gb_of_below none hb) (by cases v.ownBlock with
    | none => exact .inl rfl
    | some k => exact .inr (by simp))
theorem RowM.alloc {W : World} {base : Nat} {v : Value} {rows : List Im} (h : RowM W base v rows) (o : Obj) : RowM (W.alloc o) base v rows := World.ownsRow.alloc h o
theorem RowM.mono {W : World} {base base' : Nat} {v : Value} {rows : List Im} (h : RowM W base v rows) (hb : base' ≤ base) : RowM W base' v rows := by
  obtain ⟨h1, h2⟩ := h
  refine ⟨h1, ?_⟩
  rcases h2 with h2 | ⟨g, cap, cur, e, hg, r⟩
  · exact .inl h2
  · exact .inr ⟨g, cap, cur, e, Nat.le_trans hb hg, r⟩
/-- append of a new block of one import. -/
theorem rowM_new {w : World} {ops : Array Oper} {rest : List Oper} {o : Oper} {a : Act} {Q : Exit → Act → World → Prop} (hgd : o.guard = none) (s x : Operand)
    (ho : o.op = .call { callee := .builtin .append, args := #[s, x], argTypes := #[48, 48] })
    (B : Nat) (v : Value) (l : List Im) (hs : a.eval s = v) (hr : RowM w B v l) (g : Nat) (r : Im) (hx : a.eval x = .slice (some ⟨g, 0, none⟩) 1 1)
    (hg : Whole w g 28 (imC r)) (hb : l.length ≤ 10000) (hB : B ≤ w.heap.size)
    (h : ∀ v' w', RowM w' B v' (l ++ [r]) → w.grownBy w' v.ownBlock → wpList Tryd.prog ops Q rest (a.put o.dst v') w') : wpList Tryd.prog ops Q (o :: rest) a w := by
  obtain ⟨i0, hi0, hz0, hz1, hz2⟩ := info_parts infoIm
  refine wpList_append_own _ hgd s x _ ho B 28 i0 _ 9 56 Tryd.underlying48 hi0 hz0 hz1 hz2 rfl (by omega) v _ _ hs hr ⟨g, 0, none⟩ 1 1 (imL r) hx rfl ?_ ?_ (by unfold maxLen; omega) (by omega) hB (fun v' w' h2 h3 _ => h v' w' ?_ h3)
  · intro j u hu
    rw [Go.WideShapes.add_plain, Nat.zero_add, hg.cell, ← Array.getElem?_toList]
    exact hu
  · intro u hu
    unfold imL at hu
    simp only [List.mem_cons, List.not_mem_nil, or_false] at hu
    rcases hu with rfl | rfl | rfl | rfl | rfl | rfl | rfl | rfl | rfl <;> rfl
  · unfold RowM
    rw [List.length_append, List.flatMap_append]
    simpa using h2
/-- Nothing old has turned, and nothing of the row's own is lost. -/
theorem RowM.below {w W W' : World} {base : Nat} {v : Value} {rows : List Im} (h : RowM W base v rows) (hB : base ≤ W.heap.size) (hg : W.grownBy W' v.ownBlock) : Below base W W' :=
  Below.grown (Below.refl _ _) hg hB (fun k hk => (World.ownsRow.lt h k hk).1)

/-- The slice at A reads as these imports. -/
def Ims (w : World) (A : Option Addr) (l : List Im) : Prop :=
  ∀ j x, l[j]? = some x → ∃ b off, A = some ⟨b, off, none⟩ ∧ b < w.heap.size ∧ ∀ u, u < 9 → w.cell? ⟨b, off + j * 9 + u, none⟩ = (imL x)[u]?
theorem Ims.below {w w' : World} {A : Option Addr} {l : List Im} (h : Ims w A l) (hb : Below w.heap.size w w') : Ims w' A l := fun j x hx => by
  obtain ⟨b, off, e, h1, h2⟩ := h j x hx
  exact ⟨b, off, e, Nat.lt_of_lt_of_le h1 hb.size, fun u hu => (hb.cell (p := ⟨b, _, none⟩) h1).trans (h2 u hu)⟩
/-- The nine cells of one of them, as a walk writes them. -/
theorem Ims.nine {w : World} {A : Option Addr} {l : List Im} (h : Ims w A l) {k : Nat} {x : Im} (hx : l[k]? = some x) : ∃ b off, A = some ⟨b, off, none⟩ ∧ b < w.heap.size ∧
    w.cell? ⟨b, off + k * 9, none⟩ = some (.string (S x.mod)) ∧ w.cell? ⟨b, off + k * 9 + 1, none⟩ = some (.string (S x.nam)) ∧ w.cell? ⟨b, off + k * 9 + 2, none⟩ = some (.int .u8 x.kind.toNat) ∧ w.cell? ⟨b, off + k * 9 + 3, none⟩ = some (.int .u32 x.typ.toNat) ∧
    w.cell? ⟨b, off + k * 9 + 4, none⟩ = some (.int .u32 x.mn.toNat) ∧ w.cell? ⟨b, off + k * 9 + 5, none⟩ = some (.int .u32 x.mx.toNat) ∧ w.cell? ⟨b, off + k * 9 + 6, none⟩ = some (.bool x.bd) ∧ w.cell? ⟨b, off + k * 9 + 7, none⟩ = some (.int .u8 x.gt.toNat) ∧ w.cell? ⟨b, off + k * 9 + 8, none⟩ = some (.bool x.gm) := by
  obtain ⟨b, off, e, h1, h2⟩ := h k x hx
  exact ⟨b, off, e, h1, h2 0 (by omega), h2 1 (by omega), h2 2 (by omega), h2 3 (by omega), h2 4 (by omega), h2 5 (by omega), h2 6 (by omega), h2 7 (by omega), h2 8 (by omega)⟩
theorem flatM_get : ∀ (l : List Im) (j : Nat) (x : Im) (u : Nat), l[j]? = some x → u < 9 → (l.flatMap imL)[j * 9 + u]? = (imL x)[u]?
  | [], j, x, u, h, _ => by cases h
  | y :: l, 0, x, u, h, hu => by
    injection h with h
    subst h
    rw [List.flatMap_cons, Nat.zero_mul, Nat.zero_add, List.getElem?_append_left (by show u < 9; exact hu)]
  | y :: l, j + 1, x, u, h, hu => by
    rw [List.flatMap_cons, List.getElem?_append_right (by show 9 ≤ _; omega)]
    have e : (j + 1) * 9 + u - (imL y).length = j * 9 + u := by show (j + 1) * 9 + u - 9 = _; omega
    rw [e]
    exact flatM_get l j x u h hu
/-- What a row of imports reads as. -/
theorem RowM.ims {W : World} {base : Nat} {A : Option Addr} {n c : Nat} {rows : List Im} (h : RowM W base (.slice A n c) rows) : Ims W A rows := fun j x hx => by
  have hj := (List.getElem?_eq_some_iff.1 hx).1
  rcases h.2 with ⟨_, h0⟩ | ⟨g, cap, cur, e, _, hg, _, _, _, ht⟩
  · omega
  · injection e with e1 e2 e3
    exact ⟨g, 0, e1, (Array.getElem?_eq_some_iff.1 hg).1, fun u hu => by
      rw [cell_of_row W g (0 + j * 9 + u) cur _ _ hg, ← flatM_get rows j x u hx hu, ← ht, List.getElem?_take, if_pos (by omega)]
      simp⟩
end Go.Proofs.YtapgfapplafepaaDoor
