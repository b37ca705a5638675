/- The walk of ImportsPuts. -/
import Derived.Test.YtdogjinjbnlgdaaDoorQz14
import Derived.Test.YtdogjinjbnlgdaaDoorQz15
import Derived.Test.YtdogjinjbnlgdaaDoorQz16
namespace Go.Proofs.YtdogjinjbnlgdaaDoor
open Go.RowKit
set_option linter.unusedVariables false
set_option maxRecDepth 100000

/-- What the law keeps: the box of its input, the bytes, the scanner's cell. -/
structure PK (w : World) (x : Im) (p : Nat) (B : Nat) (Ab : Option Addr) (y : List UInt8) (b6 : Nat) (W : World) : Prop where
  bx : Whole W w.heap.size 28 (imC x)
  ly : Lies W B Ab (cells (nums y))
  pt : Whole W b6 36 #[.pointer (some ⟨p, 0, none⟩)]
  bel : Below w.heap.size w W
  o1 : w.heap.size < p
  o2 : B ≤ p
  o3 : p < b6
  o4 : B ≤ W.heap.size
section
variable {w W W' : World} {x : Im} {p B b6 k k' q : Nat} {l : List UInt8} {Ab : Option Addr} {y : List UInt8}
theorem PK.grown (h : PK w x p B Ab y b6 W) (hg : W.grownBy W' (some q)) (h1 : p ≤ q) (h2 : b6 ≠ q) : PK w x p B Ab y b6 W' := by
  obtain ⟨a1, a2, a3, a4, a5, a6, a7, a8⟩ := h
  exact ⟨a1.grown hg (by simp only [ne_eq, Option.some.injEq]; omega), a2.grown hg a8 (fun g e => by injection e with e; omega), a3.grown hg (by simp only [ne_eq, Option.some.injEq]; omega), below_new a4 hg (by omega), a5, a6, a7, Nat.le_trans a8 hg.size⟩
theorem PK.below (h : PK w x p B Ab y b6 W) (hb : Below W.heap.size W W') : PK w x p B Ab y b6 W' := by
  obtain ⟨a1, a2, a3, a4, a5, a6, a7, a8⟩ := h
  exact ⟨a1.below hb, a2.below hb a8, a3.below hb, a4.trans (hb.mono a4.size), a5, a6, a7, Nat.le_trans a8 hb.size⟩
/-- At the law's end. -/
structure PE (w : World) (x : Im) (p : Nat) (B : Nat) (Ab : Option Addr) (y : List UInt8) (b6 g : Nat) (l : List UInt8) (k : Nat) (W : World) : Prop where
  a : PK w x p B Ab y b6 W
  sc : Sc W p l k
  yb : Whole W g 28 (imC x)
  st : Whole W (g + 1) 39 #[.int .i64 0, .int .i64 0]
theorem PE.below {g : Nat} (h : PE w x p B Ab y b6 g l k W) (hb : Below W.heap.size W W') : PE w x p B Ab y b6 g l k W' := ⟨h.a.below hb, h.sc.below hb, h.yb.below hb, h.st.below hb⟩
/-- .. and what it reads as. -/
abbrev PEc (w : World) (x : Im) (p : Nat) (B : Nat) (Ab : Option Addr) (cb : Nat) (y : List UInt8) (b6 g : Nat) (l : List UInt8) (k : Nat) (W : World) : Prop := PE w x p B Ab y b6 g l k W ∧
  (W.cell? ⟨w.heap.size, 0, none⟩ = some (.string (S x.mod)) ∧ W.cell? ⟨w.heap.size, 1, none⟩ = some (.string (S x.nam)) ∧ W.cell? ⟨w.heap.size, 2, none⟩ = some (.int .u8 x.kind.toNat) ∧ W.cell? ⟨w.heap.size, 3, none⟩ = some (.int .u32 x.typ.toNat) ∧
    W.cell? ⟨w.heap.size, 4, none⟩ = some (.int .u32 x.mn.toNat) ∧ W.cell? ⟨w.heap.size, 5, none⟩ = some (.int .u32 x.mx.toNat) ∧ W.cell? ⟨w.heap.size, 6, none⟩ = some (.bool x.bd) ∧ W.cell? ⟨w.heap.size, 7, none⟩ = some (.int .u8 x.gt.toNat) ∧ W.cell? ⟨w.heap.size, 8, none⟩ = some (.bool x.gm)) ∧
  (W.cell? ⟨g, 0, none⟩ = some (.string (S x.mod)) ∧ W.cell? ⟨g, 1, none⟩ = some (.string (S x.nam)) ∧ W.cell? ⟨g, 2, none⟩ = some (.int .u8 x.kind.toNat) ∧ W.cell? ⟨g, 3, none⟩ = some (.int .u32 x.typ.toNat) ∧
    W.cell? ⟨g, 4, none⟩ = some (.int .u32 x.mn.toNat) ∧ W.cell? ⟨g, 5, none⟩ = some (.int .u32 x.mx.toNat) ∧ W.cell? ⟨g, 6, none⟩ = some (.bool x.bd) ∧ W.cell? ⟨g, 7, none⟩ = some (.int .u8 x.gt.toNat) ∧ W.cell? ⟨g, 8, none⟩ = some (.bool x.gm)) ∧
  W.cell? ⟨g + 1, 0, none⟩ = some (.int .i64 0) ∧ W.cell? ⟨b6, 0, none⟩ = some (.pointer (some ⟨p, 0, none⟩)) ∧ (convert 31 9 (.slice Ab y.length cb)).run Tryd.prog W = .ok (.string (S y)) W
theorem PE.all {g : Nat} (h : PE w x p B Ab y b6 g l k W) (cb : Nat) : PEc w x p B Ab cb y b6 g l k W :=
  ⟨h, h.a.bx.im, h.yb.im, h.st.cell 0, h.a.pt.cell 0, str_any h.a.ly cb 9 Tryd.underlying9⟩
end
/-- The boxed input and the tables. -/
structure PSt (w : World) (x : Im) (W : World) : Prop where
  tb : Tabs W
  bx : Bx w w.heap.size x W
theorem PSt.on {w W W' : World} {x : Im} (h : PSt w x W) (hb : Below W.heap.size W W') : PSt w x W' := ⟨h.tb.below hb, bx_on h.bx hb⟩
set_option maxHeartbeats 8000000 in
theorem lawP {w : World} {x : Im} (hT : Tabs w) :
    Calls Tryd.prog 3 #[imV x] w fun e w' => e = .returned (.bool true) ∧ Below w.heap.size w w' := by
  have HTw := Lib.hid hT
  have h0 : PSt w x (w.alloc (.cells (imC x) 28)) := ⟨hT.below (below_box _ _), bx_start w x⟩
  have HAW := Lib.hid (awake_im _ h0.tb)
  have H0 := Lib.hid h0
  have s1 := S_size x.mod
  have s2 := S_size x.nam
  clear h0 hT
  by_cases g1 : 400 < x.mod.length
  · have t1 : decide ((400 : Int) < (x.mod.length : Int)) = true := decide_eq_true (by omega)
    clear g1 s2
    go_enter Tryd.func3, Tryd.ntmps3
    go_wp2_with (go_at_call 6; go_must ((with_reducible refine HAW.out.mono ?_); rintro e w1 ⟨rfl, hb⟩; have H1 := Lib.hid (H0.out.on hb); obtain ⟨c0, c1, c2, c3, c4, c5, c6, c7, c8⟩ := H1.out.bx.1.1.im; clear hb))
    go_ret
    exact ⟨rfl, bx_bel H1.out.bx⟩
  have t1 : decide ((400 : Int) < (x.mod.length : Int)) = false := decide_eq_false (by omega)
  by_cases g2 : 400 < x.nam.length
  · have t2 : decide ((400 : Int) < (x.nam.length : Int)) = true := decide_eq_true (by omega)
    clear g1 g2
    go_enter Tryd.func3, Tryd.ntmps3
    go_wp2_with (go_at_call 6; go_must ((with_reducible refine HAW.out.mono ?_); rintro e w1 ⟨rfl, hb⟩; have H1 := Lib.hid (H0.out.on hb); obtain ⟨c0, c1, c2, c3, c4, c5, c6, c7, c8⟩ := H1.out.bx.1.1.im; clear hb))
    go_ret
    exact ⟨rfl, bx_bel H1.out.bx⟩
  have t2 : decide ((400 : Int) < (x.nam.length : Int)) = false := decide_eq_false (by omega)
  have HRR := Lib.hid (fun W => rright_im x W (by omega) (by omega))
  have HIR := Lib.hid (fun W (h : Tabs W) => iright_any x W (by omega) (by omega) h)
  have HPU := Lib.hid (fun W (h : Tabs W) => put_im x W h (by omega) (by omega))
  have HRP := Lib.hid (fun W => rput_im x W (by omega) (by omega))
  have hlen := iputL_len (x := x) (n := 400) (by omega) (by omega) (by omega)
  unfold Putted at HPU
  by_cases hz : rZ x = 0
  · rw [if_pos hz] at HPU
    have HGT := Lib.hid (fun W p l r k (h : Sc W p l k) (hT : TbN p W) (hd : l.drop k = iputL x ++ r) => get_im h hT hd hz)
    rw [hz] at HRR HIR HPU
    obtain ⟨y, hy⟩ : ∃ y, y = iputL x := ⟨_, rfl⟩
    rw [← hy] at HPU HRP hlen HGT
    have hl7 : (([] ++ y) ++ [7]).length ≤ 1000000 := by simp only [List.length_append, List.length_singleton, List.length_nil]; omega
    have hl7' : ([] ++ y : List UInt8).length + ([7] : List UInt8).length ≤ 1000000 := by simp only [List.length_append, List.length_singleton, List.length_nil]; omega
    have hl0 : ([] : List UInt8).length + y.length ≤ 1000000 := by simp only [List.length_nil]; omega
    have HD := Lib.hid (show (([] ++ y) ++ [7] : List UInt8).drop 0 = y ++ [7] from by simp)
    have HLf := Lib.hid (fun W p (h : Sc W p (([] ++ y) ++ [7]) y.length) => by
      have h2 := left_any h
      have e : (((([] ++ y) ++ [7] : List UInt8).length : Int) - (y.length : Int)) = 1 := by simp only [List.length_append, List.length_singleton, List.length_nil]; omega
      rw [e] at h2
      exact h2)
    have HSm := Lib.hid (fun W => show Calls Tryd.prog 15 #[imV x, imV x] W fun e w' => e = .returned (.bool true) ∧ Below W.heap.size W w' from by have h2 := refSame_im x x W; rw [decide_eq_true rfl] at h2; exact h2)
    obtain ⟨L, hL⟩ : ∃ L, L = (([] ++ y) ++ [7] : List UInt8) := ⟨_, rfl⟩
    rw [← hL] at hl7 HD HLf
    have HLd := Lib.hid hL
    clear hL
    clear hz hy g1 g2
    go_enter Tryd.func3, Tryd.ntmps3
    go_upto_region 11 with (first
      | (go_at_call 6; go_must ((with_reducible refine HAW.out.mono ?_); rintro e w1 ⟨rfl, hb⟩; have H1 := Lib.hid (H0.out.on hb); obtain ⟨c0, c1, c2, c3, c4, c5, c6, c7, c8⟩ := H1.out.bx.1.1.im; clear hb))
      | (go_at_call 7; go_must ((with_reducible refine (HRR.out _).mono ?_); rintro e w2 ⟨rfl, hb⟩; clear c0 c1 c2 c3 c4 c5 c6 c7 c8; have H2 := Lib.hid (H1.out.on hb); obtain ⟨c0, c1, c2, c3, c4, c5, c6, c7, c8⟩ := H2.out.bx.1.1.im; clear hb))
      | (go_at_call 8; go_must ((with_reducible refine (HPU.out _ H2.out.tb).mono ?_); intro e w3 hq; obtain ⟨v, rfl, hr, hb⟩ := hq; obtain ⟨Ab, cb, rfl, hpc⟩ := hr.pc; clear c0 c1 c2 c3 c4 c5 c6 c7 c8; have H3 := Lib.hid (H2.out.on hb); have HP3 := Lib.hid hpc; obtain ⟨c0, c1, c2, c3, c4, c5, c6, c7, c8⟩ := H3.out.bx.1.1.im; clear hb hr hpc))
      | (go_at_call 9; go_must ((with_reducible refine (HIR.out _ H3.out.tb).mono ?_); rintro e w4 ⟨rfl, hb⟩; clear c0 c1 c2 c3 c4 c5 c6 c7 c8; have H4 := Lib.hid (H3.out.on hb); have HP4 := Lib.hid (HP3.out.below hb); clear hb)))
    have R0 := Lib.hid (Row.made w4 [] w4.heap.size w4.heap.size rfl (Nat.le_refl _) (by simp))
    have HP4' := Lib.hid (HP4.out.below (below_box w4 (.cells #[] 5)))
    have hB4 : w4.heap.size ≤ (w4.alloc (.cells #[] 5)).heap.size := (below_box w4 _).size
    go_upto_region 12 with (first
      | (go_at_call 10; go_must ((with_reducible refine (over_all HP6.out.lies hl7).mono ?_); intro e w7 hq; obtain ⟨p, rfl, hpp, hs, hb⟩ := hq; have HS7 := Lib.hid hs; have HB7 := Lib.hid (HB6.out.trans (hb.mono HB6.out.size)); have HB67 := Lib.hid hb; clear hs hb))
      | (have tok := HR5; at_builtin; go_must (refine row_any rfl _ _ rfl w4.heap.size _ ([] ++ y) rfl (HR5.out.later (below_box w5 (.cells #[.int .u8 7] 5))) (some ⟨w5.heap.size, 0, none⟩) 1 1 _ [7] rfl rfl (lies_made w5 [7] (0, 0)) (fun e => by cases e) hl7' (Nat.le_trans HB5.out.size (below_box w5 _).size) ?_; intro v6 w6 hr6 hb6; rw [← HLd.out] at hr6; obtain ⟨A6, c6', rfl, hpc6⟩ := hr6.pc; have HB6 := Lib.hid ((HB5.out.trans ((below_box w5 (.cells #[.int .u8 7] 5)).mono HB5.out.size)).trans hb6); have HP6 := Lib.hid hpc6; clear hr6 hb6 hpc6))
      | (at_builtin; go_must (refine row_any rfl _ _ rfl w4.heap.size _ [] rfl R0.out Ab y.length cb _ y rfl rfl HP4'.out.lies HP4'.out.nil hl0 hB4 ?_; intro v5 w5 hr5 hb5; have HR5 := Lib.hid hr5; have HB5 := Lib.hid ((below_box w4 (.cells #[] 5)).trans hb5); clear hr5 hb5)))
    have hx4 := H4.out.bx.1.1.lt
    have h46 := HB6.out.size
    have h7p := HS7.out.lt
    have hpk : PK w x p w6.heap.size Ab y w7.heap.size (w7.alloc (.cells #[.pointer (some ⟨p, 0, none⟩)] 36)) :=
      ⟨((H4.out.bx.1.1.below HB7.out).alloc _), ((HP4.out.below HB6.out).lies.below (HB67.out.trans ((below_box w7 _).mono HB67.out.size)) (Nat.le_refl _)), Whole.made _ _ _,
        (bx_bel H4.out.bx).trans ((HB7.out.trans ((below_box w7 _).mono HB7.out.size)).mono (bx_bel H4.out.bx).size), by omega, hpp, h7p, Nat.le_trans HB67.out.size (below_box w7 _).size⟩
    have HPK := Lib.hid hpk
    have HS8 := Lib.hid (HS7.out.alloc (.cells #[.pointer (some ⟨p, 0, none⟩)] 36))
    have hb6 : w7.heap.size < (w7.alloc (.cells #[.pointer (some ⟨p, 0, none⟩)] 36)).heap.size := hpk.pt.lt
    clear R0 HP4' HR5 H1 H2 H3 HP3 HB5 HB6 HP6 HAW H0 HRR HIR HPU HP4 H4 HB7 HB67 HS7 hpk hl7 hl7' hl0 hB4
    generalize w7.alloc (.cells #[.pointer (some ⟨p, 0, none⟩)] 36) = W8 at *
    generalize w7.heap.size = b6 at *
    have HV := Lib.hid (valueJ_ok (T := fun q W => q = x ∧ PK w x p w6.heap.size Ab y b6 W ∧ Sc W p L y.length) (cfI1 #[.pointer (some ⟨b6, 0, none⟩)]) (q := p) (w := W8) (by omega)
      (fun q W W' b h1 h2 h3 hg => ⟨h3.1, h3.2.1.grown hg (by omega) (by omega), h3.2.2.grown hg (by simp only [ne_eq, Option.some.injEq]; omega) (fun g e => by injection e with e; omega)⟩)
      (fun W hb hsz => by
        have hW := HPK.out.below hb
        have hS := HS8.out.below hb
        refine (clos1 (x := x) (l := L) (k := y.length) hW.pt (fun W2 hb2 => ?_) hS.lt).mono ?_
        · have h2 := HGT.out W2 p L [7] 0 (hS.below hb2) (TbN.of HTw.out ((hW.below hb2).bel) (Nat.le_of_lt hW.o1) (Nat.le_of_lt (hS.below hb2).lt)) HD.out
          rw [Nat.zero_add] at h2
          exact h2
        · rintro e w' ⟨rfl, hs, hg⟩
          exact ⟨x, rfl, ⟨rfl, hW.grown hg (Nat.le_refl _) (by omega), hs⟩, hg⟩))
    clear HGT HTw
    go_upto_region 13 with (go_at_call 11; go_must ((with_reducible refine HV.out.mono ?_); rintro e w9 ⟨q, rfl, ⟨rfl, hpk, hs⟩, hg⟩; have HPE := Lib.hid (show PE w q p w6.heap.size Ab y b6 w9.heap.size L y.length ((w9.alloc (.cells (imC q) 28)).alloc (.cells #[.int .i64 0, .int .i64 0] 39)) from ⟨(hpk.below (below_box _ _)).below (below_box _ _), (hs.alloc _).alloc _, (Whole.made _ _ _).alloc _, (made_2 w9 _ _ _)⟩); clear hpk hs hg))
    generalize (w9.alloc (.cells (imC q) 28)).alloc (.cells #[.int .i64 0, .int .i64 0] 39) = W9 at *
    refine wp_region_noPanic ?_
    refine wp_region_held_drew (S := fun W => PEc w q p w6.heap.size Ab cb y b6 w9.heap.size L y.length W) (by kernel_rfl) ((HPE.out.below (Below.refl _ _).drew).all cb) (fun hHeld => ?_)
    (refine heldTake (i := 0) (oi := { dst := some 53, op := Op.move (Operand.tmp 4), type := 31, pos := "law.go:37", after := #[], guard := none }) (v := ?_) rfl (by kernel_rfl) (by kernel_rfl) (by kernel_rfl) (by assumption) ?_ ?_; rotate_left; focus (refine .inl ⟨by kernel_rfl, ?_⟩; intro w hSw; (try dsimp only at hSw); go_simp; (try with_reducible rfl)); (try simp only [Act.put, List.setIfInBounds_toArray, List.set_cons_zero, List.set_cons_succ]))
    (refine heldTake (i := 1) (oi := { dst := some 54, op := Op.convert 31 9 (Operand.tmp 53), type := 9, pos := "law.go:37", after := #[{ on := 0, ground := Ground.data }], guard := none }) (v := ?_) rfl (by kernel_rfl) (by kernel_rfl) (by kernel_rfl) (by assumption) ?_ ?_; rotate_left; focus (refine .inl ⟨by kernel_rfl, ?_⟩; intro w hSw; (try dsimp only at hSw); go_simp; (try with_reducible rfl)); (try simp only [Act.put, List.setIfInBounds_toArray, List.set_cons_zero, List.set_cons_succ]))
    (refine heldTake (i := 2) (oi := { dst := some 55, op := Op.load 28 (Operand.tmp 1), type := 28, pos := "law.go:37", after := #[], guard := none }) (v := ?_) rfl (by kernel_rfl) (by kernel_rfl) (by kernel_rfl) (by assumption) ?_ ?_; rotate_left; focus (refine .inl ⟨by kernel_rfl, ?_⟩; intro w hSw; (try dsimp only at hSw); go_simp; (try with_reducible rfl)); (try simp only [Act.put, List.setIfInBounds_toArray, List.set_cons_zero, List.set_cons_succ]))
    refine wpAnyH_ready (rs := [3]) (by kernel_rfl) (by simp) ?_
    refine AllReadyH.cons (o := { dst := some 56, op := Op.call { callee := Callee.value (Operand.func 14), args := #[Operand.tmp 55], argTypes := #[28] }, type := 9, pos := "law.go:37", after := #[{ on := 2, ground := Ground.data }], guard := none }) rfl (fun K hK => ?_) AllReadyH.nil
    go_simp
    (go_at_call 14; (with_reducible refine (HRP.out _).mono ?_); rintro e w10 ⟨rfl, hb⟩; have hk10 := (PE.below (And.left hHeld) hb).all cb; clear hb)
    refine hK.out _ _ hk10 (fun hHeld3 => ?_)
    clear hK K hHeld
    (try simp only [Act.put, List.setIfInBounds_toArray, List.set_cons_zero, List.set_cons_succ])
    (refine heldTake (i := 4) (oi := { dst := some 57, op := Op.binOp BinOp.eql 9 (Operand.tmp 54) (Operand.tmp 56) 9, type := 4, pos := "law.go:37", after := #[{ on := 1, ground := Ground.data }, { on := 3, ground := Ground.data }], guard := none }) (v := ?_) rfl (by kernel_rfl) (by kernel_rfl) (by kernel_rfl) (by assumption) ?_ ?_; rotate_left; focus (refine .inl ⟨by kernel_rfl, ?_⟩; intro w hSw; (try dsimp only at hSw); go_simp; (try with_reducible rfl)); (try simp only [Act.put, List.setIfInBounds_toArray, List.set_cons_zero, List.set_cons_succ]))
    (refine heldTake (i := 5) (oi := { dst := some 58, op := Op.move (Operand.tmp 57), type := 4, pos := "law.go:37", after := #[{ on := 4, ground := Ground.data }, { on := 3, ground := Ground.chain }], guard := none }) (v := ?_) rfl (by kernel_rfl) (by kernel_rfl) (by kernel_rfl) (by assumption) ?_ ?_; rotate_left; focus (refine .inl ⟨by kernel_rfl, ?_⟩; intro w hSw; (try dsimp only at hSw); go_simp; (try with_reducible rfl)); (try simp only [Act.put, List.setIfInBounds_toArray, List.set_cons_zero, List.set_cons_succ]))
    (refine heldTake (i := 6) (oi := { dst := some 59, op := Op.fieldAddr 39 (Operand.tmp 8) 0, type := 0, pos := "law.go:37", after := #[{ on := 5, ground := Ground.guard }], guard := some (5, true) }) (v := ?_) rfl (by kernel_rfl) (by kernel_rfl) (by kernel_rfl) (by assumption) ?_ ?_; rotate_left; focus (refine .inl ⟨by kernel_rfl, ?_⟩; intro w hSw; (try dsimp only at hSw); go_simp; (try with_reducible rfl)); (try simp only [Act.put, List.setIfInBounds_toArray, List.set_cons_zero, List.set_cons_succ]))
    (refine heldTake (i := 7) (oi := { dst := some 60, op := Op.load 32 (Operand.tmp 59), type := 32, pos := "law.go:37", after := #[{ on := 6, ground := Ground.data }, { on := 5, ground := Ground.guard }], guard := some (5, true) }) (v := ?_) rfl (by kernel_rfl) (by kernel_rfl) (by kernel_rfl) (by assumption) ?_ ?_; rotate_left; focus (refine .inl ⟨by kernel_rfl, ?_⟩; intro w hSw; (try dsimp only at hSw); go_simp; (try with_reducible rfl)); (try simp only [Act.put, List.setIfInBounds_toArray, List.set_cons_zero, List.set_cons_succ]))
    (refine heldTake (i := 8) (oi := { dst := some 61, op := Op.binOp BinOp.eql 32 (Operand.tmp 60) (Operand.const (Value.int IntKind.i64 0)) 32, type := 4, pos := "law.go:37", after := #[{ on := 7, ground := Ground.data }, { on := 5, ground := Ground.guard }], guard := some (5, true) }) (v := ?_) rfl (by kernel_rfl) (by kernel_rfl) (by kernel_rfl) (by assumption) ?_ ?_; rotate_left; focus (refine .inl ⟨by kernel_rfl, ?_⟩; intro w hSw; (try dsimp only at hSw); go_simp; (try with_reducible rfl)); (try simp only [Act.put, List.setIfInBounds_toArray, List.set_cons_zero, List.set_cons_succ]))
    (refine heldTake (i := 9) (oi := { dst := some 62, op := Op.pick (Operand.tmp 58) (Operand.tmp 61) (Operand.const (Value.bool false)), type := 4, pos := "law.go:37", after := #[{ on := 5, ground := Ground.data }, { on := 8, ground := Ground.data }], guard := none }) (v := ?_) rfl (by kernel_rfl) (by kernel_rfl) (by kernel_rfl) (by assumption) ?_ ?_; rotate_left; focus (refine .inl ⟨by kernel_rfl, ?_⟩; intro w hSw; (try dsimp only at hSw); go_simp; (try with_reducible rfl)); (try simp only [Act.put, List.setIfInBounds_toArray, List.set_cons_zero, List.set_cons_succ]))
    (refine heldTake (i := 10) (oi := { dst := some 63, op := Op.move (Operand.tmp 62), type := 4, pos := "law.go:37", after := #[{ on := 9, ground := Ground.data }, { on := 5, ground := Ground.chain }], guard := none }) (v := ?_) rfl (by kernel_rfl) (by kernel_rfl) (by kernel_rfl) (by assumption) ?_ ?_; rotate_left; focus (refine .inl ⟨by kernel_rfl, ?_⟩; intro w hSw; (try dsimp only at hSw); go_simp; (try with_reducible rfl)); (try simp only [Act.put, List.setIfInBounds_toArray, List.set_cons_zero, List.set_cons_succ]))
    (refine heldTake (i := 11) (oi := { dst := some 64, op := Op.load 28 (Operand.tmp 7), type := 28, pos := "law.go:37", after := #[{ on := 10, ground := Ground.guard }], guard := some (10, true) }) (v := ?_) rfl (by kernel_rfl) (by kernel_rfl) (by kernel_rfl) (by assumption) ?_ ?_; rotate_left; focus (refine .inl ⟨by kernel_rfl, ?_⟩; intro w hSw; (try dsimp only at hSw); go_simp; (try with_reducible rfl)); (try simp only [Act.put, List.setIfInBounds_toArray, List.set_cons_zero, List.set_cons_succ]))
    (refine heldTake (i := 12) (oi := { dst := some 65, op := Op.load 28 (Operand.tmp 1), type := 28, pos := "law.go:37", after := #[{ on := 10, ground := Ground.guard }], guard := some (10, true) }) (v := ?_) rfl (by kernel_rfl) (by kernel_rfl) (by kernel_rfl) (by assumption) ?_ ?_; rotate_left; focus (refine .inl ⟨by kernel_rfl, ?_⟩; intro w hSw; (try dsimp only at hSw); go_simp; (try with_reducible rfl)); (try simp only [Act.put, List.setIfInBounds_toArray, List.set_cons_zero, List.set_cons_succ]))
    refine wpAnyH_ready (rs := [13]) (by kernel_rfl) (by simp) ?_
    refine AllReadyH.cons (o := { dst := some 66, op := Op.call { callee := Callee.value (Operand.func 15), args := #[Operand.tmp 64, Operand.tmp 65], argTypes := #[28, 28] }, type := 4, pos := "law.go:37", after := #[{ on := 11, ground := Ground.data }, { on := 12, ground := Ground.data }, { on := 10, ground := Ground.chain }, { on := 10, ground := Ground.guard }], guard := some (10, true) }) rfl (fun K hK => ?_) AllReadyH.nil
    go_simp
    (go_at_call 15; (with_reducible refine (HSm.out _).mono ?_); rintro e w11 ⟨rfl, hb⟩; have hk11 := (PE.below (And.left hHeld3) hb).all cb; clear hb)
    refine hK.out _ _ hk11 (fun hHeld13 => ?_)
    clear hK K hHeld3
    (try simp only [Act.put, List.setIfInBounds_toArray, List.set_cons_zero, List.set_cons_succ])
    (refine heldTake (i := 14) (oi := { dst := some 67, op := Op.pick (Operand.tmp 63) (Operand.tmp 66) (Operand.const (Value.bool false)), type := 4, pos := "law.go:37", after := #[{ on := 10, ground := Ground.data }, { on := 13, ground := Ground.data }], guard := none }) (v := ?_) rfl (by kernel_rfl) (by kernel_rfl) (by kernel_rfl) (by assumption) ?_ ?_; rotate_left; focus (refine .inl ⟨by kernel_rfl, ?_⟩; intro w hSw; (try dsimp only at hSw); go_simp; (try with_reducible rfl)); (try simp only [Act.put, List.setIfInBounds_toArray, List.set_cons_zero, List.set_cons_succ]))
    (refine heldTake (i := 15) (oi := { dst := some 68, op := Op.move (Operand.tmp 67), type := 4, pos := "law.go:37", after := #[{ on := 14, ground := Ground.data }, { on := 13, ground := Ground.chain }], guard := none }) (v := ?_) rfl (by kernel_rfl) (by kernel_rfl) (by kernel_rfl) (by assumption) ?_ ?_; rotate_left; focus (refine .inl ⟨by kernel_rfl, ?_⟩; intro w hSw; (try dsimp only at hSw); go_simp; (try with_reducible rfl)); (try simp only [Act.put, List.setIfInBounds_toArray, List.set_cons_zero, List.set_cons_succ]))
    (refine heldTake (i := 16) (oi := { dst := some 69, op := Op.load 36 (Operand.tmp 6), type := 36, pos := "law.go:37", after := #[{ on := 15, ground := Ground.guard }], guard := some (15, true) }) (v := ?_) rfl (by kernel_rfl) (by kernel_rfl) (by kernel_rfl) (by assumption) ?_ ?_; rotate_left; focus (refine .inl ⟨by kernel_rfl, ?_⟩; intro w hSw; (try dsimp only at hSw); go_simp; (try with_reducible rfl)); (try simp only [Act.put, List.setIfInBounds_toArray, List.set_cons_zero, List.set_cons_succ]))
    refine wpAnyH_ready (rs := [17]) (by kernel_rfl) (by simp) ?_
    refine AllReadyH.cons (o := { dst := some 70, op := Op.call { callee := Callee.value (Operand.func 16), args := #[Operand.tmp 69], argTypes := #[36] }, type := 3, pos := "law.go:37", after := #[{ on := 16, ground := Ground.data }, { on := 15, ground := Ground.chain }, { on := 15, ground := Ground.guard }], guard := some (15, true) }) rfl (fun K hK => ?_) AllReadyH.nil
    go_simp
    (go_at_call 16; (with_reducible refine (HLf.out _ p (And.left hHeld13).sc).mono ?_); rintro e w12 ⟨rfl, m, rfl⟩; have hk12 := (PE.below (And.left hHeld13) (below_drewN (Below.refl _ _) m)).all cb)
    refine hK.out _ _ hk12 (fun hHeld17 => ?_)
    clear hK K hHeld13
    (try simp only [Act.put, List.setIfInBounds_toArray, List.set_cons_zero, List.set_cons_succ])
    (refine heldTake (i := 18) (oi := { dst := some 71, op := Op.binOp BinOp.eql 3 (Operand.tmp 70) (Operand.const (Value.int IntKind.i64 1)) 3, type := 4, pos := "law.go:37", after := #[{ on := 17, ground := Ground.data }, { on := 15, ground := Ground.guard }], guard := some (15, true) }) (v := ?_) rfl (by kernel_rfl) (by kernel_rfl) (by kernel_rfl) (by assumption) ?_ ?_; rotate_left; focus (refine .inl ⟨by kernel_rfl, ?_⟩; intro w hSw; (try dsimp only at hSw); go_simp; (try with_reducible rfl)); (try simp only [Act.put, List.setIfInBounds_toArray, List.set_cons_zero, List.set_cons_succ]))
    (refine heldTake (i := 19) (oi := { dst := some 72, op := Op.pick (Operand.tmp 68) (Operand.tmp 71) (Operand.const (Value.bool false)), type := 4, pos := "law.go:37", after := #[{ on := 15, ground := Ground.data }, { on := 18, ground := Ground.data }], guard := none }) (v := ?_) rfl (by kernel_rfl) (by kernel_rfl) (by kernel_rfl) (by assumption) ?_ ?_; rotate_left; focus (refine .inl ⟨by kernel_rfl, ?_⟩; intro w hSw; (try dsimp only at hSw); go_simp; (try with_reducible rfl)); (try simp only [Act.put, List.setIfInBounds_toArray, List.set_cons_zero, List.set_cons_succ]))
    (refine heldTake (i := 20) (oi := { dst := some 2, op := Op.assign (Operand.tmp 72), type := 4, pos := "law.go:37", after := #[{ on := 19, ground := Ground.data }, { on := 17, ground := Ground.chain }, { on := 0, ground := Ground.phase }, { on := 1, ground := Ground.phase }, { on := 2, ground := Ground.phase }, { on := 3, ground := Ground.phase }, { on := 4, ground := Ground.phase }, { on := 5, ground := Ground.phase }, { on := 6, ground := Ground.phase }, { on := 7, ground := Ground.phase }, { on := 8, ground := Ground.phase }, { on := 9, ground := Ground.phase }, { on := 10, ground := Ground.phase }, { on := 11, ground := Ground.phase }, { on := 12, ground := Ground.phase }, { on := 13, ground := Ground.phase }, { on := 14, ground := Ground.phase }, { on := 15, ground := Ground.phase }, { on := 16, ground := Ground.phase }, { on := 17, ground := Ground.phase }, { on := 18, ground := Ground.phase }, { on := 19, ground := Ground.phase }], guard := none }) (v := ?_) rfl (by kernel_rfl) (by kernel_rfl) (by kernel_rfl) (by assumption) ?_ ?_; rotate_left; focus (refine .inl ⟨by kernel_rfl, ?_⟩; intro w hSw; (try dsimp only at hSw); go_simp; (try with_reducible rfl)); (try simp only [Act.put, List.setIfInBounds_toArray, List.set_cons_zero, List.set_cons_succ]))
    refine wpAnyH_done (by kernel_rfl) ?_ _
    refine NoPanic.normal ?_
    have hLast := hHeld17
    clear hHeld17
    go_wp2
    go_ret
    exact ⟨rfl, (And.left hLast).a.bel⟩
  · rw [if_neg hz] at HPU
    have dz : (rZ x != 0) = true := zb_of (by simpa using hz)
    generalize rZ x = z at *
    clear hz g1 g2 HRP hlen
    go_enter Tryd.func3, Tryd.ntmps3
    go_wp2_with (first
      | (go_at_call 6; go_must ((with_reducible refine HAW.out.mono ?_); rintro e w1 ⟨rfl, hb⟩; have H1 := Lib.hid (H0.out.on hb); obtain ⟨c0, c1, c2, c3, c4, c5, c6, c7, c8⟩ := H1.out.bx.1.1.im; clear hb))
      | (go_at_call 7; go_must ((with_reducible refine (HRR.out _).mono ?_); rintro e w2 ⟨rfl, hb⟩; clear c0 c1 c2 c3 c4 c5 c6 c7 c8; have H2 := Lib.hid (H1.out.on hb); obtain ⟨c0, c1, c2, c3, c4, c5, c6, c7, c8⟩ := H2.out.bx.1.1.im; clear hb))
      | (go_at_call 8; go_must ((with_reducible refine (HPU.out _ H2.out.tb).mono ?_); intro e w3 hq; obtain ⟨v, rfl, hr, hb⟩ := hq; obtain ⟨Ab, cb, rfl, _⟩ := hr.pc; clear c0 c1 c2 c3 c4 c5 c6 c7 c8; have H3 := Lib.hid (H2.out.on hb); obtain ⟨c0, c1, c2, c3, c4, c5, c6, c7, c8⟩ := H3.out.bx.1.1.im; clear hb hr))
      | (go_at_call 9; go_must ((with_reducible refine (HIR.out _ H3.out.tb).mono ?_); rintro e w4 ⟨rfl, hb⟩; clear c0 c1 c2 c3 c4 c5 c6 c7 c8; have H4 := Lib.hid (H3.out.on hb); clear hb)))
    go_ret
    exact ⟨rfl, bx_bel H4.out.bx⟩
end Go.Proofs.YtdogjinjbnlgdaaDoor

/- The walk of ImportsBack. -/
namespace Go.Proofs.YtdogjinjbnlgdaaDoor
open Go.RowKit
set_option linter.unusedVariables false
set_option maxRecDepth 100000

theorem take_one {l : List Im} {k : Nat} {x : Im} (h : l[k]? = some x) : l.take (k + 1) = l.take k ++ [x] := by rw [List.take_add_one, h]; rfl
/-- What the law keeps once the list is read. -/
structure BK (w : World) (l : List Im) (base : Nat) (A2 : Option Addr) (c2 : Nat) (B : Nat) (Ab : Option Addr) (y : List UInt8) (W : World) : Prop where
  bel : Below w.heap.size w W
  r : RowM W base (.slice A2 l.length c2) l
  ly : Lies W B Ab (cells (nums y))
  o : B ≤ W.heap.size
theorem BK.grown {w W W' : World} {l : List Im} {base B c2 q : Nat} {A2 Ab : Option Addr} {y : List UInt8} (h : BK w l base A2 c2 B Ab y W) (hg : W.grownBy W' (some q)) (h1 : w.heap.size ≤ q) (h2 : q < base) (h3 : B ≤ q) : BK w l base A2 c2 B Ab y W' :=
  ⟨below_new h.bel hg h1, h.r.past hg h2, h.ly.grown hg h.o (fun g e => by injection e with e; omega), Nat.le_trans h.o hg.size⟩
theorem BK.below {w W W' : World} {l : List Im} {base B c2 : Nat} {A2 Ab : Option Addr} {y : List UInt8} (h : BK w l base A2 c2 B Ab y W) (hb : Below W.heap.size W W') : BK w l base A2 c2 B Ab y W' :=
  ⟨h.bel.trans (hb.mono h.bel.size), h.r.later hb, h.ly.below hb h.o, Nat.le_trans h.o hb.size⟩
/-- One of the input's and the one that was read, as a walk reads them; both lists. -/
abbrev TwoIm (w : World) (A A2 : Option Addr) (l : List Im) (b off b2 off2 k : Nat) (x : Im) (W : World) : Prop := (Below w.heap.size w W ∧ Ims W A l ∧ Ims W A2 l) ∧
  (W.cell? ⟨b, off + k * 9, none⟩ = some (.string (S x.mod)) ∧ W.cell? ⟨b, off + k * 9 + 1, none⟩ = some (.string (S x.nam)) ∧ W.cell? ⟨b, off + k * 9 + 2, none⟩ = some (.int .u8 x.kind.toNat) ∧ W.cell? ⟨b, off + k * 9 + 3, none⟩ = some (.int .u32 x.typ.toNat) ∧
    W.cell? ⟨b, off + k * 9 + 4, none⟩ = some (.int .u32 x.mn.toNat) ∧ W.cell? ⟨b, off + k * 9 + 5, none⟩ = some (.int .u32 x.mx.toNat) ∧ W.cell? ⟨b, off + k * 9 + 6, none⟩ = some (.bool x.bd) ∧ W.cell? ⟨b, off + k * 9 + 7, none⟩ = some (.int .u8 x.gt.toNat) ∧ W.cell? ⟨b, off + k * 9 + 8, none⟩ = some (.bool x.gm)) ∧
  (W.cell? ⟨b2, off2 + k * 9, none⟩ = some (.string (S x.mod)) ∧ W.cell? ⟨b2, off2 + k * 9 + 1, none⟩ = some (.string (S x.nam)) ∧ W.cell? ⟨b2, off2 + k * 9 + 2, none⟩ = some (.int .u8 x.kind.toNat) ∧ W.cell? ⟨b2, off2 + k * 9 + 3, none⟩ = some (.int .u32 x.typ.toNat) ∧
    W.cell? ⟨b2, off2 + k * 9 + 4, none⟩ = some (.int .u32 x.mn.toNat) ∧ W.cell? ⟨b2, off2 + k * 9 + 5, none⟩ = some (.int .u32 x.mx.toNat) ∧ W.cell? ⟨b2, off2 + k * 9 + 6, none⟩ = some (.bool x.bd) ∧ W.cell? ⟨b2, off2 + k * 9 + 7, none⟩ = some (.int .u8 x.gt.toNat) ∧ W.cell? ⟨b2, off2 + k * 9 + 8, none⟩ = some (.bool x.gm))
section
variable {w W W' : World} {A A2 : Option Addr} {l : List Im} {b off b2 off2 k : Nat} {x : Im}
theorem imTwo_of (h1 : Below w.heap.size w W) (h2 : Ims W A l) (h3 : Ims W A2 l) (hA : A = some ⟨b, off, none⟩) (hA2 : A2 = some ⟨b2, off2, none⟩) (hx : l[k]? = some x) : TwoIm w A A2 l b off b2 off2 k x W := by
  obtain ⟨c1, o1, e1, _, p⟩ := h2.nine hx
  obtain ⟨c2, o2, e2, _, q⟩ := h3.nine hx
  rw [hA] at e1
  rw [hA2] at e2
  injection e1 with e1
  injection e2 with e2
  injection e1 with a1 a2
  injection e2 with a3 a4
  subst a1; subst a2; subst a3; subst a4
  exact ⟨⟨h1, h2, h3⟩, p, q⟩
theorem imTwo_on (h : TwoIm w A A2 l b off b2 off2 k x W) (hA : A = some ⟨b, off, none⟩) (hA2 : A2 = some ⟨b2, off2, none⟩) (hx : l[k]? = some x) (hb : Below W.heap.size W W') : TwoIm w A A2 l b off b2 off2 k x W' :=
  imTwo_of (h.1.1.trans (hb.mono h.1.1.size)) (h.1.2.1.below hb) (h.1.2.2.below hb) hA hA2 hx
end
set_option maxHeartbeats 8000000 in
theorem lawB {w : World} {A : Option Addr} {c : Nat} {l : List Im} (hl : Ims w A l) (hT : Tabs w) (nl : (l.length : Int) ≤ 9223372036854775807) :
    Calls Tryd.prog 4 #[.slice A l.length c] w fun e w' => e = .returned (.bool true) ∧ Below w.heap.size w w' := by
  have HAW := Lib.hid (awake_im w hT)
  have HL := Lib.hid hl
  have HTw := Lib.hid hT
  clear hl hT
  by_cases g1 : 20 < l.length
  · have t1 : decide ((20 : Int) < (l.length : Int)) = true := decide_eq_true (by omega)
    clear g1
    go_enter Tryd.func4, Tryd.ntmps4
    go_wp2_with (go_at_call 6; go_must ((with_reducible refine HAW.out.mono ?_); rintro e w1 ⟨rfl, hb⟩; have H1 := Lib.hid hb; clear hb))
    go_ret
    exact ⟨rfl, H1.out⟩
  have t1 : decide ((20 : Int) < (l.length : Int)) = false := decide_eq_false (by omega)
  have HRC := Lib.hid (fun W => rcount_im l.length W (by omega))
  have hlb := lebL_len (l.length : Int) (by omega)
  obtain ⟨hd, hhd⟩ : ∃ hd, hd = lebL (l.length : Int) := ⟨_, rfl⟩
  rw [← hhd] at HRC hlb
  have HAL := Lib.hid (show allL l = hd ++ iputsL l by rw [hhd]; rfl)
  obtain ⟨n, hn⟩ : ∃ n, n = l.length := ⟨_, rfl⟩
  have HN := Lib.hid hn
  have HE := Lib.hid (show l.take n = l by rw [hn, List.take_length])
  have h20 : n ≤ 20 := by omega
  rw [← hn] at t1 HRC ⊢
  clear hn hhd g1 nl
  unfold Strs at HRC
  go_enter Tryd.func4, Tryd.ntmps4
  go_wp2_with (first
    | (go_at_call 6; go_must ((with_reducible refine HAW.out.mono ?_); rintro e w1 ⟨rfl, hb⟩; have H1 := Lib.hid hb; clear hb))
    | (go_at_call 17; go_must ((with_reducible refine (HRC.out _).mono ?_); rintro e w2 ⟨rfl, hb⟩; have H2 := Lib.hid (H1.out.trans (hb.mono H1.out.size)); clear hb)))
  go_loopw [3, 4, 5] (fun code want i wr => ∃ (k : Nat) (t : List UInt8), k ≤ n ∧ i = .int .i64 k ∧ code = .int .i64 (errL (l.take k)) ∧ want = .string (S t) ∧ t.length ≤ 10 + k * 843 ∧ (errL (l.take k) = 0 → t = hd ++ iputsL (l.take k)) ∧ ShortI (l.take k) ∧ Below w.heap.size w wr) (fun _ _ i _ => n - (intOf i).toNat)
  case atStart => exact ⟨0, hd, Nat.zero_le _, rfl, rfl, rfl, by omega, (fun _ => by simp [iputsL]), (fun x hx => by cases hx), H2.out⟩
  case round =>
    obtain ⟨k, t, hk, rfl, rfl, rfl, htl, htb, hsh, hb⟩ := hrel
    have hz1 := hb.size
    by_cases hlt : k < n
    · obtain ⟨x, hx⟩ : ∃ x, l[k]? = some x := ⟨_, List.getElem?_eq_getElem (by rw [← HN.out]; exact hlt)⟩
      obtain ⟨b, off, rfl, hbl, m0, m1, m2, m3, m4, m5, m6, m7, m8⟩ := (HL.out.below hb).nine hx
      have s1 := S_size x.mod
      have s2 := S_size x.nam
      have HBA := Lib.hid (hb.alloc hz1 (.cells (imC x) 28))
      have hstep := errL_snoc hx
      have hpsn := iputsL_snoc hx
      by_cases b1 : 400 < x.mod.length
      · have t2 : decide ((400 : Int) < (x.mod.length : Int)) = true := decide_eq_true (by omega)
        clear b1 htb hsh hb hx hstep hpsn htl s2
        go_wp2
        go_ret
        exact ⟨rfl, HBA.out⟩
      have t2 : decide ((400 : Int) < (x.mod.length : Int)) = false := decide_eq_false (by omega)
      by_cases b2 : 400 < x.nam.length
      · have t3 : decide ((400 : Int) < (x.nam.length : Int)) = true := decide_eq_true (by omega)
        clear b1 b2 htb hsh hb hx hstep hpsn htl
        go_wp2
        go_ret
        exact ⟨rfl, HBA.out⟩
      have t3 : decide ((400 : Int) < (x.nam.length : Int)) = false := decide_eq_false (by omega)
      have HSH : Hid (ShortI (l.take (k + 1))) := Lib.hid fun q hq => by
        rw [take_one hx] at hq
        rcases List.mem_append.1 hq with hq | hq
        · exact hsh q hq
        · rw [List.mem_singleton] at hq; subst hq; omega
      have hil := iputL_len (x := x) (n := 400) (by omega) (by omega) (by omega)
      have HRR := Lib.hid (rright_im x (wr.alloc (.cells (imC x) 28)) (by omega) (by omega))
      have HRP := Lib.hid (fun W => rput_im x W (by omega) (by omega))
      have HW := Lib.hid (Whole.made wr 28 (imC x))
      unfold Strs at HRP
      by_cases e0 : errL (l.take k) = 0
      · rw [if_neg (by simpa using e0)] at hstep
        have ht := htb e0
        have d0 : (errL (l.take k) == 0) = true := by simpa using e0
        obtain ⟨q, hq⟩ : ∃ q, q = errL (l.take k) := ⟨_, rfl⟩
        rw [← hq] at d0 ⊢
        by_cases z0 : rZ x = 0
        · rw [z0] at HRR hstep
          have HSTEP := Lib.hid hstep
          have HTT := Lib.hid ht
          have HPS := Lib.hid hpsn
          obtain ⟨y, hy⟩ : ∃ y, y = iputL x := ⟨_, rfl⟩
          rw [← hy] at HRP hil HPS
          have st := S_size t
          have sy := S_size y
          have q1 : ¬ 9223372036854775807 < (S t).size + (S y).size := by omega
          clear b1 b2 htb hsh hb hx hstep hpsn e0 hq ht hy z0 st sy
          go_wp2_with (first
            | (go_at_call 7; go_must ((with_reducible refine HRR.out.mono ?_); rintro e w3 ⟨rfl, hb⟩; have H3 := Lib.hid (HBA.out.trans (hb.mono HBA.out.size)); obtain ⟨c0, c1, c2, c3, c4, c5, c6, c7, c8⟩ := (HW.out.below hb).im; clear hb))
            | (go_at_call 14; go_must ((with_reducible refine (HRP.out _).mono ?_); rintro e w4 ⟨rfl, hb⟩; have H4 := Lib.hid (H3.out.trans (hb.mono H3.out.size)); clear hb)))
          go_roundw
          case rel => exact ⟨k + 1, t ++ y, by omega, by go_num, by rw [HSTEP.out], by rw [S_append], by rw [List.length_append]; omega, fun _ => by rw [HPS.out, HTT.out, List.append_assoc], HSH.out, H4.out⟩
          case measure => simp [intOf]; omega
        · have HSTEP := Lib.hid hstep
          have HZN := Lib.hid z0
          have d1 : (rZ x == 0) = false := by simpa using z0
          obtain ⟨z, hz⟩ : ∃ z, z = rZ x := ⟨_, rfl⟩
          rw [← hz] at HRR HSTEP HZN d1
          clear b1 b2 htb hsh hb hx hstep hpsn e0 hq ht z0 hz HRP
          go_wp2_with (go_at_call 7; go_must ((with_reducible refine HRR.out.mono ?_); rintro e w3 ⟨rfl, hb⟩; have H3 := Lib.hid (HBA.out.trans (hb.mono HBA.out.size)); clear hb))
          go_roundw
          case rel => exact ⟨k + 1, t, by omega, by go_num, by rw [HSTEP.out], rfl, by omega, fun e => absurd (HSTEP.out.symm.trans e) HZN.out, HSH.out, H3.out⟩
          case measure => simp [intOf]; omega
      · rw [if_pos e0] at hstep
        have HSTEP := Lib.hid hstep
        have HCN := Lib.hid e0
        have d0 : (errL (l.take k) == 0) = false := by simpa using e0
        obtain ⟨q, hq⟩ : ∃ q, q = errL (l.take k) := ⟨_, rfl⟩
        rw [← hq] at d0 HSTEP HCN ⊢
        clear b1 b2 htb hsh hb hx hstep hpsn e0 hq HRP HRR
        go_wp2
        go_roundw
        case rel => exact ⟨k + 1, t, by omega, by go_num, by rw [HSTEP.out], rfl, by omega, fun e => absurd (HSTEP.out.symm.trans e) HCN.out, HSH.out, HBA.out⟩
        case measure => simp [intOf]; omega
    · obtain rfl : k = n := by omega
      rw [HE.out] at htb hsh ⊢
      have HB := Lib.hid hb
      have hpa := putall_im (c := c) (HL.out.below hb) (HTw.out.below hb) hsh (by rw [← HN.out]; omega)
      rw [← HN.out] at hpa
      unfold PuttedAll at hpa
      by_cases e0 : errL l = 0
      · have ht := (htb e0).trans HAL.out.symm
        rw [if_pos e0, e0] at hpa
        have HGA := Lib.hid (fun W p (h : Sc W p (allL l) 0) (hT : TbN p W) => getall_im h hT rfl e0 (by rw [← HN.out]; omega))
        rw [e0]
        have htl2 : (allL l).length ≤ 1000000 := by rw [← ht]; omega
        rw [ht]
        obtain ⟨y, hy⟩ : ∃ y, y = allL l := ⟨_, rfl⟩
        rw [← hy] at hpa HGA htl2 ⊢
        have HPA := Lib.hid hpa
        clear hpa htb hsh hb e0 ht hy htl hlt
        go_upto_region 20 with (first
          | (go_at_call 18; go_must ((with_reducible refine HPA.out.mono ?_); intro e w3 hq; obtain ⟨v, rfl, hr, hb⟩ := hq; obtain ⟨Ab, cb, rfl, hpc⟩ := hr.pc; have H3 := Lib.hid (HB.out.trans (hb.mono HB.out.size)); have HP3 := Lib.hid hpc; clear hb hr hpc))
          | (go_at_call 10; go_must ((with_reducible refine (over_all HP3.out.lies htl2).mono ?_); intro e w7 hq; obtain ⟨p, rfl, hpp, hs, hb⟩ := hq; have HS7 := Lib.hid hs; have HB37 := Lib.hid hb; have HB7 := Lib.hid (H3.out.trans (hb.mono H3.out.size)); clear hs hb)))
        have h7p := HS7.out.lt
        have h3z := H3.out.size
        have HS8 := Lib.hid (HS7.out.alloc (.cells #[.pointer (some ⟨p, 0, none⟩)] 36))
        have HPT := Lib.hid (Whole.made w7 36 #[.pointer (some ⟨p, 0, none⟩)])
        have HB8 := Lib.hid (HB7.out.trans ((below_box w7 (.cells #[.pointer (some ⟨p, 0, none⟩)] 36)).mono HB7.out.size))
        have HL8 := Lib.hid (HP3.out.lies.below (HB37.out.trans ((below_box w7 (.cells #[.pointer (some ⟨p, 0, none⟩)] 36)).mono HB37.out.size)) (Nat.le_refl _))
        have h8 : w3.heap.size ≤ (w7.alloc (.cells #[.pointer (some ⟨p, 0, none⟩)] 36)).heap.size := Nat.le_trans HB37.out.size (below_box w7 _).size
        have h87 : w7.heap.size < (w7.alloc (.cells #[.pointer (some ⟨p, 0, none⟩)] 36)).heap.size := HPT.out.lt
        clear HAW H1 H2 HB HPA H3 HP3 HB37 HB7 HS7
        generalize w7.alloc (.cells #[.pointer (some ⟨p, 0, none⟩)] 36) = W8 at *
        generalize w7.heap.size = b6 at *
        have HV := Lib.hid (valueM_ok (T := fun v W => v.2.1 = l.length ∧ BK w l (W8.heap.size + 4) v.1 v.2.2 w3.heap.size Ab y W) (cfI2 #[.pointer (some ⟨b6, 0, none⟩)]) (q := p) (w := W8) (by omega)
          (fun q W W' b h1 h2 h3 hg => ⟨h3.1, h3.2.grown hg (by omega) (by omega) (by omega)⟩)
          (fun W hb hsz => by
            have hS := HS8.out.below hb
            have hB := HB8.out.trans (hb.mono HB8.out.size)
            refine (clos2 (p := p) (l := y) (xs := l) (HPT.out.below hb) (HGA.out W p hS (TbN.of HTw.out hB (by omega) (Nat.le_of_lt hS.lt)))).mono ?_
            rintro e w' ⟨v, rfl, hr, hs, hg⟩
            obtain ⟨A2, c2, rfl⟩ := hr.slice
            exact ⟨(A2, l.length, c2), rfl, ⟨rfl, below_new hB hg (by omega), hr.mono hsz, (HL8.out.below hb h8).grown hg (Nat.le_trans h8 hb.size) (fun g e => by injection e with e; omega), Nat.le_trans h8 (Nat.le_trans hb.size hg.size)⟩, hg⟩))
        clear HGA HS8 HPT HL8
        go_upto_region 21 with (go_at_call 19; go_must ((with_reducible refine HV.out.mono ?_); rintro e w9 ⟨⟨A2, n2, c2⟩, rfl, ⟨hn2, hbk⟩, hg⟩; have HN2 := Lib.hid hn2; clear hn2; have HBK := Lib.hid (hbk.below (below_box w9 (.cells #[.int .i64 0, .int .i64 0] 39))); have k0 := (Whole.made w9 39 #[.int .i64 0, .int .i64 0]).cell 0; clear hbk hg))
        simp only [List.getElem?_toArray, List.getElem?_cons_zero] at k0
        have hn3 : n2 = k := HN2.out.trans HN.out.symm
        clear HN2
        subst hn3
        generalize w9.alloc (.cells #[.int .i64 0, .int .i64 0] 39) = W10 at *
        have hcv := str_any HBK.out.ly cb 9 Tryd.underlying9
        have HI := Lib.hid (HL.out.below HBK.out.bel)
        have HJ := Lib.hid HBK.out.r.ims
        have HSm := Lib.hid (fun x W => show Calls Tryd.prog 15 #[imV x, imV x] W fun e w' => e = .returned (.bool true) ∧ Below W.heap.size W w' from by have h2 := refSame_im x x W; rw [decide_eq_true rfl] at h2; exact h2)
        clear HV HB8
        go_wp2
        clear hcv k0
        go_loopw [12] (fun i wr => ∃ j : Nat, j ≤ n2 ∧ i = .int .i64 j ∧ Below w.heap.size w wr ∧ Ims wr A l ∧ Ims wr A2 l) (fun i _ => n2 - (intOf i).toNat)
        case atStart => exact ⟨0, Nat.zero_le _, rfl, HBK.out.bel, HI.out, HJ.out⟩
        case round =>
          obtain ⟨j, hj, rfl, hb, hi, hjj⟩ := hrel
          by_cases hlt : j < n2
          · obtain ⟨x, hx⟩ : ∃ x, l[j]? = some x := ⟨_, List.getElem?_eq_getElem (by rw [← HN.out]; exact hlt)⟩
            obtain ⟨b, off, hA, _⟩ := hi.nine hx
            obtain ⟨b2, off2, hA2, _⟩ := hjj.nine hx
            have hS0 := imTwo_of hb hi hjj hA hA2 hx
            have HS0 := Lib.hid (imTwo_on hS0 hA hA2 hx (Below.refl _ _).drew)
            have HON := Lib.hid (fun W W' (h : TwoIm w A A2 l b off b2 off2 j x W) (hb : Below W.heap.size W W') => imTwo_on h hA hA2 hx hb)
            subst hA; subst hA2
            clear hx hb hi hjj hS0
            go_upto_region 26 with fail
            refine wp_region_noPanic ?_
            refine wp_region_held_drew (S := fun W => TwoIm w (some ⟨b, off, none⟩) (some ⟨b2, off2, none⟩) l b off b2 off2 j x W) (by kernel_rfl) HS0.out (fun hHeld => ?_)
            (refine heldTake (i := 0) (oi := { dst := some 99, op := Op.move (Operand.tmp 10), type := 48, pos := "law.go:96", after := #[], guard := none }) (v := ?_) rfl (by kernel_rfl) (by kernel_rfl) (by kernel_rfl) (by assumption) ?_ ?_; rotate_left; focus (refine .inl ⟨by kernel_rfl, ?_⟩; intro w hSw; (try dsimp only at hSw); go_simp; (try with_reducible rfl)); (try simp only [Act.put, List.setIfInBounds_toArray, List.set_cons_zero, List.set_cons_succ]))
            (refine heldTake (i := 1) (oi := { dst := some 100, op := Op.move (Operand.tmp 12), type := 3, pos := "law.go:96", after := #[], guard := none }) (v := ?_) rfl (by kernel_rfl) (by kernel_rfl) (by kernel_rfl) (by assumption) ?_ ?_; rotate_left; focus (refine .inl ⟨by kernel_rfl, ?_⟩; intro w hSw; (try dsimp only at hSw); go_simp; (try with_reducible rfl)); (try simp only [Act.put, List.setIfInBounds_toArray, List.set_cons_zero, List.set_cons_succ]))
            (refine heldTake (i := 2) (oi := { dst := some 101, op := Op.indexAddr 48 (Operand.tmp 99) (Operand.tmp 100), type := 0, pos := "law.go:96", after := #[{ on := 0, ground := Ground.data }, { on := 1, ground := Ground.data }], guard := none }) (v := ?_) rfl (by kernel_rfl) (by kernel_rfl) (by kernel_rfl) (by assumption) ?_ ?_; rotate_left; focus (refine .inl ⟨by kernel_rfl, ?_⟩; intro w hSw; (try dsimp only at hSw); go_simp; (try with_reducible rfl)); (try simp only [Act.put, List.setIfInBounds_toArray, List.set_cons_zero, List.set_cons_succ]))
            (refine heldTake (i := 3) (oi := { dst := some 102, op := Op.load 28 (Operand.tmp 101), type := 28, pos := "law.go:96", after := #[{ on := 2, ground := Ground.data }], guard := none }) (v := ?_) rfl (by kernel_rfl) (by kernel_rfl) (by kernel_rfl) (by assumption) ?_ ?_; rotate_left; focus (refine .inl ⟨by kernel_rfl, ?_⟩; intro w hSw; (try dsimp only at hSw); go_simp; (try with_reducible rfl)); (try simp only [Act.put, List.setIfInBounds_toArray, List.set_cons_zero, List.set_cons_succ]))
            (refine heldTake (i := 4) (oi := { dst := some 103, op := Op.move (Operand.tmp 0), type := 48, pos := "law.go:96", after := #[], guard := none }) (v := ?_) rfl (by kernel_rfl) (by kernel_rfl) (by kernel_rfl) (by assumption) ?_ ?_; rotate_left; focus (refine .inl ⟨by kernel_rfl, ?_⟩; intro w hSw; (try dsimp only at hSw); go_simp; (try with_reducible rfl)); (try simp only [Act.put, List.setIfInBounds_toArray, List.set_cons_zero, List.set_cons_succ]))
            (refine heldTake (i := 5) (oi := { dst := some 104, op := Op.move (Operand.tmp 12), type := 3, pos := "law.go:96", after := #[], guard := none }) (v := ?_) rfl (by kernel_rfl) (by kernel_rfl) (by kernel_rfl) (by assumption) ?_ ?_; rotate_left; focus (refine .inl ⟨by kernel_rfl, ?_⟩; intro w hSw; (try dsimp only at hSw); go_simp; (try with_reducible rfl)); (try simp only [Act.put, List.setIfInBounds_toArray, List.set_cons_zero, List.set_cons_succ]))
            (refine heldTake (i := 6) (oi := { dst := some 105, op := Op.indexAddr 48 (Operand.tmp 103) (Operand.tmp 104), type := 0, pos := "law.go:96", after := #[{ on := 4, ground := Ground.data }, { on := 5, ground := Ground.data }], guard := none }) (v := ?_) rfl (by kernel_rfl) (by kernel_rfl) (by kernel_rfl) (by assumption) ?_ ?_; rotate_left; focus (refine .inl ⟨by kernel_rfl, ?_⟩; intro w hSw; (try dsimp only at hSw); go_simp; (try with_reducible rfl)); (try simp only [Act.put, List.setIfInBounds_toArray, List.set_cons_zero, List.set_cons_succ]))
            (refine heldTake (i := 7) (oi := { dst := some 106, op := Op.load 28 (Operand.tmp 105), type := 28, pos := "law.go:96", after := #[{ on := 6, ground := Ground.data }], guard := none }) (v := ?_) rfl (by kernel_rfl) (by kernel_rfl) (by kernel_rfl) (by assumption) ?_ ?_; rotate_left; focus (refine .inl ⟨by kernel_rfl, ?_⟩; intro w hSw; (try dsimp only at hSw); go_simp; (try with_reducible rfl)); (try simp only [Act.put, List.setIfInBounds_toArray, List.set_cons_zero, List.set_cons_succ]))
            refine wpAnyH_ready (rs := [8]) (by kernel_rfl) (by simp) ?_
            refine AllReadyH.cons (o := { dst := some 107, op := Op.call { callee := Callee.value (Operand.func 15), args := #[Operand.tmp 102, Operand.tmp 106], argTypes := #[28, 28] }, type := 4, pos := "law.go:96", after := #[{ on := 3, ground := Ground.data }, { on := 7, ground := Ground.data }], guard := none }) rfl (fun K hK => ?_) AllReadyH.nil
            go_simp
            (go_at_call 15; (with_reducible refine (HSm.out x _).mono ?_); rintro e w11 ⟨rfl, hb⟩; have hk11 := HON.out _ _ hHeld hb; clear hb)
            refine hK.out _ _ hk11 (fun hHeld8 => ?_)
            clear hK K hHeld
            (try simp only [Act.put, List.setIfInBounds_toArray, List.set_cons_zero, List.set_cons_succ])
            (refine heldTake (i := 9) (oi := { dst := some 108, op := Op.unOp UnOp.not 4 (Operand.tmp 107), type := 4, pos := "law.go:96", after := #[{ on := 8, ground := Ground.data }], guard := none }) (v := ?_) rfl (by kernel_rfl) (by kernel_rfl) (by kernel_rfl) (by assumption) ?_ ?_; rotate_left; focus (refine .inl ⟨by kernel_rfl, ?_⟩; intro w hSw; (try dsimp only at hSw); go_simp; (try with_reducible rfl)); (try simp only [Act.put, List.setIfInBounds_toArray, List.set_cons_zero, List.set_cons_succ]))
            refine wpAnyH_done (by kernel_rfl) ?_ _
            refine NoPanic.normal ?_
            have hLast := hHeld8
            clear hHeld8
            obtain ⟨⟨hb3, hi3, hj3⟩, _⟩ := hLast
            have HB3 := Lib.hid hb3
            have HI3 := Lib.hid hi3
            have HJ3 := Lib.hid hj3
            clear hb3 hi3 hj3
            go_wp2
            go_roundw
            case rel => exact ⟨j + 1, by omega, by go_num, HB3.out, HI3.out, HJ3.out⟩
            case measure => simp [intOf]; omega
          · obtain rfl : j = n2 := by omega
            have HB3 := Lib.hid hb
            clear hb hi hjj
            go_wp2
            go_ret
            exact ⟨rfl, HB3.out⟩
      · rw [if_neg e0] at hpa
        have d0 : (errL l != 0) = true := zb_of (by simpa using e0)
        obtain ⟨z, hz⟩ : ∃ z, z = errL l := ⟨_, rfl⟩
        rw [← hz] at hpa d0 ⊢
        have HPA := Lib.hid hpa
        clear hpa htb hsh hb e0 hz hlt
        go_wp2_with (go_at_call 18; go_must ((with_reducible refine HPA.out.mono ?_); intro e w3 hq; obtain ⟨v, rfl, hr, hb⟩ := hq; obtain ⟨Ab, cb, rfl, _⟩ := hr.pc; have H3 := Lib.hid (HB.out.trans (hb.mono HB.out.size)); clear hb hr))
        go_ret
        exact ⟨rfl, H3.out⟩
end Go.Proofs.YtdogjinjbnlgdaaDoor
