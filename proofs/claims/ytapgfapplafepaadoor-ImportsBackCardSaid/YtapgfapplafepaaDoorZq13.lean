/- The walk of ExportsPuts. -/
import Derived.Test.YtapgfapplafepaaDoorZq11
import Derived.Test.YtapgfapplafepaaDoorZq12
import Derived.ProofKit
import Derived.Test.YtapgfapplafepaaDoorZq01
import Derived.Test.YtapgfapplafepaaDoorZq10
import Derived.OpenShut
import Derived.ShutString
import Derived.ChangeOld
import Derived.ChangeSame
import Derived.Deep.Slices
import Derived.Deep.Fields
import Derived.Lib.SmallJoins
import Derived.Test.YtapgfapplafepaaDoorZq02
import Derived.Test.YtapgfapplafepaaDoorTie
import Derived.Lib.LaidIn
import Derived.Lib.LaidU8T
import Derived.MakeChecks
import Derived.Stop.Joined
namespace Go.Proofs.YtapgfapplafepaaDoor
open Go.RowKit
set_option linter.unusedVariables false
set_option maxRecDepth 100000

/-- What the law keeps: the box of its input, the bytes, the scanner's cell. -/
structure PKE (w : World) (x : Ex) (p : Nat) (B : Nat) (Ab : Option Addr) (y : List UInt8) (b6 : Nat) (W : World) : Prop where
  bx : Whole W w.heap.size 62 (exC x)
  ly : Lies W B Ab (cells (nums y))
  pt : Whole W b6 36 #[.pointer (some ⟨p, 0, none⟩)]
  bel : Below w.heap.size w W
  o1 : w.heap.size < p
  o2 : B ≤ p
  o3 : p < b6
  o4 : B ≤ W.heap.size
section
variable {w W W' : World} {x : Ex} {p B b6 k k' q : Nat} {l : List UInt8} {Ab : Option Addr} {y : List UInt8}
theorem PKE.grown (h : PKE w x p B Ab y b6 W) (hg : W.grownBy W' (some q)) (h1 : p ≤ q) (h2 : b6 ≠ q) : PKE w x p B Ab y b6 W' := by
  obtain ⟨a1, a2, a3, a4, a5, a6, a7, a8⟩ := h
  exact ⟨a1.grown hg (by simp only [ne_eq, Option.some.injEq]; omega), a2.grown hg a8 (fun g e => by injection e with e; omega), a3.grown hg (by simp only [ne_eq, Option.some.injEq]; omega), below_new a4 hg (by omega), a5, a6, a7, Nat.le_trans a8 hg.size⟩
theorem PKE.below (h : PKE w x p B Ab y b6 W) (hb : Below W.heap.size W W') : PKE w x p B Ab y b6 W' := by
  obtain ⟨a1, a2, a3, a4, a5, a6, a7, a8⟩ := h
  exact ⟨a1.below hb, a2.below hb a8, a3.below hb, a4.trans (hb.mono a4.size), a5, a6, a7, Nat.le_trans a8 hb.size⟩
/-- At the law's end. -/
structure PEE (w : World) (x : Ex) (p : Nat) (B : Nat) (Ab : Option Addr) (y : List UInt8) (b6 g : Nat) (l : List UInt8) (k : Nat) (W : World) : Prop where
  a : PKE w x p B Ab y b6 W
  sc : Sc W p l k
  yb : Whole W g 62 (exC x)
  st : Whole W (g + 1) 39 #[.int .i64 0, .int .i64 0]
theorem PEE.below {g : Nat} (h : PEE w x p B Ab y b6 g l k W) (hb : Below W.heap.size W W') : PEE w x p B Ab y b6 g l k W' := ⟨h.a.below hb, h.sc.below hb, h.yb.below hb, h.st.below hb⟩
/-- .. and what it reads as. -/
abbrev PEEc (w : World) (x : Ex) (p : Nat) (B : Nat) (Ab : Option Addr) (cb : Nat) (y : List UInt8) (b6 g : Nat) (l : List UInt8) (k : Nat) (W : World) : Prop := PEE w x p B Ab y b6 g l k W ∧
  (W.cell? ⟨w.heap.size, 0, none⟩ = some (.string (S x.nam)) ∧ W.cell? ⟨w.heap.size, 1, none⟩ = some (.int .u8 x.kind.toNat) ∧ W.cell? ⟨w.heap.size, 2, none⟩ = some (.int .u32 x.idx.toNat)) ∧
  (W.cell? ⟨g, 0, none⟩ = some (.string (S x.nam)) ∧ W.cell? ⟨g, 1, none⟩ = some (.int .u8 x.kind.toNat) ∧ W.cell? ⟨g, 2, none⟩ = some (.int .u32 x.idx.toNat)) ∧
  W.cell? ⟨g + 1, 0, none⟩ = some (.int .i64 0) ∧ W.cell? ⟨b6, 0, none⟩ = some (.pointer (some ⟨p, 0, none⟩)) ∧ (convert 31 9 (.slice Ab y.length cb)).run Tryd.prog W = .ok (.string (S y)) W
theorem PEE.all {g : Nat} (h : PEE w x p B Ab y b6 g l k W) (cb : Nat) : PEEc w x p B Ab cb y b6 g l k W :=
  ⟨h, h.a.bx.ex, h.yb.ex, h.st.cell 0, h.a.pt.cell 0, str_any h.a.ly cb 9 Tryd.underlying9⟩
end
/-- The boxed input and the tables. -/
structure PStE (w : World) (x : Ex) (W : World) : Prop where
  tb : Tabs W
  bx : BxE w w.heap.size x W
theorem PStE.on {w W W' : World} {x : Ex} (h : PStE w x W) (hb : Below W.heap.size W W') : PStE w x W' := ⟨h.tb.below hb, bxE_on h.bx hb⟩
set_option maxHeartbeats 8000000 in
theorem lawXP {w : World} {x : Ex} (hT : Tabs w) :
    Calls Tryd.prog 6 #[exV x] w fun e w' => e = .returned (.bool true) ∧ Below w.heap.size w w' := by
  have HTw := Lib.hid hT
  have h0 : PStE w x (w.alloc (.cells (exC x) 62)) := ⟨hT.below (below_box _ _), bxE_start w x⟩
  have HAW := Lib.hid (awake_ex _ h0.tb)
  have H0 := Lib.hid h0
  have s2 := S_size x.nam
  clear h0 hT
  by_cases g2 : 400 < x.nam.length
  · have t2 : decide ((400 : Int) < (x.nam.length : Int)) = true := decide_eq_true (by omega)
    clear g2
    go_enter Tryd.func6, Tryd.ntmps6
    go_wp2_with (go_at_call 28; go_must ((with_reducible refine HAW.out.mono ?_); rintro e w1 ⟨rfl, hb⟩; have H1 := Lib.hid (H0.out.on hb); obtain ⟨c0, c1, c2⟩ := H1.out.bx.1.1.ex; clear hb))
    go_ret
    exact ⟨rfl, bxE_bel H1.out.bx⟩
  have t2 : decide ((400 : Int) < (x.nam.length : Int)) = false := decide_eq_false (by omega)
  have HRR := Lib.hid (fun W => rright_ex x W (by omega))
  have HIR := Lib.hid (fun W (h : Tabs W) => eright_any x W (by omega) h)
  have HPU := Lib.hid (fun W (h : Tabs W) => put_ex x W h (by omega))
  have HRP := Lib.hid (fun W => rput_ex x W (by omega))
  have hlen := eputL_len (x := x) (n := 400) (by omega) (by omega)
  unfold PuttedE at HPU
  by_cases hz : rE x = 0
  · rw [if_pos hz] at HPU
    have HGT := Lib.hid (fun W p l r k (h : Sc W p l k) (hT : TbN p W) (hd : l.drop k = eputL x ++ r) => get_ex h hT hd hz)
    rw [hz] at HRR HIR HPU
    obtain ⟨y, hy⟩ : ∃ y, y = eputL x := ⟨_, rfl⟩
    rw [← hy] at HPU HRP hlen HGT
    have hl7 : (([] ++ y) ++ [7]).length ≤ 1000000 := by simp only [List.length_append, List.length_singleton, List.length_nil]; omega
    have hl7' : ([] ++ y : List UInt8).length + ([7] : List UInt8).length ≤ 1000000 := by simp only [List.length_append, List.length_singleton, List.length_nil]; omega
    have hl0 : ([] : List UInt8).length + y.length ≤ 1000000 := by simp only [List.length_nil]; omega
    have HD := Lib.hid (show (([] ++ y) ++ [7] : List UInt8).drop 0 = y ++ [7] from by simp)
    have HLf := Lib.hid (fun W p (h : Sc W p (([] ++ y) ++ [7]) y.length) => by
      have h2 := left_any h
      have e : (((([] ++ y) ++ [7] : List UInt8).length : Int) - (y.length : Int)) = 1 := by simp only [List.length_append, List.length_singleton, List.length_nil]; omega
      rw [e] at h2
      exact h2)
    have HSm := Lib.hid (fun W => show Calls Tryd.prog 36 #[exV x, exV x] W fun e w' => e = .returned (.bool true) ∧ Below W.heap.size W w' from by have h2 := refSame_ex x x W; rw [decide_eq_true rfl] at h2; exact h2)
    obtain ⟨L, hL⟩ : ∃ L, L = (([] ++ y) ++ [7] : List UInt8) := ⟨_, rfl⟩
    rw [← hL] at hl7 HD HLf
    have HLd := Lib.hid hL
    clear hL
    clear hz hy g2
    go_enter Tryd.func6, Tryd.ntmps6
    go_upto_region 11 with (first
      | (go_at_call 28; go_must ((with_reducible refine HAW.out.mono ?_); rintro e w1 ⟨rfl, hb⟩; have H1 := Lib.hid (H0.out.on hb); obtain ⟨c0, c1, c2⟩ := H1.out.bx.1.1.ex; clear hb))
      | (go_at_call 29; go_must ((with_reducible refine (HRR.out _).mono ?_); rintro e w2 ⟨rfl, hb⟩; clear c0 c1 c2; have H2 := Lib.hid (H1.out.on hb); obtain ⟨c0, c1, c2⟩ := H2.out.bx.1.1.ex; clear hb))
      | (go_at_call 30; go_must ((with_reducible refine (HPU.out _ H2.out.tb).mono ?_); intro e w3 hq; obtain ⟨v, rfl, hr, hb⟩ := hq; obtain ⟨Ab, cb, rfl, hpc⟩ := hr.pc; clear c0 c1 c2; have H3 := Lib.hid (H2.out.on hb); have HP3 := Lib.hid hpc; obtain ⟨c0, c1, c2⟩ := H3.out.bx.1.1.ex; clear hb hr hpc))
      | (go_at_call 31; go_must ((with_reducible refine (HIR.out _ H3.out.tb).mono ?_); rintro e w4 ⟨rfl, hb⟩; clear c0 c1 c2; have H4 := Lib.hid (H3.out.on hb); have HP4 := Lib.hid (HP3.out.below hb); clear hb)))
    have R0 := Lib.hid (Row.made w4 [] w4.heap.size w4.heap.size rfl (Nat.le_refl _) (by simp))
    have HP4' := Lib.hid (HP4.out.below (below_box w4 (.cells #[] 5)))
    have hB4 : w4.heap.size ≤ (w4.alloc (.cells #[] 5)).heap.size := (below_box w4 _).size
    go_upto_region 12 with (first
      | (go_at_call 13; go_must ((with_reducible refine (over_all HP6.out.lies hl7).mono ?_); intro e w7 hq; obtain ⟨p, rfl, hpp, hs, hb⟩ := hq; have HS7 := Lib.hid hs; have HB7 := Lib.hid (HB6.out.trans (hb.mono HB6.out.size)); have HB67 := Lib.hid hb; clear hs hb))
      | (have tok := HR5; at_builtin; go_must (refine row_any rfl _ _ rfl w4.heap.size _ ([] ++ y) rfl (HR5.out.later (below_box w5 (.cells #[.int .u8 7] 5))) (some ⟨w5.heap.size, 0, none⟩) 1 1 _ [7] rfl rfl (lies_made w5 [7] (0, 0)) (fun e => by cases e) hl7' (Nat.le_trans HB5.out.size (below_box w5 _).size) ?_; intro v6 w6 hr6 hb6; rw [← HLd.out] at hr6; obtain ⟨A6, c6', rfl, hpc6⟩ := hr6.pc; have HB6 := Lib.hid ((HB5.out.trans ((below_box w5 (.cells #[.int .u8 7] 5)).mono HB5.out.size)).trans hb6); have HP6 := Lib.hid hpc6; clear hr6 hb6 hpc6))
      | (at_builtin; go_must (refine row_any rfl _ _ rfl w4.heap.size _ [] rfl R0.out Ab y.length cb _ y rfl rfl HP4'.out.lies HP4'.out.nil hl0 hB4 ?_; intro v5 w5 hr5 hb5; have HR5 := Lib.hid hr5; have HB5 := Lib.hid ((below_box w4 (.cells #[] 5)).trans hb5); clear hr5 hb5)))
    have hx4 := H4.out.bx.1.1.lt
    have h46 := HB6.out.size
    have h7p := HS7.out.lt
    have hpk : PKE w x p w6.heap.size Ab y w7.heap.size (w7.alloc (.cells #[.pointer (some ⟨p, 0, none⟩)] 36)) :=
      ⟨((H4.out.bx.1.1.below HB7.out).alloc _), ((HP4.out.below HB6.out).lies.below (HB67.out.trans ((below_box w7 _).mono HB67.out.size)) (Nat.le_refl _)), Whole.made _ _ _,
        (bxE_bel H4.out.bx).trans ((HB7.out.trans ((below_box w7 _).mono HB7.out.size)).mono (bxE_bel H4.out.bx).size), by omega, hpp, h7p, Nat.le_trans HB67.out.size (below_box w7 _).size⟩
    have HPK := Lib.hid hpk
    have HS8 := Lib.hid (HS7.out.alloc (.cells #[.pointer (some ⟨p, 0, none⟩)] 36))
    have hb6 : w7.heap.size < (w7.alloc (.cells #[.pointer (some ⟨p, 0, none⟩)] 36)).heap.size := hpk.pt.lt
    clear R0 HP4' HR5 H1 H2 H3 HP3 HB5 HB6 HP6 HAW H0 HRR HIR HPU HP4 H4 HB7 HB67 HS7 hpk hl7 hl7' hl0 hB4
    generalize w7.alloc (.cells #[.pointer (some ⟨p, 0, none⟩)] 36) = W8 at *
    generalize w7.heap.size = b6 at *
    have HV := Lib.hid (valueX_ok (T := fun q W => q = x ∧ PKE w x p w6.heap.size Ab y b6 W ∧ Sc W p L y.length) (cfE1 #[.pointer (some ⟨b6, 0, none⟩)]) (q := p) (w := W8) (by omega)
      (fun q W W' b h1 h2 h3 hg => ⟨h3.1, h3.2.1.grown hg (by omega) (by omega), h3.2.2.grown hg (by simp only [ne_eq, Option.some.injEq]; omega) (fun g e => by injection e with e; omega)⟩)
      (fun W hb hsz => by
        have hW := HPK.out.below hb
        have hS := HS8.out.below hb
        refine (closE1 (x := x) (l := L) (k := y.length) hW.pt (fun W2 hb2 => ?_) hS.lt).mono ?_
        · have h2 := HGT.out W2 p L [7] 0 (hS.below hb2) (TbN.of HTw.out ((hW.below hb2).bel) (Nat.le_of_lt hW.o1) (Nat.le_of_lt (hS.below hb2).lt)) HD.out
          rw [Nat.zero_add] at h2
          exact h2
        · rintro e w' ⟨rfl, hs, hg⟩
          exact ⟨x, rfl, ⟨rfl, hW.grown hg (Nat.le_refl _) (by omega), hs⟩, hg⟩))
    clear HGT HTw
    go_upto_region 13 with (go_at_call 32; go_must ((with_reducible refine HV.out.mono ?_); rintro e w9 ⟨q, rfl, ⟨rfl, hpk, hs⟩, hg⟩; have HPE := Lib.hid (show PEE w q p w6.heap.size Ab y b6 w9.heap.size L y.length ((w9.alloc (.cells (exC q) 62)).alloc (.cells #[.int .i64 0, .int .i64 0] 39)) from ⟨(hpk.below (below_box _ _)).below (below_box _ _), (hs.alloc _).alloc _, (Whole.made _ _ _).alloc _, (made_2 w9 _ _ _)⟩); clear hpk hs hg))
    generalize (w9.alloc (.cells (exC q) 62)).alloc (.cells #[.int .i64 0, .int .i64 0] 39) = W9 at *
    refine wp_region_noPanic ?_
    refine wp_region_held_drew (S := fun W => PEEc w q p w6.heap.size Ab cb y b6 w9.heap.size L y.length W) (by kernel_rfl) ((HPE.out.below (Below.refl _ _).drew).all cb) (fun hHeld => ?_)
    (refine heldTake (i := 0) (oi := { dst := some 47, op := Op.move (Operand.tmp 4), type := 31, pos := "law.go:37", after := #[], guard := none }) (v := ?_) rfl (by kernel_rfl) (by kernel_rfl) (by kernel_rfl) (by assumption) ?_ ?_; rotate_left; focus (refine .inl ⟨by kernel_rfl, ?_⟩; intro w hSw; (try dsimp only at hSw); go_simp; (try with_reducible rfl)); (try simp only [Act.put, List.setIfInBounds_toArray, List.set_cons_zero, List.set_cons_succ]))
    (refine heldTake (i := 1) (oi := { dst := some 48, op := Op.convert 31 9 (Operand.tmp 47), type := 9, pos := "law.go:37", after := #[{ on := 0, ground := Ground.data }], guard := none }) (v := ?_) rfl (by kernel_rfl) (by kernel_rfl) (by kernel_rfl) (by assumption) ?_ ?_; rotate_left; focus (refine .inl ⟨by kernel_rfl, ?_⟩; intro w hSw; (try dsimp only at hSw); go_simp; (try with_reducible rfl)); (try simp only [Act.put, List.setIfInBounds_toArray, List.set_cons_zero, List.set_cons_succ]))
    (refine heldTake (i := 2) (oi := { dst := some 49, op := Op.load 62 (Operand.tmp 1), type := 62, pos := "law.go:37", after := #[], guard := none }) (v := ?_) rfl (by kernel_rfl) (by kernel_rfl) (by kernel_rfl) (by assumption) ?_ ?_; rotate_left; focus (refine .inl ⟨by kernel_rfl, ?_⟩; intro w hSw; (try dsimp only at hSw); go_simp; (try with_reducible rfl)); (try simp only [Act.put, List.setIfInBounds_toArray, List.set_cons_zero, List.set_cons_succ]))
    refine wpAnyH_ready (rs := [3]) (by kernel_rfl) (by simp) ?_
    refine AllReadyH.cons (o := { dst := some 50, op := Op.call { callee := Callee.value (Operand.func 35), args := #[Operand.tmp 49], argTypes := #[62] }, type := 9, pos := "law.go:37", after := #[{ on := 2, ground := Ground.data }], guard := none }) rfl (fun K hK => ?_) AllReadyH.nil
    go_simp
    (go_at_call 35; (with_reducible refine (HRP.out _).mono ?_); rintro e w10 ⟨rfl, hb⟩; have hk10 := (PEE.below (And.left hHeld) hb).all cb; clear hb)
    refine hK.out _ _ hk10 (fun hHeld3 => ?_)
    clear hK K hHeld
    (try simp only [Act.put, List.setIfInBounds_toArray, List.set_cons_zero, List.set_cons_succ])
    (refine heldTake (i := 4) (oi := { dst := some 51, op := Op.binOp BinOp.eql 9 (Operand.tmp 48) (Operand.tmp 50) 9, type := 4, pos := "law.go:37", after := #[{ on := 1, ground := Ground.data }, { on := 3, ground := Ground.data }], guard := none }) (v := ?_) rfl (by kernel_rfl) (by kernel_rfl) (by kernel_rfl) (by assumption) ?_ ?_; rotate_left; focus (refine .inl ⟨by kernel_rfl, ?_⟩; intro w hSw; (try dsimp only at hSw); go_simp; (try with_reducible rfl)); (try simp only [Act.put, List.setIfInBounds_toArray, List.set_cons_zero, List.set_cons_succ]))
    (refine heldTake (i := 5) (oi := { dst := some 52, op := Op.move (Operand.tmp 51), type := 4, pos := "law.go:37", after := #[{ on := 4, ground := Ground.data }, { on := 3, ground := Ground.chain }], guard := none }) (v := ?_) rfl (by kernel_rfl) (by kernel_rfl) (by kernel_rfl) (by assumption) ?_ ?_; rotate_left; focus (refine .inl ⟨by kernel_rfl, ?_⟩; intro w hSw; (try dsimp only at hSw); go_simp; (try with_reducible rfl)); (try simp only [Act.put, List.setIfInBounds_toArray, List.set_cons_zero, List.set_cons_succ]))
    (refine heldTake (i := 6) (oi := { dst := some 53, op := Op.fieldAddr 39 (Operand.tmp 8) 0, type := 0, pos := "law.go:37", after := #[{ on := 5, ground := Ground.guard }], guard := some (5, true) }) (v := ?_) rfl (by kernel_rfl) (by kernel_rfl) (by kernel_rfl) (by assumption) ?_ ?_; rotate_left; focus (refine .inl ⟨by kernel_rfl, ?_⟩; intro w hSw; (try dsimp only at hSw); go_simp; (try with_reducible rfl)); (try simp only [Act.put, List.setIfInBounds_toArray, List.set_cons_zero, List.set_cons_succ]))
    (refine heldTake (i := 7) (oi := { dst := some 54, op := Op.load 32 (Operand.tmp 53), type := 32, pos := "law.go:37", after := #[{ on := 6, ground := Ground.data }, { on := 5, ground := Ground.guard }], guard := some (5, true) }) (v := ?_) rfl (by kernel_rfl) (by kernel_rfl) (by kernel_rfl) (by assumption) ?_ ?_; rotate_left; focus (refine .inl ⟨by kernel_rfl, ?_⟩; intro w hSw; (try dsimp only at hSw); go_simp; (try with_reducible rfl)); (try simp only [Act.put, List.setIfInBounds_toArray, List.set_cons_zero, List.set_cons_succ]))
    (refine heldTake (i := 8) (oi := { dst := some 55, op := Op.binOp BinOp.eql 32 (Operand.tmp 54) (Operand.const (Value.int IntKind.i64 0)) 32, type := 4, pos := "law.go:37", after := #[{ on := 7, ground := Ground.data }, { on := 5, ground := Ground.guard }], guard := some (5, true) }) (v := ?_) rfl (by kernel_rfl) (by kernel_rfl) (by kernel_rfl) (by assumption) ?_ ?_; rotate_left; focus (refine .inl ⟨by kernel_rfl, ?_⟩; intro w hSw; (try dsimp only at hSw); go_simp; (try with_reducible rfl)); (try simp only [Act.put, List.setIfInBounds_toArray, List.set_cons_zero, List.set_cons_succ]))
    (refine heldTake (i := 9) (oi := { dst := some 56, op := Op.pick (Operand.tmp 52) (Operand.tmp 55) (Operand.const (Value.bool false)), type := 4, pos := "law.go:37", after := #[{ on := 5, ground := Ground.data }, { on := 8, ground := Ground.data }], guard := none }) (v := ?_) rfl (by kernel_rfl) (by kernel_rfl) (by kernel_rfl) (by assumption) ?_ ?_; rotate_left; focus (refine .inl ⟨by kernel_rfl, ?_⟩; intro w hSw; (try dsimp only at hSw); go_simp; (try with_reducible rfl)); (try simp only [Act.put, List.setIfInBounds_toArray, List.set_cons_zero, List.set_cons_succ]))
    (refine heldTake (i := 10) (oi := { dst := some 57, op := Op.move (Operand.tmp 56), type := 4, pos := "law.go:37", after := #[{ on := 9, ground := Ground.data }, { on := 5, ground := Ground.chain }], guard := none }) (v := ?_) rfl (by kernel_rfl) (by kernel_rfl) (by kernel_rfl) (by assumption) ?_ ?_; rotate_left; focus (refine .inl ⟨by kernel_rfl, ?_⟩; intro w hSw; (try dsimp only at hSw); go_simp; (try with_reducible rfl)); (try simp only [Act.put, List.setIfInBounds_toArray, List.set_cons_zero, List.set_cons_succ]))
    (refine heldTake (i := 11) (oi := { dst := some 58, op := Op.load 62 (Operand.tmp 7), type := 62, pos := "law.go:37", after := #[{ on := 10, ground := Ground.guard }], guard := some (10, true) }) (v := ?_) rfl (by kernel_rfl) (by kernel_rfl) (by kernel_rfl) (by assumption) ?_ ?_; rotate_left; focus (refine .inl ⟨by kernel_rfl, ?_⟩; intro w hSw; (try dsimp only at hSw); go_simp; (try with_reducible rfl)); (try simp only [Act.put, List.setIfInBounds_toArray, List.set_cons_zero, List.set_cons_succ]))
    (refine heldTake (i := 12) (oi := { dst := some 59, op := Op.load 62 (Operand.tmp 1), type := 62, pos := "law.go:37", after := #[{ on := 10, ground := Ground.guard }], guard := some (10, true) }) (v := ?_) rfl (by kernel_rfl) (by kernel_rfl) (by kernel_rfl) (by assumption) ?_ ?_; rotate_left; focus (refine .inl ⟨by kernel_rfl, ?_⟩; intro w hSw; (try dsimp only at hSw); go_simp; (try with_reducible rfl)); (try simp only [Act.put, List.setIfInBounds_toArray, List.set_cons_zero, List.set_cons_succ]))
    refine wpAnyH_ready (rs := [13]) (by kernel_rfl) (by simp) ?_
    refine AllReadyH.cons (o := { dst := some 60, op := Op.call { callee := Callee.value (Operand.func 36), args := #[Operand.tmp 58, Operand.tmp 59], argTypes := #[62, 62] }, type := 4, pos := "law.go:37", after := #[{ on := 11, ground := Ground.data }, { on := 12, ground := Ground.data }, { on := 10, ground := Ground.chain }, { on := 10, ground := Ground.guard }], guard := some (10, true) }) rfl (fun K hK => ?_) AllReadyH.nil
    go_simp
    (go_at_call 36; (with_reducible refine (HSm.out _).mono ?_); rintro e w11 ⟨rfl, hb⟩; have hk11 := (PEE.below (And.left hHeld3) hb).all cb; clear hb)
    refine hK.out _ _ hk11 (fun hHeld13 => ?_)
    clear hK K hHeld3
    (try simp only [Act.put, List.setIfInBounds_toArray, List.set_cons_zero, List.set_cons_succ])
    (refine heldTake (i := 14) (oi := { dst := some 61, op := Op.pick (Operand.tmp 57) (Operand.tmp 60) (Operand.const (Value.bool false)), type := 4, pos := "law.go:37", after := #[{ on := 10, ground := Ground.data }, { on := 13, ground := Ground.data }], guard := none }) (v := ?_) rfl (by kernel_rfl) (by kernel_rfl) (by kernel_rfl) (by assumption) ?_ ?_; rotate_left; focus (refine .inl ⟨by kernel_rfl, ?_⟩; intro w hSw; (try dsimp only at hSw); go_simp; (try with_reducible rfl)); (try simp only [Act.put, List.setIfInBounds_toArray, List.set_cons_zero, List.set_cons_succ]))
    (refine heldTake (i := 15) (oi := { dst := some 62, op := Op.move (Operand.tmp 61), type := 4, pos := "law.go:37", after := #[{ on := 14, ground := Ground.data }, { on := 13, ground := Ground.chain }], guard := none }) (v := ?_) rfl (by kernel_rfl) (by kernel_rfl) (by kernel_rfl) (by assumption) ?_ ?_; rotate_left; focus (refine .inl ⟨by kernel_rfl, ?_⟩; intro w hSw; (try dsimp only at hSw); go_simp; (try with_reducible rfl)); (try simp only [Act.put, List.setIfInBounds_toArray, List.set_cons_zero, List.set_cons_succ]))
    (refine heldTake (i := 16) (oi := { dst := some 63, op := Op.load 36 (Operand.tmp 6), type := 36, pos := "law.go:37", after := #[{ on := 15, ground := Ground.guard }], guard := some (15, true) }) (v := ?_) rfl (by kernel_rfl) (by kernel_rfl) (by kernel_rfl) (by assumption) ?_ ?_; rotate_left; focus (refine .inl ⟨by kernel_rfl, ?_⟩; intro w hSw; (try dsimp only at hSw); go_simp; (try with_reducible rfl)); (try simp only [Act.put, List.setIfInBounds_toArray, List.set_cons_zero, List.set_cons_succ]))
    refine wpAnyH_ready (rs := [17]) (by kernel_rfl) (by simp) ?_
    refine AllReadyH.cons (o := { dst := some 64, op := Op.call { callee := Callee.value (Operand.func 19), args := #[Operand.tmp 63], argTypes := #[36] }, type := 3, pos := "law.go:37", after := #[{ on := 16, ground := Ground.data }, { on := 15, ground := Ground.chain }, { on := 15, ground := Ground.guard }], guard := some (15, true) }) rfl (fun K hK => ?_) AllReadyH.nil
    go_simp
    (go_at_call 19; (with_reducible refine (HLf.out _ p (And.left hHeld13).sc).mono ?_); rintro e w12 ⟨rfl, m, rfl⟩; have hk12 := (PEE.below (And.left hHeld13) (below_drewN (Below.refl _ _) m)).all cb)
    refine hK.out _ _ hk12 (fun hHeld17 => ?_)
    clear hK K hHeld13
    (try simp only [Act.put, List.setIfInBounds_toArray, List.set_cons_zero, List.set_cons_succ])
    (refine heldTake (i := 18) (oi := { dst := some 65, op := Op.binOp BinOp.eql 3 (Operand.tmp 64) (Operand.const (Value.int IntKind.i64 1)) 3, type := 4, pos := "law.go:37", after := #[{ on := 17, ground := Ground.data }, { on := 15, ground := Ground.guard }], guard := some (15, true) }) (v := ?_) rfl (by kernel_rfl) (by kernel_rfl) (by kernel_rfl) (by assumption) ?_ ?_; rotate_left; focus (refine .inl ⟨by kernel_rfl, ?_⟩; intro w hSw; (try dsimp only at hSw); go_simp; (try with_reducible rfl)); (try simp only [Act.put, List.setIfInBounds_toArray, List.set_cons_zero, List.set_cons_succ]))
    (refine heldTake (i := 19) (oi := { dst := some 66, op := Op.pick (Operand.tmp 62) (Operand.tmp 65) (Operand.const (Value.bool false)), type := 4, pos := "law.go:37", after := #[{ on := 15, ground := Ground.data }, { on := 18, ground := Ground.data }], guard := none }) (v := ?_) rfl (by kernel_rfl) (by kernel_rfl) (by kernel_rfl) (by assumption) ?_ ?_; rotate_left; focus (refine .inl ⟨by kernel_rfl, ?_⟩; intro w hSw; (try dsimp only at hSw); go_simp; (try with_reducible rfl)); (try simp only [Act.put, List.setIfInBounds_toArray, List.set_cons_zero, List.set_cons_succ]))
    (refine heldTake (i := 20) (oi := { dst := some 2, op := Op.assign (Operand.tmp 66), type := 4, pos := "law.go:37", after := #[{ on := 19, ground := Ground.data }, { on := 17, ground := Ground.chain }, { on := 0, ground := Ground.phase }, { on := 1, ground := Ground.phase }, { on := 2, ground := Ground.phase }, { on := 3, ground := Ground.phase }, { on := 4, ground := Ground.phase }, { on := 5, ground := Ground.phase }, { on := 6, ground := Ground.phase }, { on := 7, ground := Ground.phase }, { on := 8, ground := Ground.phase }, { on := 9, ground := Ground.phase }, { on := 10, ground := Ground.phase }, { on := 11, ground := Ground.phase }, { on := 12, ground := Ground.phase }, { on := 13, ground := Ground.phase }, { on := 14, ground := Ground.phase }, { on := 15, ground := Ground.phase }, { on := 16, ground := Ground.phase }, { on := 17, ground := Ground.phase }, { on := 18, ground := Ground.phase }, { on := 19, ground := Ground.phase }], guard := none }) (v := ?_) rfl (by kernel_rfl) (by kernel_rfl) (by kernel_rfl) (by assumption) ?_ ?_; rotate_left; focus (refine .inl ⟨by kernel_rfl, ?_⟩; intro w hSw; (try dsimp only at hSw); go_simp; (try with_reducible rfl)); (try simp only [Act.put, List.setIfInBounds_toArray, List.set_cons_zero, List.set_cons_succ]))
    refine wpAnyH_done (by kernel_rfl) ?_ _
    refine NoPanic.normal ?_
    have hLast := hHeld17
    clear hHeld17
    go_wp2
    go_ret
    exact ⟨rfl, (And.left hLast).a.bel⟩
  · rw [if_neg hz] at HPU
    have dz : (rE x != 0) = true := zb_of (by simpa using hz)
    generalize rE x = z at *
    clear hz g2 HRP hlen
    go_enter Tryd.func6, Tryd.ntmps6
    go_wp2_with (first
      | (go_at_call 28; go_must ((with_reducible refine HAW.out.mono ?_); rintro e w1 ⟨rfl, hb⟩; have H1 := Lib.hid (H0.out.on hb); obtain ⟨c0, c1, c2⟩ := H1.out.bx.1.1.ex; clear hb))
      | (go_at_call 29; go_must ((with_reducible refine (HRR.out _).mono ?_); rintro e w2 ⟨rfl, hb⟩; clear c0 c1 c2; have H2 := Lib.hid (H1.out.on hb); obtain ⟨c0, c1, c2⟩ := H2.out.bx.1.1.ex; clear hb))
      | (go_at_call 30; go_must ((with_reducible refine (HPU.out _ H2.out.tb).mono ?_); intro e w3 hq; obtain ⟨v, rfl, hr, hb⟩ := hq; obtain ⟨Ab, cb, rfl, _⟩ := hr.pc; clear c0 c1 c2; have H3 := Lib.hid (H2.out.on hb); obtain ⟨c0, c1, c2⟩ := H3.out.bx.1.1.ex; clear hb hr))
      | (go_at_call 31; go_must ((with_reducible refine (HIR.out _ H3.out.tb).mono ?_); rintro e w4 ⟨rfl, hb⟩; clear c0 c1 c2; have H4 := Lib.hid (H3.out.on hb); clear hb)))
    go_ret
    exact ⟨rfl, bxE_bel H4.out.bx⟩
end Go.Proofs.YtapgfapplafepaaDoor

/- Numbers of eight and of thirty-two bits, opened. -/
namespace Go.Proofs.YtapgfapplafepaaDoor
set_option linter.unusedVariables false

theorem u8_ex {x : Int} (h : Lit.wf (.int .u8 x) = true) : ∃ a : UInt8, x = a.toNat := by
  have b : 0 ≤ x ∧ x ≤ 255 := by simpa [Lit.wf, IntKind.min, IntKind.max, IntKind.signed, IntKind.bits] using h
  exact ⟨UInt8.ofNat x.toNat, by rw [UInt8.toNat_ofNat']; omega⟩
theorem u32_ex {x : Int} (h : Lit.wf (.int .u32 x) = true) : ∃ a : UInt32, x = a.toNat := by
  have b : 0 ≤ x ∧ x ≤ 4294967295 := by simpa [Lit.wf, IntKind.min, IntKind.max, IntKind.signed, IntKind.bits] using h
  exact ⟨UInt32.ofNat x.toNat, by rw [UInt32.toNat_ofNat']; omega⟩
end Go.Proofs.YtapgfapplafepaaDoor

/- An export by value and a slice of exports, opened. -/
namespace Go.Proofs.YtapgfapplafepaaDoor
open Go.ChangeShapes Go.WideShapes Go.ChangeAt Go.RowKit Go.Joins Go.Deep
set_option linter.unusedVariables false
set_option maxRecDepth 100000

theorem cellsExp : Tryd.prog.cellsOf 62 = 3 := by kernel_rfl
section
variable {H : Type} {enc : TypeId × Value → H} {W : World} {sp : Nat → Bool}
/-- Three cells of an export. -/
theorem open_exp {n : Nat} {cs : List Value} {x : DataW H × List MemPlace} (h : DataW.trod enc Tryd.prog W 0 sp true n 62 cs = some x) (hc : cs.length = 3) : ∃ i : Ex, cs = exL i ∧ i.nam.length ≤ maxLen := by
  obtain ⟨ys, m, _, hy, hlen, hyl, hf⟩ := DataW.trod_struct Tryd.underlying62 h
  match cs, hc with
  | [c0, c1, c2], _ =>
    match ys, hyl with
    | [y0, y1, y2], _ =>
      have e1 : Tryd.prog.cellsOf 9 = 1 := by kernel_rfl
      have e2 : Tryd.prog.cellsOf 5 = 1 := by kernel_rfl
      have e3 : Tryd.prog.cellsOf 22 = 1 := by kernel_rfl
      have h0 : DataW.trod enc Tryd.prog W 0 sp true m 9 (([c0, c1, c2].drop 0).take (Tryd.prog.cellsOf 9)) = some y0 := hf 0 _ rfl
      have h1 : DataW.trod enc Tryd.prog W 0 sp true m 5 (([c0, c1, c2].drop 1).take (Tryd.prog.cellsOf 5)) = some y1 := hf 1 _ rfl
      have h2 : DataW.trod enc Tryd.prog W 0 sp true m 22 (([c0, c1, c2].drop 2).take (Tryd.prog.cellsOf 22)) = some y2 := hf 2 _ rfl
      rw [e1] at h0
      rw [e2] at h1
      rw [e3] at h2
      obtain ⟨s0, q0, _, ws0⟩ := DataW.trod_string Tryd.underlying9 h0
      obtain ⟨x1, q1, _, w1⟩ := DataW.trod_int Tryd.underlying5 h1
      obtain ⟨x2, q2, _, w2⟩ := DataW.trod_int Tryd.underlying22 h2
      obtain ⟨k, rfl⟩ := u8_ex w1
      obtain ⟨t, rfl⟩ := u32_ex w2
      have q0' : c0 = .string s0 := by simpa using q0
      have q1' : c1 = .int .u8 k.toNat := by simpa using q1
      have q2' : c2 = .int .u32 t.toNat := by simpa using q2
      exact ⟨⟨s0.data.toList, k, t⟩, by unfold exL exC; rw [S_of, q0', q1', q2'], by show s0.data.toList.length ≤ maxLen; rw [Array.length_toList]; exact ws0⟩
theorem open_ex {b0 : Nat} {r : Reach} {v : Value} {d : DataW H} {p : List MemPlace} (hv : Value.okWide Tryd.prog W r b0 62 v) (h : DataW.Trod enc Tryd.prog W 0 sp true 62 v d p) : ∃ i : Ex, v = exV i := by
  obtain ⟨cs, rfl, hsz⟩ := okWide_struct Tryd.underlying62 hv
  rw [cellsExp] at hsz
  obtain ⟨fuel, hf⟩ := h
  obtain ⟨i, hi, _⟩ := open_exp (cs := cs.toList) (by simpa [Value.cells] using hf) (by simpa using hsz)
  exact ⟨i, by show Value.agg cs = .agg (exC i); congr 1; apply Array.toList_inj.1; exact hi⟩
theorem open_exs {A : Option Addr} {len cap : Nat} {d : DataW H} {p : List MemPlace} (h : DataW.Trod enc Tryd.prog W 0 sp true 73 (.slice A len cap) d p) :
    ∃ l : List Ex, l.length = len ∧ Exs W A l ∧ (l.length : Int) ≤ 9223372036854775807 ∧ ∀ x ∈ l, x.nam.length ≤ maxLen := by
  obtain ⟨fuel, hf⟩ := h
  rcases open_slice Tryd.underlying73 hf with ⟨hcs, _⟩ | ⟨a, ln, cp, m, n, D, Pl, hcs, hb, hl, hm, hmm, hx, hi⟩
  · simp [Value.cells] at hcs
    obtain ⟨rfl, rfl, rfl⟩ := hcs
    exact ⟨[], rfl, (fun j i hi => by cases hi), by simp, fun x hx => by cases hx⟩
  · simp [Value.cells] at hcs
    obtain ⟨rfl, rfl, rfl⟩ := hcs
    have hlm : len ≤ m := by rw [hmm]; split <;> omega
    have each : ∀ j, j < len → ∃ i : Ex, (∀ u, u < 3 → W.cell? ((a.add (j * 3)).add u) = (exL i)[u]?) ∧ i.nam.length ≤ maxLen := by
      intro j hj
      obtain ⟨cs', hc, ht'⟩ := hi j (by omega)
      rw [cellsExp] at hc
      obtain ⟨_, hcl, hat⟩ := World.cells?_some hc
      obtain ⟨i, rfl, hw⟩ := open_exp ht' hcl
      exact ⟨i, fun u hu => hat u (by omega), hw⟩
    have pick : ∀ k, k ≤ len → ∃ l : List Ex, l.length = k ∧ (∀ (j : Nat) (i : Ex), l[j]? = some i → ∀ u, u < 3 → W.cell? ((a.add (j * 3)).add u) = (exL i)[u]?) ∧ ∀ x ∈ l, x.nam.length ≤ maxLen := by
      intro k
      induction k with
      | zero => intro _; exact ⟨[], rfl, (fun j i hi => by cases hi), fun x hx => by cases hx⟩
      | succ k ih =>
        intro hk
        obtain ⟨l, hl1, hl2, hl3⟩ := ih (by omega)
        obtain ⟨i, hq, hw⟩ := each k (by omega)
        refine ⟨l ++ [i], by simp [hl1], fun j i' hi' => ?_, fun x hx => (List.mem_append.1 hx).elim (hl3 x) (fun h => by rw [List.mem_singleton] at h; subst h; exact hw)⟩
        rcases Nat.lt_or_ge j k with g | g
        · rw [List.getElem?_append_left (by omega)] at hi'
          exact hl2 j i' hi'
        · have hj : j < (l ++ [i]).length := (List.getElem?_eq_some_iff.1 hi').1
          rw [List.length_append, List.length_singleton] at hj
          obtain rfl : j = k := by omega
          rw [List.getElem?_append_right (by omega), hl1, Nat.sub_self] at hi'
          injection hi' with hi'
          subst hi'
          exact hq
    obtain ⟨l, hl1, hl2, hl3⟩ := pick len (Nat.le_refl _)
    unfold maxLen at hm
    refine ⟨l, hl1, fun j i hij => ?_, by omega, hl3⟩
    have q := hl2 j i hij
    have hj0 := (List.getElem?_eq_some_iff.1 hij).1
    have q00 : W.cell? ((a.add (0 * 3)).add 0) = some (.string (S (l[0]'(by omega)).nam)) := hl2 0 _ (List.getElem?_eq_getElem (by omega : 0 < l.length)) 0 (by omega)
    obtain ⟨b, off, spot⟩ := a
    have hsp : spot = none := by simpa [Addr.add] using World.cell?_spot q00
    subst hsp
    have q2 : ∀ u, u < 3 → W.cell? ⟨b, off + j * 3 + u, none⟩ = (exL i)[u]? := fun u hu => by
      have := q u hu
      rw [Go.WideShapes.add_plain, Go.WideShapes.add_plain] at this
      exact this
    have q0 : W.cell? ⟨b, off + j * 3 + 0, none⟩ = some (.string (S i.nam)) := q2 0 (by omega)
    exact ⟨b, off, rfl, block_lt_of_cell q0, q2⟩
end
end Go.Proofs.YtapgfapplafepaaDoor

/- What the rows list of the two tables, as the contracts of unicode/utf8 want it; a world that holds them. -/
namespace Go.Proofs.YtapgfapplafepaaDoor
set_option linter.unusedVariables false
open Go.Shelf Go.Lib

theorem laidOut : laidOutB Tryd.prog = true := by kernel_rfl
theorem own : ownKnob Tryd.prog.godebug = none := by kernel_rfl
/-- What both rows list. -/
def both : List (String × DataW Unit) := [("unicode/utf8.acceptRanges", Rows.laid_unicode_utf8_acceptRanges), ("unicode/utf8.first", Rows.laid_unicode_utf8_first)]
theorem first_same : Rows.laid_unicode_utf8_first = Lib.firstData := by kernel_rfl
theorem accept_same : (Rows.laid_unicode_utf8_acceptRanges : DataW Unit) = Lib.acceptData := by kernel_rfl
theorem both_plain (W : World) : laidMetH Tryd.prog both W = laidMet Tryd.prog both W := Go.MakeChecks.laidMetH_plain _ _ _ (by kernel_rfl)
/-- The seat's numbers of the types and tables that the contracts of unicode/utf8 name. -/
def renU : Ren where
  f := fun _ => 0
  t := fun n => if n = 5 then 5 else if n = 119 then 138 else if n = 138 then 140 else 141
  g := fun n => if n = 3 then 0 else 1
theorem tabs_of {W : World} (h : laidMetH Tryd.prog both W) : Tabs W := by
  rw [both_plain] at h
  have h3 := Lib.laidMet.reads h (.tail _ (.head _))
  have h4 := Lib.laidMet.reads h (.head _)
  rw [first_same] at h3
  rw [accept_same] at h4
  exact utf8Tabs_of_readsT (ρ := renU) ⟨by kernel_rfl, by kernel_rfl, by kernel_rfl, by kernel_rfl⟩ ⟨by kernel_rfl, by kernel_rfl, by kernel_rfl, by kernel_rfl, by kernel_rfl, by kernel_rfl, by kernel_rfl⟩ h3 h4

/-- The settled world, the two tables laid. -/
noncomputable def laidWorld (os : Os) : World :=
  let w0 := World.holding Tryd.prog os ⟨#[], #[], []⟩
  let put (h : Array Obj) (g : Nat) (cs : Array Value) : Array Obj := h.modify g fun
    | .cells _ t frozen => .cells cs t frozen
    | o => o
  let h1 := put w0.heap 0 (Lib.firstTab.map fun z => Value.int .u8 z).toArray
  let h2 := put h1 1 ((List.range 16).flatMap fun i => [Value.int .u8 (Lib.accLo i), Value.int .u8 (Lib.accHi i)]).toArray
  { w0 with heap := h2 }
theorem laidWorld_met (os : Os) (args : Array Value) : laidMetH Tryd.prog both ((laidWorld os).forCall (fun _ _ => 0) ⟨#[], args, []⟩).memory := by
  rw [both_plain]
  exact (LaidIn.of_run (l := both) [1, 0] 8 (by kernel_rfl) (by kernel_rfl) (by kernel_rfl) (by kernel_rfl)).met
end Go.Proofs.YtapgfapplafepaaDoor

/- The walk of ExportsBack. -/
namespace Go.Proofs.YtapgfapplafepaaDoor
open Go.RowKit
set_option linter.unusedVariables false
set_option maxRecDepth 100000

theorem takeE_one {l : List Ex} {k : Nat} {x : Ex} (h : l[k]? = some x) : l.take (k + 1) = l.take k ++ [x] := by rw [List.take_add_one, h]; rfl
/-- What the law keeps once the list is read. -/
structure BKE (w : World) (l : List Ex) (base : Nat) (A2 : Option Addr) (c2 : Nat) (B : Nat) (Ab : Option Addr) (y : List UInt8) (W : World) : Prop where
  bel : Below w.heap.size w W
  r : RowE W base (.slice A2 l.length c2) l
  ly : Lies W B Ab (cells (nums y))
  o : B ≤ W.heap.size
theorem BKE.grown {w W W' : World} {l : List Ex} {base B c2 q : Nat} {A2 Ab : Option Addr} {y : List UInt8} (h : BKE w l base A2 c2 B Ab y W) (hg : W.grownBy W' (some q)) (h1 : w.heap.size ≤ q) (h2 : q < base) (h3 : B ≤ q) : BKE w l base A2 c2 B Ab y W' :=
  ⟨below_new h.bel hg h1, h.r.past hg h2, h.ly.grown hg h.o (fun g e => by injection e with e; omega), Nat.le_trans h.o hg.size⟩
theorem BKE.below {w W W' : World} {l : List Ex} {base B c2 : Nat} {A2 Ab : Option Addr} {y : List UInt8} (h : BKE w l base A2 c2 B Ab y W) (hb : Below W.heap.size W W') : BKE w l base A2 c2 B Ab y W' :=
  ⟨h.bel.trans (hb.mono h.bel.size), h.r.later hb, h.ly.below hb h.o, Nat.le_trans h.o hb.size⟩
/-- One of the input's and the one that was read, as a walk reads them; both lists. -/
abbrev TwoEx (w : World) (A A2 : Option Addr) (l : List Ex) (b off b2 off2 k : Nat) (x : Ex) (W : World) : Prop := (Below w.heap.size w W ∧ Exs W A l ∧ Exs W A2 l) ∧
  (W.cell? ⟨b, off + k * 3, none⟩ = some (.string (S x.nam)) ∧ W.cell? ⟨b, off + k * 3 + 1, none⟩ = some (.int .u8 x.kind.toNat) ∧ W.cell? ⟨b, off + k * 3 + 2, none⟩ = some (.int .u32 x.idx.toNat)) ∧
  (W.cell? ⟨b2, off2 + k * 3, none⟩ = some (.string (S x.nam)) ∧ W.cell? ⟨b2, off2 + k * 3 + 1, none⟩ = some (.int .u8 x.kind.toNat) ∧ W.cell? ⟨b2, off2 + k * 3 + 2, none⟩ = some (.int .u32 x.idx.toNat))
section
variable {w W W' : World} {A A2 : Option Addr} {l : List Ex} {b off b2 off2 k : Nat} {x : Ex}
theorem exTwo_of (h1 : Below w.heap.size w W) (h2 : Exs W A l) (h3 : Exs W A2 l) (hA : A = some ⟨b, off, none⟩) (hA2 : A2 = some ⟨b2, off2, none⟩) (hx : l[k]? = some x) : TwoEx w A A2 l b off b2 off2 k x W := by
  obtain ⟨c1, o1, e1, _, p⟩ := h2.three hx
  obtain ⟨c2, o2, e2, _, q⟩ := h3.three hx
  rw [hA] at e1
  rw [hA2] at e2
  injection e1 with e1
  injection e2 with e2
  injection e1 with a1 a2
  injection e2 with a3 a4
  subst a1; subst a2; subst a3; subst a4
  exact ⟨⟨h1, h2, h3⟩, p, q⟩
theorem exTwo_on (h : TwoEx w A A2 l b off b2 off2 k x W) (hA : A = some ⟨b, off, none⟩) (hA2 : A2 = some ⟨b2, off2, none⟩) (hx : l[k]? = some x) (hb : Below W.heap.size W W') : TwoEx w A A2 l b off b2 off2 k x W' :=
  exTwo_of (h.1.1.trans (hb.mono h.1.1.size)) (h.1.2.1.below hb) (h.1.2.2.below hb) hA hA2 hx
end
set_option maxHeartbeats 8000000 in
theorem lawXB {w : World} {A : Option Addr} {c : Nat} {l : List Ex} (hl : Exs w A l) (hT : Tabs w) (nl : (l.length : Int) ≤ 9223372036854775807) :
    Calls Tryd.prog 7 #[.slice A l.length c] w fun e w' => e = .returned (.bool true) ∧ Below w.heap.size w w' := by
  have HAW := Lib.hid (awake_ex w hT)
  have HL := Lib.hid hl
  have HTw := Lib.hid hT
  clear hl hT
  by_cases g1 : 20 < l.length
  · have t1 : decide ((20 : Int) < (l.length : Int)) = true := decide_eq_true (by omega)
    clear g1
    go_enter Tryd.func7, Tryd.ntmps7
    go_wp2_with (go_at_call 28; go_must ((with_reducible refine HAW.out.mono ?_); rintro e w1 ⟨rfl, hb⟩; have H1 := Lib.hid hb; clear hb))
    go_ret
    exact ⟨rfl, H1.out⟩
  have t1 : decide ((20 : Int) < (l.length : Int)) = false := decide_eq_false (by omega)
  have HRC := Lib.hid (fun W => rcount_ex l.length W (by omega))
  have hlb := lebL_len (l.length : Int) (by omega)
  obtain ⟨hd, hhd⟩ : ∃ hd, hd = lebL (l.length : Int) := ⟨_, rfl⟩
  rw [← hhd] at HRC hlb
  have HAL := Lib.hid (show allE l = hd ++ eputsL l by rw [hhd]; rfl)
  obtain ⟨n, hn⟩ : ∃ n, n = l.length := ⟨_, rfl⟩
  have HN := Lib.hid hn
  have HE := Lib.hid (show l.take n = l by rw [hn, List.take_length])
  have h20 : n ≤ 20 := by omega
  rw [← hn] at t1 HRC ⊢
  clear hn hhd g1 nl
  unfold Strs at HRC
  go_enter Tryd.func7, Tryd.ntmps7
  go_wp2_with (first
    | (go_at_call 28; go_must ((with_reducible refine HAW.out.mono ?_); rintro e w1 ⟨rfl, hb⟩; have H1 := Lib.hid hb; clear hb))
    | (go_at_call 37; go_must ((with_reducible refine (HRC.out _).mono ?_); rintro e w2 ⟨rfl, hb⟩; have H2 := Lib.hid (H1.out.trans (hb.mono H1.out.size)); clear hb)))
  go_loopw [3, 4, 5] (fun code want i wr => ∃ (k : Nat) (t : List UInt8), k ≤ n ∧ i = .int .i64 k ∧ code = .int .i64 (errE (l.take k)) ∧ want = .string (S t) ∧ t.length ≤ 10 + k * 421 ∧ (errE (l.take k) = 0 → t = hd ++ eputsL (l.take k)) ∧ ShortE (l.take k) ∧ Below w.heap.size w wr) (fun _ _ i _ => n - (intOf i).toNat)
  case atStart => exact ⟨0, hd, Nat.zero_le _, rfl, rfl, rfl, by omega, (fun _ => by simp [eputsL]), (fun x hx => by cases hx), H2.out⟩
  case round =>
    obtain ⟨k, t, hk, rfl, rfl, rfl, htl, htb, hsh, hb⟩ := hrel
    have hz1 := hb.size
    by_cases hlt : k < n
    · obtain ⟨x, hx⟩ : ∃ x, l[k]? = some x := ⟨_, List.getElem?_eq_getElem (by rw [← HN.out]; exact hlt)⟩
      obtain ⟨b, off, rfl, hbl, m0, m1, m2⟩ := (HL.out.below hb).three hx
      have s2 := S_size x.nam
      have HBA := Lib.hid (hb.alloc hz1 (.cells (exC x) 62))
      have hstep := errE_snoc hx
      have hpsn := eputsL_snoc hx
      by_cases b2 : 400 < x.nam.length
      · have t3 : decide ((400 : Int) < (x.nam.length : Int)) = true := decide_eq_true (by omega)
        clear b2 htb hsh hb hx hstep hpsn htl
        go_wp2
        go_ret
        exact ⟨rfl, HBA.out⟩
      have t3 : decide ((400 : Int) < (x.nam.length : Int)) = false := decide_eq_false (by omega)
      have HSH : Hid (ShortE (l.take (k + 1))) := Lib.hid fun q hq => by
        rw [takeE_one hx] at hq
        rcases List.mem_append.1 hq with hq | hq
        · exact hsh q hq
        · rw [List.mem_singleton] at hq; subst hq; omega
      have hil := eputL_len (x := x) (n := 400) (by omega) (by omega)
      have HRR := Lib.hid (rright_ex x (wr.alloc (.cells (exC x) 62)) (by omega))
      have HRP := Lib.hid (fun W => rput_ex x W (by omega))
      have HW := Lib.hid (Whole.made wr 62 (exC x))
      unfold Strs at HRP
      by_cases e0 : errE (l.take k) = 0
      · rw [if_neg (by simpa using e0)] at hstep
        have ht := htb e0
        have d0 : (errE (l.take k) == 0) = true := by simpa using e0
        obtain ⟨q, hq⟩ : ∃ q, q = errE (l.take k) := ⟨_, rfl⟩
        rw [← hq] at d0 ⊢
        by_cases z0 : rE x = 0
        · rw [z0] at HRR hstep
          have HSTEP := Lib.hid hstep
          have HTT := Lib.hid ht
          have HPS := Lib.hid hpsn
          obtain ⟨y, hy⟩ : ∃ y, y = eputL x := ⟨_, rfl⟩
          rw [← hy] at HRP hil HPS
          have st := S_size t
          have sy := S_size y
          have q1 : ¬ 9223372036854775807 < (S t).size + (S y).size := by omega
          clear b2 htb hsh hb hx hstep hpsn e0 hq ht hy z0 st sy
          go_wp2_with (first
            | (go_at_call 29; go_must ((with_reducible refine HRR.out.mono ?_); rintro e w3 ⟨rfl, hb⟩; have H3 := Lib.hid (HBA.out.trans (hb.mono HBA.out.size)); obtain ⟨c0, c1, c2⟩ := (HW.out.below hb).ex; clear hb))
            | (go_at_call 35; go_must ((with_reducible refine (HRP.out _).mono ?_); rintro e w4 ⟨rfl, hb⟩; have H4 := Lib.hid (H3.out.trans (hb.mono H3.out.size)); clear hb)))
          go_roundw
          case rel => exact ⟨k + 1, t ++ y, by omega, by go_num, by rw [HSTEP.out], by rw [S_append], by rw [List.length_append]; omega, fun _ => by rw [HPS.out, HTT.out, List.append_assoc], HSH.out, H4.out⟩
          case measure => simp [intOf]; omega
        · have HSTEP := Lib.hid hstep
          have HZN := Lib.hid z0
          have d1 : (rE x == 0) = false := by simpa using z0
          obtain ⟨z, hz⟩ : ∃ z, z = rE x := ⟨_, rfl⟩
          rw [← hz] at HRR HSTEP HZN d1
          clear b2 htb hsh hb hx hstep hpsn e0 hq ht z0 hz HRP
          go_wp2_with (go_at_call 29; go_must ((with_reducible refine HRR.out.mono ?_); rintro e w3 ⟨rfl, hb⟩; have H3 := Lib.hid (HBA.out.trans (hb.mono HBA.out.size)); clear hb))
          go_roundw
          case rel => exact ⟨k + 1, t, by omega, by go_num, by rw [HSTEP.out], rfl, by omega, fun e => absurd (HSTEP.out.symm.trans e) HZN.out, HSH.out, H3.out⟩
          case measure => simp [intOf]; omega
      · rw [if_pos e0] at hstep
        have HSTEP := Lib.hid hstep
        have HCN := Lib.hid e0
        have d0 : (errE (l.take k) == 0) = false := by simpa using e0
        obtain ⟨q, hq⟩ : ∃ q, q = errE (l.take k) := ⟨_, rfl⟩
        rw [← hq] at d0 HSTEP HCN ⊢
        clear b2 htb hsh hb hx hstep hpsn e0 hq HRP HRR
        go_wp2
        go_roundw
        case rel => exact ⟨k + 1, t, by omega, by go_num, by rw [HSTEP.out], rfl, by omega, fun e => absurd (HSTEP.out.symm.trans e) HCN.out, HSH.out, HBA.out⟩
        case measure => simp [intOf]; omega
    · obtain rfl : k = n := by omega
      rw [HE.out] at htb hsh ⊢
      have HB := Lib.hid hb
      have hpa := putall_ex (c := c) (HL.out.below hb) (HTw.out.below hb) hsh (by rw [← HN.out]; omega)
      rw [← HN.out] at hpa
      unfold PuttedAllE at hpa
      by_cases e0 : errE l = 0
      · have ht := (htb e0).trans HAL.out.symm
        rw [if_pos e0, e0] at hpa
        have HGA := Lib.hid (fun W p (h : Sc W p (allE l) 0) (hT : TbN p W) => getall_ex h hT rfl e0 (by rw [← HN.out]; omega))
        rw [e0]
        have htl2 : (allE l).length ≤ 1000000 := by rw [← ht]; omega
        rw [ht]
        obtain ⟨y, hy⟩ : ∃ y, y = allE l := ⟨_, rfl⟩
        rw [← hy] at hpa HGA htl2 ⊢
        have HPA := Lib.hid hpa
        clear hpa htb hsh hb e0 ht hy htl hlt
        go_upto_region 20 with (first
          | (go_at_call 38; go_must ((with_reducible refine HPA.out.mono ?_); intro e w3 hq; obtain ⟨v, rfl, hr, hb⟩ := hq; obtain ⟨Ab, cb, rfl, hpc⟩ := hr.pc; have H3 := Lib.hid (HB.out.trans (hb.mono HB.out.size)); have HP3 := Lib.hid hpc; clear hb hr hpc))
          | (go_at_call 13; go_must ((with_reducible refine (over_all HP3.out.lies htl2).mono ?_); intro e w7 hq; obtain ⟨p, rfl, hpp, hs, hb⟩ := hq; have HS7 := Lib.hid hs; have HB37 := Lib.hid hb; have HB7 := Lib.hid (H3.out.trans (hb.mono H3.out.size)); clear hs hb)))
        have h7p := HS7.out.lt
        have h3z := H3.out.size
        have HS8 := Lib.hid (HS7.out.alloc (.cells #[.pointer (some ⟨p, 0, none⟩)] 36))
        have HPT := Lib.hid (Whole.made w7 36 #[.pointer (some ⟨p, 0, none⟩)])
        have HB8 := Lib.hid (HB7.out.trans ((below_box w7 (.cells #[.pointer (some ⟨p, 0, none⟩)] 36)).mono HB7.out.size))
        have HL8 := Lib.hid (HP3.out.lies.below (HB37.out.trans ((below_box w7 (.cells #[.pointer (some ⟨p, 0, none⟩)] 36)).mono HB37.out.size)) (Nat.le_refl _))
        have h8 : w3.heap.size ≤ (w7.alloc (.cells #[.pointer (some ⟨p, 0, none⟩)] 36)).heap.size := Nat.le_trans HB37.out.size (below_box w7 _).size
        have h87 : w7.heap.size < (w7.alloc (.cells #[.pointer (some ⟨p, 0, none⟩)] 36)).heap.size := HPT.out.lt
        clear HAW H1 H2 HB HPA H3 HP3 HB37 HB7 HS7
        generalize w7.alloc (.cells #[.pointer (some ⟨p, 0, none⟩)] 36) = W8 at *
        generalize w7.heap.size = b6 at *
        have HV := Lib.hid (valueY_ok (T := fun v W => v.2.1 = l.length ∧ BKE w l (W8.heap.size + 4) v.1 v.2.2 w3.heap.size Ab y W) (cfE2 #[.pointer (some ⟨b6, 0, none⟩)]) (q := p) (w := W8) (by omega)
          (fun q W W' b h1 h2 h3 hg => ⟨h3.1, h3.2.grown hg (by omega) (by omega) (by omega)⟩)
          (fun W hb hsz => by
            have hS := HS8.out.below hb
            have hB := HB8.out.trans (hb.mono HB8.out.size)
            refine (closE2 (p := p) (l := y) (xs := l) (HPT.out.below hb) (HGA.out W p hS (TbN.of HTw.out hB (by omega) (Nat.le_of_lt hS.lt)))).mono ?_
            rintro e w' ⟨v, rfl, hr, hs, hg⟩
            obtain ⟨A2, c2, rfl⟩ := hr.slice
            exact ⟨(A2, l.length, c2), rfl, ⟨rfl, below_new hB hg (by omega), hr.mono hsz, (HL8.out.below hb h8).grown hg (Nat.le_trans h8 hb.size) (fun g e => by injection e with e; omega), Nat.le_trans h8 (Nat.le_trans hb.size hg.size)⟩, hg⟩))
        clear HGA HS8 HPT HL8
        go_upto_region 21 with (go_at_call 39; go_must ((with_reducible refine HV.out.mono ?_); rintro e w9 ⟨⟨A2, n2, c2⟩, rfl, ⟨hn2, hbk⟩, hg⟩; have HN2 := Lib.hid hn2; clear hn2; have HBK := Lib.hid (hbk.below (below_box w9 (.cells #[.int .i64 0, .int .i64 0] 39))); have k0 := (Whole.made w9 39 #[.int .i64 0, .int .i64 0]).cell 0; clear hbk hg))
        simp only [List.getElem?_toArray, List.getElem?_cons_zero] at k0
        have hn3 : n2 = k := HN2.out.trans HN.out.symm
        clear HN2
        subst hn3
        generalize w9.alloc (.cells #[.int .i64 0, .int .i64 0] 39) = W10 at *
        have hcv := str_any HBK.out.ly cb 9 Tryd.underlying9
        have HI := Lib.hid (HL.out.below HBK.out.bel)
        have HJ := Lib.hid HBK.out.r.exs
        have HSm := Lib.hid (fun x W => show Calls Tryd.prog 36 #[exV x, exV x] W fun e w' => e = .returned (.bool true) ∧ Below W.heap.size W w' from by have h2 := refSame_ex x x W; rw [decide_eq_true rfl] at h2; exact h2)
        clear HV HB8
        go_wp2
        clear hcv k0
        go_loopw [12] (fun i wr => ∃ j : Nat, j ≤ n2 ∧ i = .int .i64 j ∧ Below w.heap.size w wr ∧ Exs wr A l ∧ Exs wr A2 l) (fun i _ => n2 - (intOf i).toNat)
        case atStart => exact ⟨0, Nat.zero_le _, rfl, HBK.out.bel, HI.out, HJ.out⟩
        case round =>
          obtain ⟨j, hj, rfl, hb, hi, hjj⟩ := hrel
          by_cases hlt : j < n2
          · obtain ⟨x, hx⟩ : ∃ x, l[j]? = some x := ⟨_, List.getElem?_eq_getElem (by rw [← HN.out]; exact hlt)⟩
            obtain ⟨b, off, hA, _⟩ := hi.three hx
            obtain ⟨b2, off2, hA2, _⟩ := hjj.three hx
            have hS0 := exTwo_of hb hi hjj hA hA2 hx
            have HS0 := Lib.hid (exTwo_on hS0 hA hA2 hx (Below.refl _ _).drew)
            have HON := Lib.hid (fun W W' (h : TwoEx w A A2 l b off b2 off2 j x W) (hb : Below W.heap.size W W') => exTwo_on h hA hA2 hx hb)
            subst hA; subst hA2
            clear hx hb hi hjj hS0
            go_upto_region 26 with fail
            refine wp_region_noPanic ?_
            refine wp_region_held_drew (S := fun W => TwoEx w (some ⟨b, off, none⟩) (some ⟨b2, off2, none⟩) l b off b2 off2 j x W) (by kernel_rfl) HS0.out (fun hHeld => ?_)
            (refine heldTake (i := 0) (oi := { dst := some 93, op := Op.move (Operand.tmp 10), type := 73, pos := "law.go:96", after := #[], guard := none }) (v := ?_) rfl (by kernel_rfl) (by kernel_rfl) (by kernel_rfl) (by assumption) ?_ ?_; rotate_left; focus (refine .inl ⟨by kernel_rfl, ?_⟩; intro w hSw; (try dsimp only at hSw); go_simp; (try with_reducible rfl)); (try simp only [Act.put, List.setIfInBounds_toArray, List.set_cons_zero, List.set_cons_succ]))
            (refine heldTake (i := 1) (oi := { dst := some 94, op := Op.move (Operand.tmp 12), type := 3, pos := "law.go:96", after := #[], guard := none }) (v := ?_) rfl (by kernel_rfl) (by kernel_rfl) (by kernel_rfl) (by assumption) ?_ ?_; rotate_left; focus (refine .inl ⟨by kernel_rfl, ?_⟩; intro w hSw; (try dsimp only at hSw); go_simp; (try with_reducible rfl)); (try simp only [Act.put, List.setIfInBounds_toArray, List.set_cons_zero, List.set_cons_succ]))
            (refine heldTake (i := 2) (oi := { dst := some 95, op := Op.indexAddr 73 (Operand.tmp 93) (Operand.tmp 94), type := 0, pos := "law.go:96", after := #[{ on := 0, ground := Ground.data }, { on := 1, ground := Ground.data }], guard := none }) (v := ?_) rfl (by kernel_rfl) (by kernel_rfl) (by kernel_rfl) (by assumption) ?_ ?_; rotate_left; focus (refine .inl ⟨by kernel_rfl, ?_⟩; intro w hSw; (try dsimp only at hSw); go_simp; (try with_reducible rfl)); (try simp only [Act.put, List.setIfInBounds_toArray, List.set_cons_zero, List.set_cons_succ]))
            (refine heldTake (i := 3) (oi := { dst := some 96, op := Op.load 62 (Operand.tmp 95), type := 62, pos := "law.go:96", after := #[{ on := 2, ground := Ground.data }], guard := none }) (v := ?_) rfl (by kernel_rfl) (by kernel_rfl) (by kernel_rfl) (by assumption) ?_ ?_; rotate_left; focus (refine .inl ⟨by kernel_rfl, ?_⟩; intro w hSw; (try dsimp only at hSw); go_simp; (try with_reducible rfl)); (try simp only [Act.put, List.setIfInBounds_toArray, List.set_cons_zero, List.set_cons_succ]))
            (refine heldTake (i := 4) (oi := { dst := some 97, op := Op.move (Operand.tmp 0), type := 73, pos := "law.go:96", after := #[], guard := none }) (v := ?_) rfl (by kernel_rfl) (by kernel_rfl) (by kernel_rfl) (by assumption) ?_ ?_; rotate_left; focus (refine .inl ⟨by kernel_rfl, ?_⟩; intro w hSw; (try dsimp only at hSw); go_simp; (try with_reducible rfl)); (try simp only [Act.put, List.setIfInBounds_toArray, List.set_cons_zero, List.set_cons_succ]))
            (refine heldTake (i := 5) (oi := { dst := some 98, op := Op.move (Operand.tmp 12), type := 3, pos := "law.go:96", after := #[], guard := none }) (v := ?_) rfl (by kernel_rfl) (by kernel_rfl) (by kernel_rfl) (by assumption) ?_ ?_; rotate_left; focus (refine .inl ⟨by kernel_rfl, ?_⟩; intro w hSw; (try dsimp only at hSw); go_simp; (try with_reducible rfl)); (try simp only [Act.put, List.setIfInBounds_toArray, List.set_cons_zero, List.set_cons_succ]))
            (refine heldTake (i := 6) (oi := { dst := some 99, op := Op.indexAddr 73 (Operand.tmp 97) (Operand.tmp 98), type := 0, pos := "law.go:96", after := #[{ on := 4, ground := Ground.data }, { on := 5, ground := Ground.data }], guard := none }) (v := ?_) rfl (by kernel_rfl) (by kernel_rfl) (by kernel_rfl) (by assumption) ?_ ?_; rotate_left; focus (refine .inl ⟨by kernel_rfl, ?_⟩; intro w hSw; (try dsimp only at hSw); go_simp; (try with_reducible rfl)); (try simp only [Act.put, List.setIfInBounds_toArray, List.set_cons_zero, List.set_cons_succ]))
            (refine heldTake (i := 7) (oi := { dst := some 100, op := Op.load 62 (Operand.tmp 99), type := 62, pos := "law.go:96", after := #[{ on := 6, ground := Ground.data }], guard := none }) (v := ?_) rfl (by kernel_rfl) (by kernel_rfl) (by kernel_rfl) (by assumption) ?_ ?_; rotate_left; focus (refine .inl ⟨by kernel_rfl, ?_⟩; intro w hSw; (try dsimp only at hSw); go_simp; (try with_reducible rfl)); (try simp only [Act.put, List.setIfInBounds_toArray, List.set_cons_zero, List.set_cons_succ]))
            refine wpAnyH_ready (rs := [8]) (by kernel_rfl) (by simp) ?_
            refine AllReadyH.cons (o := { dst := some 101, op := Op.call { callee := Callee.value (Operand.func 36), args := #[Operand.tmp 96, Operand.tmp 100], argTypes := #[62, 62] }, type := 4, pos := "law.go:96", after := #[{ on := 3, ground := Ground.data }, { on := 7, ground := Ground.data }], guard := none }) rfl (fun K hK => ?_) AllReadyH.nil
            go_simp
            (go_at_call 36; (with_reducible refine (HSm.out x _).mono ?_); rintro e w11 ⟨rfl, hb⟩; have hk11 := HON.out _ _ hHeld hb; clear hb)
            refine hK.out _ _ hk11 (fun hHeld8 => ?_)
            clear hK K hHeld
            (try simp only [Act.put, List.setIfInBounds_toArray, List.set_cons_zero, List.set_cons_succ])
            (refine heldTake (i := 9) (oi := { dst := some 102, op := Op.unOp UnOp.not 4 (Operand.tmp 101), type := 4, pos := "law.go:96", after := #[{ on := 8, ground := Ground.data }], guard := none }) (v := ?_) rfl (by kernel_rfl) (by kernel_rfl) (by kernel_rfl) (by assumption) ?_ ?_; rotate_left; focus (refine .inl ⟨by kernel_rfl, ?_⟩; intro w hSw; (try dsimp only at hSw); go_simp; (try with_reducible rfl)); (try simp only [Act.put, List.setIfInBounds_toArray, List.set_cons_zero, List.set_cons_succ]))
            refine wpAnyH_done (by kernel_rfl) ?_ _
            refine NoPanic.normal ?_
            have hLast := hHeld8
            clear hHeld8
            obtain ⟨⟨hb3, hi3, hj3⟩, _⟩ := hLast
            have HB3 := Lib.hid hb3
            have HI3 := Lib.hid hi3
            have HJ3 := Lib.hid hj3
            clear hb3 hi3 hj3
            go_wp2
            go_roundw
            case rel => exact ⟨j + 1, by omega, by go_num, HB3.out, HI3.out, HJ3.out⟩
            case measure => simp [intOf]; omega
          · obtain rfl : j = n2 := by omega
            have HB3 := Lib.hid hb
            clear hb hi hjj
            go_wp2
            go_ret
            exact ⟨rfl, HB3.out⟩
      · rw [if_neg e0] at hpa
        have d0 : (errE l != 0) = true := zb_of (by simpa using e0)
        obtain ⟨z, hz⟩ : ∃ z, z = errE l := ⟨_, rfl⟩
        rw [← hz] at hpa d0 ⊢
        have HPA := Lib.hid hpa
        clear hpa htb hsh hb e0 hz hlt
        go_wp2_with (go_at_call 38; go_must ((with_reducible refine HPA.out.mono ?_); intro e w3 hq; obtain ⟨v, rfl, hr, hb⟩ := hq; obtain ⟨Ab, cb, rfl, _⟩ := hr.pc; have H3 := Lib.hid (HB.out.trans (hb.mono HB.out.size)); clear hb hr))
        go_ret
        exact ⟨rfl, H3.out⟩
end Go.Proofs.YtapgfapplafepaaDoor
